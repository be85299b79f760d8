/-
  A number's digits plainly; no program's function. Conditions: as each theorem says.
-/
import Derived.Test.YtceabbbmgfeofaaGreatDoorRows
import Derived.Test.YtceabbbmgfeofaaGreatDoorBytes
import Derived.RegionTactic
import Derived.BigRegion
namespace Go.Proofs.YtceabbbmgfeofaaGreatDoor.Decs
open Go.RowKit Texts Bytes
set_option linter.unusedVariables false
set_option maxRecDepth 100000

/-- The digits of n. -/
def decL (n : Nat) : List UInt8 := if h : n < 10 then [UInt8.ofNat (48 + n)] else decL (n / 10) ++ [UInt8.ofNat (48 + n % 10)]
termination_by n
decreasing_by omega
theorem decL_small {n : Nat} (h : n < 10) : decL n = [UInt8.ofNat (48 + n)] := by rw [decL, dif_pos h]
theorem decL_big {n : Nat} (h : 10 ≤ n) : decL n = decL (n / 10) ++ [UInt8.ofNat (48 + n % 10)] := by rw [decL, dif_neg (by omega)]
/-- A number in digits. -/
def decB (n : Int) : ByteArray := ⟨((if n < 0 then [45] else []) ++ decL n.natAbs).toArray⟩
theorem ret_string {a b : ByteArray} (h : a = b) : Ending.returned (.string a) = .returned (.string b) := by rw [h]

theorem dec_step {m : Nat} (h : 0 < m) (out : List UInt8) : decL m ++ out = (if m / 10 = 0 then UInt8.ofNat (48 + m % 10) :: out else decL (m / 10) ++ (UInt8.ofNat (48 + m % 10) :: out)) := by
  by_cases h10 : m < 10
  · rw [decL_small h10, if_pos (by omega), Nat.mod_eq_of_lt h10]; rfl
  · rw [decL_big (by omega), if_neg (by omega)]; simp
theorem dec_len {m k : Nat} (hm : 0 < m) (h : m * 10 ^ k ≤ 9223372036854775808) : k ≤ 18 := by
  rcases Nat.lt_or_ge 18 k with hk | hk
  · exfalso
    have h1 : 10 ^ 19 ≤ 10 ^ k := Nat.pow_le_pow_right (by omega) hk
    have h2 : 10 ^ k ≤ m * 10 ^ k := Nat.le_mul_of_pos_left _ hm
    have : (10 : Nat) ^ 19 = 10000000000000000000 := by decide
    omega
  · exact hk
theorem dec_next {m k : Nat} (h : m * 10 ^ k ≤ 9223372036854775808) : m / 10 * 10 ^ (k + 1) ≤ 9223372036854775808 := by
  have : m / 10 * 10 ^ (k + 1) ≤ m * 10 ^ k := by
    rw [Nat.pow_succ, ← Nat.mul_assoc, Nat.mul_right_comm]
    exact Nat.mul_le_mul_right _ (Nat.div_mul_le_self m 10)
  omega

theorem one_digit (wr : World) (m : Nat) : (convert 22 9 (.slice (some ⟨wr.heap.size, 0, none⟩) 1 1)).run Tryz.prog (wr.alloc (.cells #[.int .u8 (48 + (m : Int) % 10)] 5)) = .ok (.string ⟨#[UInt8.ofNat (48 + m % 10)]⟩) (wr.alloc (.cells #[.int .u8 (48 + (m : Int) % 10)] 5)) := by
  have hlt : m % 10 < 10 := Nat.mod_lt _ (by omega)
  have := string_of_row (W := wr.alloc (.cells #[.int .u8 (48 + (m : Int) % 10)] 5)) (g := wr.heap.size) (n := 1) (Y := #[.int .u8 (48 + (m : Int) % 10)]) (l := [UInt8.ofNat (48 + m % 10)]) (heap_alloc_new wr _) (by simp [Lib.byteCells]; omega) rfl 1
  exact this
end Go.Proofs.YtceabbbmgfeofaaGreatDoor.Decs
