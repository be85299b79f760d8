/-
  Contracts: spec.l01Dec answers the digits of a number; of what was there nothing is changed. Conditions: a number of int64.
-/
import Derived.Test.YtnkknfnndoegpaaGreatDoorRows
import Derived.Test.YtnkknfnndoegpaaGreatDoorBytes
import Derived.RegionTactic
import Derived.BigRegion
namespace Go.Proofs.YtnkknfnndoegpaaGreatDoor.Decs
open Go.RowKit Texts Bytes
set_option linter.unusedVariables false
set_option maxRecDepth 100000
/-- The digits of n. -/
def decL (n : Nat) : List UInt8 := if h : n < 10 then [UInt8.ofNat (48 + n)] else decL (n / 10) ++ [UInt8.ofNat (48 + n % 10)]
termination_by n
decreasing_by omega
theorem decL_small {n : Nat} (h : n < 10) : decL n = [UInt8.ofNat (48 + n)] := by rw [decL, dif_pos h]
theorem decL_big {n : Nat} (h : 10 ≤ n) : decL n = decL (n / 10) ++ [UInt8.ofNat (48 + n % 10)] := by rw [decL, dif_neg (by omega)]
/-- A number in digits. -/
def decB (n : Int) : ByteArray := ⟨((if n < 0 then [45] else []) ++ decL n.natAbs).toArray⟩
theorem ret_string {a b : ByteArray} (h : a = b) : Ending.returned (.string a) = .returned (.string b) := by rw [h]
theorem dec_step {m : Nat} (h : 0 < m) (out : List UInt8) : decL m ++ out = (if m / 10 = 0 then UInt8.ofNat (48 + m % 10) :: out else decL (m / 10) ++ (UInt8.ofNat (48 + m % 10) :: out)) := by
  by_cases h10 : m < 10
  · rw [decL_small h10, if_pos (by omega), Nat.mod_eq_of_lt h10]; rfl
  · rw [decL_big (by omega), if_neg (by omega)]; simp
theorem dec_len {m k : Nat} (hm : 0 < m) (h : m * 10 ^ k ≤ 9223372036854775808) : k ≤ 18 := by
  rcases Nat.lt_or_ge 18 k with hk | hk
  · exfalso
    have h1 : 10 ^ 19 ≤ 10 ^ k := Nat.pow_le_pow_right (by omega) hk
    have h2 : 10 ^ k ≤ m * 10 ^ k := Nat.le_mul_of_pos_left _ hm
    have : (10 : Nat) ^ 19 = 10000000000000000000 := by decide
    omega
  · exact hk
theorem dec_next {m k : Nat} (h : m * 10 ^ k ≤ 9223372036854775808) : m / 10 * 10 ^ (k + 1) ≤ 9223372036854775808 := by
  have : m / 10 * 10 ^ (k + 1) ≤ m * 10 ^ k := by
    rw [Nat.pow_succ, ← Nat.mul_assoc, Nat.mul_right_comm]
    exact Nat.mul_le_mul_right _ (Nat.div_mul_le_self m 10)
  omega
theorem one_digit (wr : World) (m : Nat) : (convert 101 9 (.slice (some ⟨wr.heap.size, 0, none⟩) 1 1)).run Tryz.prog (wr.alloc (.cells #[.int .u8 (48 + (m : Int) % 10)] 5)) = .ok (.string ⟨#[UInt8.ofNat (48 + m % 10)]⟩) (wr.alloc (.cells #[.int .u8 (48 + (m : Int) % 10)] 5)) := by
  have hlt : m % 10 < 10 := Nat.mod_lt _ (by omega)
  have := string_of_row (W := wr.alloc (.cells #[.int .u8 (48 + (m : Int) % 10)] 5)) (g := wr.heap.size) (n := 1) (Y := #[.int .u8 (48 + (m : Int) % 10)]) (l := [UInt8.ofNat (48 + m % 10)]) (heap_alloc_new wr _) (by simp [Lib.byteCells]; omega) rfl 1
  exact this
/-- Digits of what is not negative. -/
theorem specDec (n : Nat) (hn : n ≤ 9223372036854775807) (w : World) :
    Calls Tryz.prog 39 #[.int .i64 n] w fun e w' => e = .returned (.string (decB n)) ∧ Below w.heap.size w w' := by
  by_cases h0 : n = 0
  · subst h0
    have hf := Lib.hid (show (⟨#[48]⟩ : ByteArray) = decB ((0 : Nat) : Int) by unfold decB; rw [show ((0 : Nat) : Int).natAbs = 0 from rfl, decL_small (by omega)]; rfl)
    go_enter Tryz.func39, Tryz.ntmps39
    go_wp2_with fail
    go_ret
    exact ⟨ret_string hf.out, Below.refl _ _⟩
  have hpos : 0 < n := by omega
  have hi : 0 < (n : Int) := by omega
  have hi2 : (n : Int) ≠ 0 := by omega
  have hi3 : 0 ≤ (n : Int) := by omega
  clear h0
  go_enter Tryz.func39, Tryz.ntmps39
  go_wp2_with fail
  go_loopw [0, 4] (fun v o wr => ∃ (m : Nat) (l : List UInt8), m ≤ 9223372036854775807 ∧ v = .int .i64 m ∧ o = .string ⟨l.toArray⟩ ∧ Hid (decL n = (if m = 0 then l else decL m ++ l)) ∧ Hid (m * 10 ^ l.length ≤ 9223372036854775808) ∧ Below w.heap.size w wr) (fun v _ _ => (intOf v).toNat)
  case atStart => exact ⟨n, [], by omega, rfl, rfl, Lib.hid (by rw [if_neg (by omega), List.append_nil]), Lib.hid (by simp; omega), Below.refl _ _⟩
  case round =>
    obtain ⟨m, l, hm, rfl, rfl, hd, hl, hb⟩ := hrel
    have HB := Lib.hid hb
    have hz := Lib.hid hb.size
    by_cases hm0 : m = 0
    · subst hm0
      have hf : Hid ((⟨l.toArray⟩ : ByteArray) = decB (n : Int)) := Lib.hid (by unfold decB; rw [if_neg (by omega), show ((n : Nat) : Int).natAbs = n from rfl, hd.out, if_pos rfl]; rfl)
      have hneg : decide ((n : Int) < 0) = false := decide_eq_false (by omega)
      clear hb hd hl
      go_wp2_with fail
      go_ret
      exact ⟨ret_string hf.out, HB.out⟩
    · have hmp : 0 < m := by omega
      have hmi : 0 < (m : Int) := by omega
      have hmj : ((m : Int) == 0) = false := by rw [beq_eq_false_iff_ne]; omega
      have hlen := dec_len hmp hl.out
      have hcv := one_digit wr m
      have hrel : Hid (decL n = (if m / 10 = 0 then UInt8.ofNat (48 + m % 10) :: l else decL (m / 10) ++ (UInt8.ofNat (48 + m % 10) :: l))) := Lib.hid (by rw [hd.out, if_neg hm0, dec_step hmp])
      have hpw : Hid (m / 10 * 10 ^ (UInt8.ofNat (48 + m % 10) :: l).length ≤ 9223372036854775808) := Lib.hid (dec_next hl.out)
      have hdiv : (m : Int).tdiv 10 = ((m / 10 : Nat) : Int) := by rw [Int.tdiv_eq_ediv_of_nonneg (by omega)]; rfl
      have HB1 := Lib.hid (HB.out.alloc HB.out.size (.cells #[.int .u8 (48 + (m : Int) % 10)] 5))
      have hdl := Nat.div_lt_self hmp (show 1 < 10 by omega)
      clear hb hd hl
      generalize UInt8.ofNat (48 + m % 10) = c at *
      have hcat : ((⟨#[c]⟩ : ByteArray) ++ ⟨l.toArray⟩) = ⟨(c :: l).toArray⟩ := by
        apply ByteArray.ext; simp [ByteArray.data_append]
      go_wp2_with fail
      go_roundw
      case rel => exact ⟨m / 10, c :: l, by omega, by go_num, by trivial, hrel, hpw, HB1.out⟩
      case measure => simp [intOf]; omega
end Go.Proofs.YtnkknfnndoegpaaGreatDoor.Decs
