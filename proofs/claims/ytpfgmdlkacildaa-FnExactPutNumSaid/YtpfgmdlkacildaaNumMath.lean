/-
  Plain mathematics of the numbers in bytes (seven bits a byte, the lowest first; the sign in the lowest bit). No program.
-/
import Derived.Laws.BitsAllLaws
import Derived.Below
namespace Go.Proofs.Ytpfgmdlkacildaa.NumMath
open Go

/-- u in bytes; the fuel is the number of bytes that may be. -/
def putL : Nat → Nat → List UInt8
  | 0, u => [u.toUInt8]
  | f + 1, u => if u < 128 then [u.toUInt8] else (u % 128 + 128).toUInt8 :: putL f (u / 128)
/-- An integer as a number from 0 on. -/
def fold (n : Int) : Nat := if n < 0 then (-2 * n - 1).toNat else (2 * n).toNat
theorem fold_lt {n : Int} (h0 : -9223372036854775808 ≤ n) (h1 : n ≤ 9223372036854775807) : fold n < 18446744073709551616 := by
  unfold fold; split <;> omega
def putB (n : Int) : ByteArray := ⟨(putL 9 (fold n)).toArray⟩

theorem putL_stop {f u : Nat} (h : u < 128) : putL f u = [u.toUInt8] := by
  cases f with
  | zero => rfl
  | succ f => rw [putL, if_pos h]
theorem putL_go {f u : Nat} (h : 128 ≤ u) : putL (f + 1) u = (u % 128 + 128).toUInt8 :: putL f (u / 128) := by
  rw [putL, if_neg (by omega)]
/-- What a loop has written behind k rounds, and what is left of the number. -/
def left : Nat → Nat → Nat
  | 0, u => u
  | k + 1, u => left k u / 128
def did : Nat → Nat → List UInt8
  | 0, _ => []
  | k + 1, u => did k u ++ [(left k u % 128 + 128).toUInt8]
theorem did_length (k u : Nat) : (did k u).length = k := by
  induction k with
  | zero => rfl
  | succ k ih => simp [did, ih]
/-- All rounds that there are went on. -/
def on (k u : Nat) : Prop := ∀ j, j < k → 128 ≤ left j u
theorem left_le (k u : Nat) : left k u * 128 ^ k ≤ u := by
  induction k with
  | zero => simp [left]
  | succ k ih =>
    have h : left k u / 128 * 128 ≤ left k u := Nat.div_mul_le_self _ _
    calc left (k + 1) u * 128 ^ (k + 1) = (left k u / 128 * 128) * 128 ^ k := by rw [left, Nat.pow_succ, Nat.mul_comm (128 ^ k), ← Nat.mul_assoc]
      _ ≤ left k u * 128 ^ k := Nat.mul_le_mul_right _ h
      _ ≤ u := ih
theorem on_few {k u : Nat} (hu : u < 18446744073709551616) (h : on k u) : k ≤ 9 := by
  by_cases h9 : k ≤ 9
  · exact h9
  · have h1 := h 9 (by omega)
    have h2 := left_le 9 u
    have h3 : (128 : Nat) ^ 9 = 9223372036854775808 := by decide +kernel
    rw [h3] at h2
    omega
theorem put_split {u : Nat} : ∀ {k f : Nat}, k ≤ f → on k u → putL f u = did k u ++ putL (f - k) (left k u)
  | 0, f, _, _ => by simp [did, left]
  | k + 1, f, hk, h => by
    rw [put_split (k := k) (f := f) (by omega) (fun j hj => h j (by omega)), did, List.append_assoc]
    obtain ⟨g, hg⟩ : ∃ g, f - k = g + 1 := ⟨f - k - 1, by omega⟩
    rw [hg, putL_go (h k (by omega)), show f - (k + 1) = g by omega]
    simp [left]
theorem put_end {k u : Nat} (hu : u < 18446744073709551616) (h : on k u) (hs : left k u < 128) : putL 9 u = did k u ++ [(left k u).toUInt8] := by
  rw [put_split (on_few hu h) h, putL_stop hs]
theorem on_next {k u : Nat} (h : on k u) (hk : 128 ≤ left k u) : on (k + 1) u := fun j hj => by
  by_cases e : j = k
  · subst e; exact hk
  · exact h j (by omega)
theorem left_lt (k u : Nat) (hu : u < 18446744073709551616) : left k u < 18446744073709551616 := by
  induction k with
  | zero => exact hu
  | succ k ih => simp only [left]; omega

/-! ### The fold in the walk's own spelling -/
theorem fold_neg {n : Int} (h0 : -9223372036854775808 ≤ n) (hn : n < 0) : 2 * -(n + 1) + 1 = ((fold n : Nat) : Int) := by
  rw [fold, if_pos hn]; omega
theorem fold_pos {n : Int} (hn : 0 ≤ n) : 2 * n = ((fold n : Nat) : Int) := by
  rw [fold, if_neg (by omega)]; omega
theorem ones_xor (a : Nat) (ha : a < 18446744073709551616) : a ^^^ 18446744073709551615 = 18446744073709551615 - a := by
  have h := BitVec.toNat_xor (BitVec.ofNat 64 a) (BitVec.allOnes 64)
  rw [BitVec.xor_allOnes, BitVec.toNat_not, BitVec.toNat_ofNat, BitVec.toNat_allOnes] at h
  have e1 : a % 2 ^ 64 = a := Nat.mod_eq_of_lt (by omega)
  rw [e1] at h
  have e2 : (2 : Nat) ^ 64 - 1 - a = 18446744073709551615 - a := by omega
  have e3 : (2 : Nat) ^ 64 - 1 = 18446744073709551615 := by omega
  rw [e2, e3] at h
  exact h.symm
theorem fold_bits {n : Int} (h0 : -9223372036854775808 ≤ n) (h1 : n ≤ 9223372036854775807) :
    bits BinOp.xor IntKind.u64 (IntKind.u64.wrap (IntKind.u64.wrap n * 2)) (IntKind.u64.wrap (n / 9223372036854775808)) = ((fold n : Nat) : Int) := by
  rw [IntKind.wrap_u64, IntKind.wrap_u64, IntKind.wrap_u64]
  by_cases hn : n < 0
  · have e1 : n / 9223372036854775808 % 18446744073709551616 = 18446744073709551615 := by omega
    have e2 : n % 18446744073709551616 * 2 % 18446744073709551616 = 2 * n + 18446744073709551616 := by omega
    rw [e1, e2, u64_xor _ _ (by omega) (by omega) (by omega) (by omega)]
    have e3 : (18446744073709551615 : Int).toNat = 18446744073709551615 := by simp
    rw [e3, ones_xor _ (by omega), ← fold_neg h0 hn]
    omega
  · have e1 : n / 9223372036854775808 % 18446744073709551616 = 0 := by omega
    have e2 : n % 18446744073709551616 * 2 % 18446744073709551616 = 2 * n := by omega
    rw [e1, e2, u64_xor _ _ (by omega) (by omega) (by omega) (by omega)]
    have e3 : (0 : Int).toNat = 0 := rfl
    rw [e3, Nat.xor_zero, ← fold_pos (by omega)]
    omega
theorem or_nat : ∀ a : Nat, a < 256 → a ||| 128 = a % 128 + 128 := by decide +kernel
theorem or_128 (x : Int) : bits BinOp.or IntKind.u8 (x % 256) 128 = x % 128 + 128 := by
  rw [u8_or _ _ (by omega) (by omega) (by omega) (by omega)]
  have e : (128 : Int).toNat = 128 := rfl
  rw [e, or_nat _ (by omega)]
  omega
end Go.Proofs.Ytpfgmdlkacildaa.NumMath
