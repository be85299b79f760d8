/-
  Plain mathematics of the CRC on natural numbers: one bit's step, a byte's, a text's. No program.
-/
import Derived.Laws.BitsAllLaws
import Derived.Below
namespace Go.Proofs.Ytpfgmdlkacildaa.CrcMath
open Go
set_option linter.unusedVariables false

def st (x : Nat) : Nat := if x % 2 = 1 then (x / 2) ^^^ 3988292384 else x / 2
def it : Nat → Nat → Nat
  | 0, x => x
  | k + 1, x => st (it k x)
def cb (r c : Nat) : Nat := it 8 (r ^^^ c)
def crcL (r : Nat) (l : List UInt8) : Nat := l.foldl (fun r c => cb r c.toNat) r
def tw (x : Nat) : Nat := 4294967295 ^^^ x
def crcOf (crc : Nat) (s : ByteArray) : Nat := tw (crcL (tw crc) s.data.toList)

theorem xor_lt {a b : Nat} (ha : a < 4294967296) (hb : b < 4294967296) : a ^^^ b < 4294967296 :=
  Nat.xor_lt_two_pow (n := 32) ha hb
theorem st_lt {x : Nat} (h : x < 4294967296) : st x < 4294967296 := by
  unfold st; split
  · exact xor_lt (by omega) (by omega)
  · omega
theorem it_lt (k : Nat) {x : Nat} (h : x < 4294967296) : it k x < 4294967296 := by
  induction k with
  | zero => exact h
  | succ k ih => exact st_lt ih
theorem cb_lt {r c : Nat} (h : r < 4294967296) (h' : c < 256) : cb r c < 4294967296 := it_lt 8 (xor_lt h (by omega))
theorem crcL_lt {r : Nat} (h : r < 4294967296) (l : List UInt8) : crcL r l < 4294967296 := by
  induction l generalizing r with
  | nil => exact h
  | cons c l ih => exact ih (cb_lt h c.toNat_lt)
theorem tw_lt {x : Nat} (h : x < 4294967296) : tw x < 4294967296 := xor_lt (by omega) h
theorem crcOf_lt (crc : Nat) (s : ByteArray) (h : crc < 4294967296) : crcOf crc s < 4294967296 := tw_lt (crcL_lt (tw_lt h) _)
theorem crcL_snoc (r : Nat) (l : List UInt8) (c : UInt8) : crcL r (l ++ [c]) = cb (crcL r l) c.toNat := by simp [crcL]
theorem take_snoc (s : ByteArray) (k : Nat) (h : k < s.size) : s.data.toList.take (k + 1) = s.data.toList.take k ++ [s[k]] := by
  rw [List.take_succ_eq_append_getElem (by simpa using h)]; rfl

/-! ### In the walk's own spelling -/
theorem xor_eq (a b : Int) (h1 : 0 ≤ a) (h2 : a ≤ 4294967295) (h3 : 0 ≤ b) (h4 : b ≤ 4294967295) :
    bits BinOp.xor IntKind.u32 a b = ((a.toNat ^^^ b.toNat : Nat) : Int) := u32_xor a b h1 (by omega) h3 (by omega)
theorem and_one (a : Int) (h1 : 0 ≤ a) (h2 : a ≤ 4294967295) : bits BinOp.and IntKind.u32 a 1 = ((a.toNat % 2 : Nat) : Int) := by
  rw [u32_and a 1 h1 (by omega) (by omega) (by omega)]
  show ((a.toNat &&& 1 : Nat) : Int) = _
  rw [nat_mask1]
theorem and_range (a : Int) (h1 : 0 ≤ a) (h2 : a ≤ 4294967295) : 0 ≤ bits BinOp.and IntKind.u32 a 1 ∧ bits BinOp.and IntKind.u32 a 1 ≤ 4294967295 := by
  rw [and_one a h1 h2]; omega
theorem xor_range (a b : Int) (h1 : 0 ≤ a) (h2 : a ≤ 4294967295) (h3 : 0 ≤ b) (h4 : b ≤ 4294967295) :
    0 ≤ bits BinOp.xor IntKind.u32 a b ∧ bits BinOp.xor IntKind.u32 a b ≤ 4294967295 := by
  rw [xor_eq a b h1 h2 h3 h4]
  have := xor_lt (a := a.toNat) (b := b.toNat) (by omega) (by omega)
  omega
theorem st_yes {x : Int} {n : Nat} (h : x = (n : Int)) (h2 : x ≤ 4294967295) (t : (bits BinOp.and IntKind.u32 x 1 == 1) = true) :
    bits BinOp.xor IntKind.u32 (x / 2) 3988292384 = ((st n : Nat) : Int) := by
  subst h
  rw [and_one _ (by omega) h2] at t
  have t' : n % 2 = 1 := by simp at t; omega
  rw [xor_eq _ _ (by omega) (by omega) (by omega) (by omega), st, if_pos t']
  congr 1
theorem st_no {x : Int} {n : Nat} (h : x = (n : Int)) (h2 : x ≤ 4294967295) (t : (bits BinOp.and IntKind.u32 x 1 == 1) = false) :
    x / 2 = ((st n : Nat) : Int) := by
  subst h
  rw [and_one _ (by omega) h2] at t
  have t' : ¬ n % 2 = 1 := by
    intro e; rw [Int.toNat_natCast, e] at t; simp at t
  rw [st, if_neg t']; omega
theorem top_nat : (4294967295 : Int).toNat = 4294967295 := by simp
theorem max_u32 : IntKind.u32.max = 4294967295 := by simp [IntKind.max, IntKind.bits, IntKind.signed]
theorem tw_l {x : Int} (h1 : 0 ≤ x) (h2 : x ≤ 4294967295) : bits BinOp.xor IntKind.u32 IntKind.u32.max x = ((tw x.toNat : Nat) : Int) := by
  rw [max_u32, xor_eq _ _ (by omega) (by omega) h1 h2, top_nat, tw]
theorem tw_r {x : Int} (h1 : 0 ≤ x) (h2 : x ≤ 4294967295) : bits BinOp.xor IntKind.u32 x 4294967295 = ((tw x.toNat : Nat) : Int) := by
  rw [xor_eq _ _ h1 h2 (by omega) (by omega), top_nat, tw, Nat.xor_comm]
theorem tw_l_in {x : Int} (h1 : 0 ≤ x) (h2 : x ≤ 4294967295) : 0 ≤ bits BinOp.xor IntKind.u32 IntKind.u32.max x ∧ bits BinOp.xor IntKind.u32 IntKind.u32.max x ≤ 4294967295 := by
  rw [tw_l h1 h2]; have := tw_lt (x := x.toNat) (by omega); omega
theorem tw_r_in {x : Int} (h1 : 0 ≤ x) (h2 : x ≤ 4294967295) : 0 ≤ bits BinOp.xor IntKind.u32 x 4294967295 ∧ bits BinOp.xor IntKind.u32 x 4294967295 ≤ 4294967295 := by
  rw [tw_r h1 h2]; have := tw_lt (x := x.toNat) (by omega); omega
end Go.Proofs.Ytpfgmdlkacildaa.CrcMath
