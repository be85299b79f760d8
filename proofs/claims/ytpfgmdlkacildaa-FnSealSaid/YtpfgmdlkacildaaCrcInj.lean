/-
  Plain mathematics: one byte turned gives another CRC; a CRC goes on from text to text. No program.
-/
import Derived.Test.YtpfgmdlkacildaaCrcMath
namespace Go.Proofs.Ytpfgmdlkacildaa.CrcMath
open Go
set_option linter.unusedVariables false

theorem xor_cancel {a b c : Nat} (h : a ^^^ c = b ^^^ c) : a = b := by
  have := congrArg (· ^^^ c) h
  simpa [Nat.xor_assoc] using this
theorem poly_top {a : Nat} (h : a < 2147483648) : 2147483648 ≤ a ^^^ 3988292384 := by
  have h1 : (a ^^^ 3988292384).testBit 31 = true := by
    rw [Nat.testBit_xor, Nat.testBit_lt_two_pow (by omega : a < 2 ^ 31)]
    decide
  have := Nat.ge_two_pow_of_testBit h1
  omega
theorem st_inj {x y : Nat} (hx : x < 4294967296) (hy : y < 4294967296) (h : st x = st y) : x = y := by
  unfold st at h
  split at h <;> split at h
  · have := xor_cancel h; omega
  · have := poly_top (a := x / 2) (by omega); omega
  · have := poly_top (a := y / 2) (by omega); omega
  · omega
theorem it_inj : ∀ (k : Nat) {x y : Nat}, x < 4294967296 → y < 4294967296 → it k x = it k y → x = y
  | 0, x, y, _, _, h => h
  | k + 1, x, y, hx, hy, h => it_inj k hx hy (st_inj (it_lt k hx) (it_lt k hy) h)
theorem cb_inj_l {r q c : Nat} (hr : r < 4294967296) (hq : q < 4294967296) (hc : c < 256) (h : cb r c = cb q c) : r = q :=
  xor_cancel (it_inj 8 (xor_lt hr (by omega)) (xor_lt hq (by omega)) h)
theorem cb_inj_r {r c d : Nat} (hr : r < 4294967296) (hc : c < 256) (hd : d < 256) (h : cb r c = cb r d) : c = d := by
  have h2 := it_inj 8 (xor_lt hr (by omega)) (xor_lt hr (by omega)) h
  rw [Nat.xor_comm r c, Nat.xor_comm r d] at h2
  exact xor_cancel h2
theorem crcL_inj : ∀ (l : List UInt8) {r q : Nat}, r < 4294967296 → q < 4294967296 → crcL r l = crcL q l → r = q
  | [], r, q, _, _, h => h
  | c :: l, r, q, hr, hq, h => cb_inj_l hr hq c.toNat_lt (crcL_inj l (cb_lt hr c.toNat_lt) (cb_lt hq c.toNat_lt) h)
theorem crcL_append (r : Nat) (l m : List UInt8) : crcL r (l ++ m) = crcL (crcL r l) m := by simp [crcL]
/-- One byte turned. -/
theorem crcL_turn {r : Nat} (hr : r < 4294967296) (l m : List UInt8) {c d : UInt8} (hcd : c ≠ d) : crcL r (l ++ c :: m) ≠ crcL r (l ++ d :: m) := by
  intro h
  rw [crcL_append, crcL_append] at h
  have hl := crcL_lt hr l
  have h2 := crcL_inj m (cb_lt hl c.toNat_lt) (cb_lt hl d.toNat_lt) h
  exact hcd (UInt8.toNat_inj.1 (cb_inj_r hl c.toNat_lt d.toNat_lt h2))
theorem xor_twice (a x : Nat) : a ^^^ (a ^^^ x) = x := by rw [← Nat.xor_assoc, Nat.xor_self, Nat.zero_xor]
theorem tw_tw {x : Nat} : tw (tw x) = x := by
  rw [tw, tw]
  generalize 4294967295 = a
  exact xor_twice a x
theorem tw_inj {x y : Nat} (h : tw x = tw y) : x = y := by rw [← tw_tw (x := x), h, tw_tw]
/-- A CRC goes on. -/
theorem crcOf_append (s t : ByteArray) : crcOf (crcOf 0 s) t = crcOf 0 (s ++ t) := by
  unfold crcOf
  rw [tw_tw, ByteArray.toList_data_append, crcL_append]
end Go.Proofs.Ytpfgmdlkacildaa.CrcMath
