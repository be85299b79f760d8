/-
  Plain mathematics of the numbers in bytes (seven bits a byte, the lowest first; the sign in the lowest bit). No program.
-/
import Derived.Laws.BitsAllLaws
import Derived.Below
namespace Go.Proofs.YtlncdkeooacebaaDoor.NumMath
open Go

/-- u in bytes; the fuel is the number of bytes that may be. -/
def putL : Nat → Nat → List UInt8
  | 0, u => [u.toUInt8]
  | f + 1, u => if u < 128 then [u.toUInt8] else (u % 128 + 128).toUInt8 :: putL f (u / 128)
/-- An integer as a number from 0 on. -/
def fold (n : Int) : Nat := if n < 0 then (-2 * n - 1).toNat else (2 * n).toNat
theorem fold_lt {n : Int} (h0 : -9223372036854775808 ≤ n) (h1 : n ≤ 9223372036854775807) : fold n < 18446744073709551616 := by
  unfold fold; split <;> omega
def putB (n : Int) : ByteArray := ⟨(putL 9 (fold n)).toArray⟩

theorem putL_stop {f u : Nat} (h : u < 128) : putL f u = [u.toUInt8] := by
  cases f with
  | zero => rfl
  | succ f => rw [putL, if_pos h]
theorem putL_go {f u : Nat} (h : 128 ≤ u) : putL (f + 1) u = (u % 128 + 128).toUInt8 :: putL f (u / 128) := by
  rw [putL, if_neg (by omega)]
/-- What a loop has written behind k rounds, and what is left of the number. -/
def left : Nat → Nat → Nat
  | 0, u => u
  | k + 1, u => left k u / 128
def did : Nat → Nat → List UInt8
  | 0, _ => []
  | k + 1, u => did k u ++ [(left k u % 128 + 128).toUInt8]
theorem did_length (k u : Nat) : (did k u).length = k := by
  induction k with
  | zero => rfl
  | succ k ih => simp [did, ih]
/-- All rounds that there are went on. -/
def on (k u : Nat) : Prop := ∀ j, j < k → 128 ≤ left j u
theorem left_le (k u : Nat) : left k u * 128 ^ k ≤ u := by
  induction k with
  | zero => simp [left]
  | succ k ih =>
    have h : left k u / 128 * 128 ≤ left k u := Nat.div_mul_le_self _ _
    calc left (k + 1) u * 128 ^ (k + 1) = (left k u / 128 * 128) * 128 ^ k := by rw [left, Nat.pow_succ, Nat.mul_comm (128 ^ k), ← Nat.mul_assoc]
      _ ≤ left k u * 128 ^ k := Nat.mul_le_mul_right _ h
      _ ≤ u := ih
theorem on_few {k u : Nat} (hu : u < 18446744073709551616) (h : on k u) : k ≤ 9 := by
  by_cases h9 : k ≤ 9
  · exact h9
  · have h1 := h 9 (by omega)
    have h2 := left_le 9 u
    have h3 : (128 : Nat) ^ 9 = 9223372036854775808 := by decide +kernel
    rw [h3] at h2
    omega
theorem put_split {u : Nat} : ∀ {k f : Nat}, k ≤ f → on k u → putL f u = did k u ++ putL (f - k) (left k u)
  | 0, f, _, _ => by simp [did, left]
  | k + 1, f, hk, h => by
    rw [put_split (k := k) (f := f) (by omega) (fun j hj => h j (by omega)), did, List.append_assoc]
    obtain ⟨g, hg⟩ : ∃ g, f - k = g + 1 := ⟨f - k - 1, by omega⟩
    rw [hg, putL_go (h k (by omega)), show f - (k + 1) = g by omega]
    simp [left]
theorem put_end {k u : Nat} (hu : u < 18446744073709551616) (h : on k u) (hs : left k u < 128) : putL 9 u = did k u ++ [(left k u).toUInt8] := by
  rw [put_split (on_few hu h) h, putL_stop hs]
theorem on_next {k u : Nat} (h : on k u) (hk : 128 ≤ left k u) : on (k + 1) u := fun j hj => by
  by_cases e : j = k
  · subst e; exact hk
  · exact h j (by omega)
theorem left_lt (k u : Nat) (hu : u < 18446744073709551616) : left k u < 18446744073709551616 := by
  induction k with
  | zero => exact hu
  | succ k ih => simp only [left]; omega

/-! ### The fold in the walk's own spelling -/
theorem fold_neg {n : Int} (h0 : -9223372036854775808 ≤ n) (hn : n < 0) : 2 * -(n + 1) + 1 = ((fold n : Nat) : Int) := by
  rw [fold, if_pos hn]; omega
theorem fold_pos {n : Int} (hn : 0 ≤ n) : 2 * n = ((fold n : Nat) : Int) := by
  rw [fold, if_neg (by omega)]; omega
theorem ones_xor (a : Nat) (ha : a < 18446744073709551616) : a ^^^ 18446744073709551615 = 18446744073709551615 - a := by
  have h := BitVec.toNat_xor (BitVec.ofNat 64 a) (BitVec.allOnes 64)
  rw [BitVec.xor_allOnes, BitVec.toNat_not, BitVec.toNat_ofNat, BitVec.toNat_allOnes] at h
  have e1 : a % 2 ^ 64 = a := Nat.mod_eq_of_lt (by omega)
  rw [e1] at h
  have e2 : (2 : Nat) ^ 64 - 1 - a = 18446744073709551615 - a := by omega
  have e3 : (2 : Nat) ^ 64 - 1 = 18446744073709551615 := by omega
  rw [e2, e3] at h
  exact h.symm
theorem fold_bits {n : Int} (h0 : -9223372036854775808 ≤ n) (h1 : n ≤ 9223372036854775807) :
    bits BinOp.xor IntKind.u64 (IntKind.u64.wrap (IntKind.u64.wrap n * 2)) (IntKind.u64.wrap (n / 9223372036854775808)) = ((fold n : Nat) : Int) := by
  rw [IntKind.wrap_u64, IntKind.wrap_u64, IntKind.wrap_u64]
  by_cases hn : n < 0
  · have e1 : n / 9223372036854775808 % 18446744073709551616 = 18446744073709551615 := by omega
    have e2 : n % 18446744073709551616 * 2 % 18446744073709551616 = 2 * n + 18446744073709551616 := by omega
    rw [e1, e2, u64_xor _ _ (by omega) (by omega) (by omega) (by omega)]
    have e3 : (18446744073709551615 : Int).toNat = 18446744073709551615 := by simp
    rw [e3, ones_xor _ (by omega), ← fold_neg h0 hn]
    omega
  · have e1 : n / 9223372036854775808 % 18446744073709551616 = 0 := by omega
    have e2 : n % 18446744073709551616 * 2 % 18446744073709551616 = 2 * n := by omega
    rw [e1, e2, u64_xor _ _ (by omega) (by omega) (by omega) (by omega)]
    have e3 : (0 : Int).toNat = 0 := rfl
    rw [e3, Nat.xor_zero, ← fold_pos (by omega)]
    omega
theorem or_nat : ∀ a : Nat, a < 256 → a ||| 128 = a % 128 + 128 := by decide +kernel
theorem or_128 (x : Int) : bits BinOp.or IntKind.u8 (x % 256) 128 = x % 128 + 128 := by
  rw [u8_or _ _ (by omega) (by omega) (by omega) (by omega)]
  have e : (128 : Int).toNat = 128 := rfl
  rw [e, or_nat _ (by omega)]
  omega

theorem and_127 {y : Int} (h0 : 0 ≤ y) (h1 : y ≤ 255) : bits BinOp.and IntKind.u8 y 127 = y % 128 := by
  rw [u8_and _ _ h0 (by omega) (by omega) (by omega)]
  have e : (127 : Int).toNat = 127 := rfl
  rw [e, nat_mask7]
  omega
theorem or_zero {y : Int} (h0 : 0 ≤ y ∧ y < 18446744073709551616) : bits BinOp.or IntKind.u64 0 y = y := by
  rw [u64_or _ _ (by omega) (by omega) h0.1 h0.2]
  have e : (0 : Int).toNat = 0 := rfl
  rw [e, Nat.zero_or]
  omega
/-! ### Reading -/
/-- The byte at a place, as a number; 0 behind the end. -/
def nb (t : ByteArray) (k : Nat) : Nat := if h : k < t.size then t[k].toNat else 0
theorem nb_at {t : ByteArray} {k : Nat} (h : k < t.size) : t[k].toNat = nb t k := by simp [nb, h]
theorem nb_lt (t : ByteArray) (k : Nat) : nb t k < 256 := by
  unfold nb; split
  · exact UInt8.toNat_lt _
  · omega
/-- What is read from place k on, u being read so far: the number, how many bytes, the code. -/
def scan (t : ByteArray) : Nat → Nat → Nat → Nat × Nat × Int
  | 0, _, _ => (0, 0, 3)
  | f + 1, k, u =>
    if t.size ≤ k then (0, 0, 4)
    else if k = 9 ∧ 1 < nb t k then (0, 0, 3)
    else if nb t k < 128 then (if nb t k = 0 ∧ 0 < k then (0, 0, 3) else (u + nb t k * 128 ^ k, k + 1, 0))
    else scan t f (k + 1) (u + nb t k % 128 * 128 ^ k)
theorem scan_end {t : ByteArray} {k u : Nat} (hk : k ≤ 9) (h : t.size ≤ k) : scan t (10 - k) k u = (0, 0, 4) := by
  rw [show 10 - k = (9 - k) + 1 by omega, scan, if_pos h]
theorem scan_big {t : ByteArray} {k u : Nat} (hk : k = 9) (h : k < t.size) (hb : 1 < nb t k) : scan t (10 - k) k u = (0, 0, 3) := by
  rw [show 10 - k = (9 - k) + 1 by omega, scan, if_neg (by omega), if_pos ⟨hk, hb⟩]
theorem scan_last {t : ByteArray} {k u : Nat} (hk : k < 9 ∨ k = 9 ∧ nb t k ≤ 1) (h : k < t.size) (hb : nb t k < 128) :
    scan t (10 - k) k u = if nb t k = 0 ∧ 0 < k then (0, 0, 3) else (u + nb t k * 128 ^ k, k + 1, 0) := by
  rw [show 10 - k = (9 - k) + 1 by omega, scan, if_neg (by omega), if_neg (by omega), if_pos hb]
theorem scan_next {t : ByteArray} {k u : Nat} (hk : k < 9) (h : k < t.size) (hb : 128 ≤ nb t k) :
    scan t (10 - k) k u = scan t (10 - (k + 1)) (k + 1) (u + nb t k % 128 * 128 ^ k) := by
  rw [show 10 - k = (9 - k) + 1 by omega, scan, if_neg (by omega), if_neg (by omega), if_neg (by omega), show 10 - (k + 1) = 9 - k by omega]
theorem pow_le9 {k : Nat} (hk : k ≤ 8) : 128 ^ k ≤ 72057594037927936 := by
  have h := Nat.pow_le_pow_right (n := 128) (by omega) hk
  have e : (128 : Nat) ^ 8 = 72057594037927936 := by decide
  omega
theorem shift_fit {k y : Nat} (hy : y < 128) (hk : k < 9 ∨ k = 9 ∧ y ≤ 1) : y * 128 ^ k < 18446744073709551616 := by
  rcases hk with hk | ⟨rfl, hy1⟩
  · have h1 := pow_le9 (k := k) (by omega)
    have h2 : y * 128 ^ k ≤ 127 * 72057594037927936 := Nat.mul_le_mul (by omega) h1
    omega
  · have e : (128 : Nat) ^ 9 = 9223372036854775808 := by decide
    have h2 : y * 128 ^ 9 ≤ 1 * 128 ^ 9 := Nat.mul_le_mul_right _ hy1
    omega
theorem or_shift {x y : Int} {k : Nat} (hx : 0 ≤ x) (hlt : x.toNat < 128 ^ k) (hy0 : 0 ≤ y) (hy1 : y < 128) (hk : k < 9 ∨ k = 9 ∧ y ≤ 1) :
    bits BinOp.or IntKind.u64 x (IntKind.u64.wrap (y * 2 ^ (7 * k))) = ((x.toNat + y.toNat * 128 ^ k : Nat) : Int) := by
  obtain ⟨n, rfl⟩ := Int.eq_ofNat_of_zero_le hy0
  obtain ⟨m, rfl⟩ := Int.eq_ofNat_of_zero_le hx
  have e1 : ((n : Int) * 2 ^ (7 * k)) = ((n * 128 ^ k : Nat) : Int) := by
    rw [Int.natCast_mul, Int.natCast_pow, Int.pow_mul]
    congr 1
  have hf := shift_fit (k := k) (y := n) (by omega) (by omega)
  have hm : m < 18446744073709551616 := by
    have h9 : k ≤ 9 := by omega
    have h := Nat.pow_le_pow_right (n := 128) (by omega) h9
    have e : (128 : Nat) ^ 9 = 9223372036854775808 := by decide
    simp only [Int.toNat_natCast] at hlt
    omega
  rw [e1, IntKind.wrap_u64, Int.emod_eq_of_lt (by omega) (by omega), u64_or _ _ (by omega) (by omega) (by omega) (by omega)]
  simp only [Int.toNat_natCast] at hlt ⊢
  congr 1
  rw [Nat.or_comm, nat_join (7 * k) (n * 128 ^ k) m ?_ ?_]
  · omega
  · rw [show (128 : Nat) ^ k = 2 ^ (7 * k) by rw [Nat.pow_mul]]; exact Nat.mul_mod_left _ _
  · rw [Nat.pow_mul]; exact hlt
theorem pow_next {u y k : Nat} (hu : u < 128 ^ k) (hy : y < 128) : u + y * 128 ^ k < 128 ^ (k + 1) := by
  have h : y * 128 ^ k ≤ 127 * 128 ^ k := Nat.mul_le_mul_right _ (by omega)
  rw [Nat.pow_succ]; omega

theorem scan_lt (t : ByteArray) : ∀ (f k u : Nat), k + f ≤ 10 → u < 128 ^ k → (scan t f k u).1 < 18446744073709551616 ∧ (scan t f k u).2.1 ≤ 10
  | 0, k, u, _, _ => by simp [scan]
  | f + 1, k, u, hk, hu => by
    rw [scan]
    have hb := nb_lt t k
    split
    · simp
    · split
      · simp
      · rename_i h1 h2
        split
        · split
          · simp
          · rename_i h3 h4
            have hf := shift_fit (k := k) (y := nb t k) h3 (by omega)
            refine ⟨?_, by simp; omega⟩
            show u + nb t k * 128 ^ k < _
            by_cases h9 : k = 9
            · subst h9
              have e : (128 : Nat) ^ 9 = 9223372036854775808 := by decide
              have h5 : nb t 9 * 128 ^ 9 ≤ 1 * 128 ^ 9 := Nat.mul_le_mul_right _ (by omega)
              omega
            · have h8 := pow_next (y := nb t k) hu h3
              have h6 := Nat.pow_le_pow_right (n := 128) (by omega) (show k + 1 ≤ 9 by omega)
              have e : (128 : Nat) ^ 9 = 9223372036854775808 := by decide
              omega
        · exact scan_lt t f (k + 1) _ (by omega) (pow_next hu (by omega))
theorem scan_fault (t : ByteArray) : ∀ (f k u : Nat), (scan t f k u).2.2 ≠ 0 → scan t f k u = (0, 0, (scan t f k u).2.2)
  | 0, k, u, _ => by simp [scan]
  | f + 1, k, u, h => by
    rw [scan] at h ⊢
    split
    · rfl
    · rename_i h1
      rw [if_neg h1] at h
      split
      · rfl
      · rename_i h2
        rw [if_neg h2] at h
        split
        · rename_i h3
          rw [if_pos h3] at h
          split
          · rfl
          · rename_i h4
            rw [if_neg h4] at h
            exact absurd rfl h
        · rename_i h3
          rw [if_neg h3] at h
          exact scan_fault t f _ _ h
theorem scan_zero {t : ByteArray} {u z : Nat} {c : Int} (h : (u, z, c) = scan t 10 0 0) (hc : (u, z, c).2.2 ≠ 0) : (u, z, c) = (0, 0, c) := by
  have := scan_fault t 10 0 0 (by rw [← h]; exact hc)
  rw [← h] at this
  exact this
/-- A number read, taken as one with a sign. -/
def unz (u : Nat) : Int := if u % 2 = 1 then -((u / 2 : Nat) : Int) - 1 else ((u / 2 : Nat) : Int)
theorem unz_fold {n : Int} (h0 : -9223372036854775808 ≤ n) (h1 : n ≤ 9223372036854775807) : unz (fold n) = n := by
  unfold fold unz; split <;> split <;> omega
theorem unz_range {u : Nat} (h : u < 18446744073709551616) : -9223372036854775808 ≤ unz u ∧ unz u ≤ 9223372036854775807 := by
  unfold unz; split <;> omega
theorem nb_extract (s : ByteArray) (p k : Nat) : nb (s.extract p s.size) k = nb s (p + k) := by
  unfold nb
  by_cases h : p + k < s.size
  · have h' : k < (s.extract p s.size).size := by simp; omega
    rw [dif_pos h, dif_pos h', ByteArray.getElem_extract]
  · have h' : ¬ k < (s.extract p s.size).size := by simp; omega
    rw [dif_neg h, dif_neg h']
/-- readNum: the number, the place behind it, the code. -/
def readN (s : ByteArray) (at_ : Int) : Int × Int × Int :=
  if at_ < 0 then (0, 0, 1)
  else if (s.size : Int) < at_ then (0, 0, 4)
  else if (scan (s.extract at_.toNat s.size) 10 0 0).2.2 = 0 then (unz (scan (s.extract at_.toNat s.size) 10 0 0).1, at_ + ((scan (s.extract at_.toNat s.size) 10 0 0).2.1 : Int), 0)
  else (0, 0, (scan (s.extract at_.toNat s.size) 10 0 0).2.2)
theorem readN_neg {s : ByteArray} {a : Int} (h : a < 0) : readN s a = (0, 0, 1) := by rw [readN, if_pos h]
theorem readN_far {s : ByteArray} {a : Int} (h0 : 0 ≤ a) (h : (s.size : Int) < a) : readN s a = (0, 0, 4) := by rw [readN, if_neg (by omega), if_pos h]
theorem readN_yes {s : ByteArray} {p : Nat} (h : p ≤ s.size) (hc : (scan (s.extract p s.size) 10 0 0).2.2 = 0) :
    readN s p = (unz (scan (s.extract p s.size) 10 0 0).1, p + ((scan (s.extract p s.size) 10 0 0).2.1 : Int), 0) := by
  rw [readN, if_neg (by omega), if_neg (by omega), Int.toNat_natCast, if_pos hc]
theorem readN_no {s : ByteArray} {p : Nat} (h : p ≤ s.size) (hc : ¬ (scan (s.extract p s.size) 10 0 0).2.2 = 0) :
    readN s p = (0, 0, (scan (s.extract p s.size) 10 0 0).2.2) := by
  rw [readN, if_neg (by omega), if_neg (by omega), Int.toNat_natCast, if_neg hc]
end Go.Proofs.YtlncdkeooacebaaDoor.NumMath
