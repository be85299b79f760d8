/-
  Plain mathematics: a number that was written is read back at any place; without its last byte it is too short; so for texts. No program.
-/
import Derived.Test.YtlncdkeooacebaaDoorGetText
import Derived.Test.YtlncdkeooacebaaDoorPutText
namespace Go.Proofs.YtlncdkeooacebaaDoor.NumsMath
open Go NumMath Gets GetTexts PutTexts

theorem nb_append_left {a b : ByteArray} {i : Nat} (h : i < a.size) : nb (a ++ b) i = nb a i := by
  unfold nb
  rw [dif_pos h, dif_pos (by simp; omega), ByteArray.getElem_append_left h]
theorem nb_append_right {a b : ByteArray} (i : Nat) : nb (a ++ b) (a.size + i) = nb b i := by
  unfold nb
  by_cases h : i < b.size
  · rw [dif_pos h, dif_pos (by simp; omega), ByteArray.getElem_append_right (by omega)]
    simp
  · rw [dif_neg h, dif_neg (by simp; omega)]
theorem nb_cut {a : ByteArray} {i q : Nat} (h : i < q) (hq : q ≤ a.size) : nb (a.extract 0 q) i = nb a i := by
  unfold nb
  rw [dif_pos (show i < a.size by omega), dif_pos (show i < (a.extract 0 q).size by simp; omega), ByteArray.getElem_extract]
  simp
theorem nb_put {n : Int} {i : Nat} (h : i < (putL 9 (fold n)).length) : nb (putB n) i = ((putL 9 (fold n)).getD i 0).toNat := by
  unfold nb putB
  have h' : i < (ByteArray.mk (putL 9 (fold n)).toArray).size := by simpa [ByteArray.size] using h
  rw [dif_pos h', List.getD_eq_getElem?_getD, List.getElem?_eq_getElem h]
  rfl
theorem size_put (n : Int) : (putB n).size = (putL 9 (fold n)).length := by simp [putB, ByteArray.size]
theorem putL_pos (g v : Nat) : 0 < (putL g v).length := by
  cases g with
  | zero => simp [putL]
  | succ g => rw [putL]; split <;> simp
theorem small_of {v k : Nat} (hk : k = 9) (h : v * 128 ^ k < 18446744073709551616) : v ≤ 1 := by
  subst hk
  have e : (128 : Nat) ^ 9 = 9223372036854775808 := by decide
  rw [e] at h; omega
theorem step_pow (v k : Nat) : v % 128 * 128 ^ k + v / 128 * 128 ^ (k + 1) = v * 128 ^ k := by
  have h := Nat.div_add_mod v 128
  have e : v / 128 * 128 ^ (k + 1) = (128 * (v / 128)) * 128 ^ k := by
    rw [Nat.pow_succ, Nat.mul_comm (128 ^ k) 128, ← Nat.mul_assoc, Nat.mul_comm (v / 128) 128]
  rw [e, ← Nat.add_mul]
  congr 1; omega
theorem step_le (v k : Nat) : v / 128 * 128 ^ (k + 1) ≤ v * 128 ^ k := by
  have := step_pow v k; omega
theorem byte_low {v : Nat} (h : v < 128) : (v.toUInt8).toNat = v := by simp; omega
theorem byte_high (v : Nat) : ((v % 128 + 128).toUInt8).toNat = v % 128 + 128 := by simp; omega

theorem scan_put (t : ByteArray) : ∀ (g k v acc : Nat), g + k = 9 → v * 128 ^ k < 18446744073709551616 → (k = 0 ∨ v ≠ 0) →
    (∀ i, i < (putL g v).length → k + i < t.size ∧ nb t (k + i) = ((putL g v).getD i 0).toNat) →
    scan t (g + 1) k acc = (acc + v * 128 ^ k, k + (putL g v).length, 0) := by
  intro g
  induction g with
  | zero =>
    intro k v acc hk hv h0 hb
    have hv1 := small_of (by omega) hv
    rw [putL_stop (by omega)] at hb ⊢
    have ⟨h1, h2⟩ := hb 0 (by simp)
    simp only [Nat.add_zero, List.getD_cons_zero, byte_low (show v < 128 by omega)] at h1 h2
    rw [scan, if_neg (by omega), if_neg (by omega), if_pos (by omega), if_neg (by omega), h2]
    simp
  | succ g ih =>
    intro k v acc hk hv h0 hb
    by_cases hs : v < 128
    · rw [putL_stop hs] at hb ⊢
      have ⟨h1, h2⟩ := hb 0 (by simp)
      simp only [Nat.add_zero, List.getD_cons_zero, byte_low hs] at h1 h2
      rw [scan, if_neg (by omega), if_neg (by omega), if_pos (by omega), if_neg (by omega), h2]
      simp
    · rw [putL_go (by omega)] at hb ⊢
      have ⟨h1, h2⟩ := hb 0 (by simp)
      simp only [Nat.add_zero, List.getD_cons_zero, byte_high] at h1 h2
      have hle := step_le v k
      rw [scan, if_neg (by omega), if_neg (by omega), if_neg (by omega),
        ih (k + 1) (v / 128) _ (by omega) (by omega) (by omega) (fun i hi => by
          have h := hb (i + 1) (by simp; omega)
          rw [List.getD_cons_succ, show k + (i + 1) = k + 1 + i by omega] at h
          exact h)]
      have hm : nb t k % 128 = v % 128 := by omega
      rw [hm, Nat.add_assoc, step_pow]
      simp; omega
theorem scan_cut (t : ByteArray) : ∀ (g k v acc : Nat), g + k = 9 → v * 128 ^ k < 18446744073709551616 → t.size + 1 = k + (putL g v).length →
    (∀ i, i + 1 < (putL g v).length → nb t (k + i) = ((putL g v).getD i 0).toNat) →
    scan t (g + 1) k acc = (0, 0, 4) := by
  intro g
  induction g with
  | zero =>
    intro k v acc hk hv hz hb
    have : (putL 0 v).length = 1 := by simp [putL]
    rw [scan, if_pos (by omega)]
  | succ g ih =>
    intro k v acc hk hv hz hb
    by_cases hs : v < 128
    · rw [putL_stop hs] at hz
      simp at hz
      rw [scan, if_pos (by omega)]
    · rw [putL_go (by omega)] at hb hz
      have hp := putL_pos g (v / 128)
      simp only [List.length_cons] at hb hz
      have h2 := hb 0 (by omega)
      simp only [Nat.add_zero, List.getD_cons_zero, byte_high] at h2
      have hle := step_le v k
      rw [scan, if_neg (by omega), if_neg (by omega), if_neg (by omega)]
      exact ih (k + 1) (v / 128) _ (by omega) (by omega) (by omega) (fun i hi => by
          have h := hb (i + 1) (by omega)
          rw [List.getD_cons_succ, show k + (i + 1) = k + 1 + i by omega] at h
          exact h)

theorem getN_at {s : ByteArray} {p : Nat} {n : Int} (h0 : -9223372036854775808 ≤ n) (h1 : n ≤ 9223372036854775807) (hs : s.size ≤ 8000) (hp : p + (putB n).size ≤ s.size)
    (hb : ∀ i, i < (putB n).size → nb s (p + i) = nb (putB n) i) : getN s (p : Int) = (n, (p : Int) + ((putB n).size : Int), 0) := by
  have hz := size_put n
  have hsc := scan_put (s.extract p s.size) 9 0 (fold n) 0 (by omega) (by simpa using fold_lt h0 h1) (.inl rfl) (fun i hi => by
    rw [Nat.zero_add, nb_extract, hb i (by omega), nb_put hi]
    exact ⟨by simp; omega, rfl⟩)
  have e : scan (s.extract p s.size) 10 0 0 = (fold n, (putB n).size, 0) := by
    rw [hsc, hz]; simp
  rw [getN, if_neg (by omega), readN_yes (by omega) (by rw [e]), e]
  simp only [unz_fold h0 h1]
theorem getN_cut {s : ByteArray} {n : Int} (h0 : -9223372036854775808 ≤ n) (h1 : n ≤ 9223372036854775807) (hs : s.size + 1 = (putB n).size)
    (hb : ∀ i, i < s.size → nb s i = nb (putB n) i) : getN s 0 = (0, 0, 4) := by
  have hz := size_put n
  have h10 := putB_size n
  have hsc := scan_cut (s.extract 0 s.size) 9 0 (fold n) 0 (by omega) (by simpa using fold_lt h0 h1) (by simp; omega) (fun i hi => by
    rw [Nat.zero_add, nb_extract, Nat.zero_add, hb i (by omega), nb_put (by omega)])
  have hr := readN_no (s := s) (p := 0) (by omega) (by rw [hsc]; simp)
  rw [hsc] at hr
  rw [getN, if_neg (by omega)]
  exact hr
theorem num_in {a c : ByteArray} {n : Int} (h0 : -9223372036854775808 ≤ n) (h1 : n ≤ 9223372036854775807) (ha : a.size = 2) (hc : c.size ≤ 100) :
    getN (a ++ putB n ++ c) 2 = (n, ((putB n).size : Int) + 2, 0) := by
  have h10 := putB_size n
  have h := getN_at (s := a ++ putB n ++ c) (p := 2) h0 h1 (by simp; omega) (by simp; omega) (fun i hi => by
    rw [nb_append_left (by simp; omega), ← ha, nb_append_right])
  rw [show ((putB n).size : Int) + 2 = ((2 : Nat) : Int) + ((putB n).size : Int) by omega]
  exact h
theorem num_cut {n : Int} (h0 : -9223372036854775808 ≤ n) (h1 : n ≤ 9223372036854775807) {k : Nat} (hk : k + 1 = (putB n).size) :
    getN ((putB n).extract 0 k) 0 = (0, 0, 4) :=
  getN_cut h0 h1 (by simp; omega) (fun i hi => by
    have hi' : i < k := by simp at hi; omega
    exact nb_cut hi' (by omega))
theorem put_pos (n : Int) : 0 < (putB n).size := by rw [size_put]; exact putL_pos _ _
theorem extract_tail (x P u : ByteArray) : (x ++ (P ++ u)).extract (x.size + P.size) (x.size + P.size + u.size) = u := by
  apply ByteArray.ext_getElem
  · simp; omega
  · intro i h1 h2
    rw [ByteArray.getElem_extract, ByteArray.getElem_append_right (by omega), ByteArray.getElem_append_right (by omega)]
    congr 1; omega
theorem text_in {x u : ByteArray} (hx : x.size = 1) (h8 : (putB u.size ++ u).size + 1 ≤ 8000) :
    readT (x ++ (putB u.size ++ u)) (getN (x ++ (putB u.size ++ u)) 1) = (u, ((putB u.size ++ u).size : Int) + 1, 0) := by
  have hz : (putB (u.size : Int) ++ u).size = (putB (u.size : Int)).size + u.size := by simp
  have hs : (x ++ (putB u.size ++ u)).size = 1 + ((putB (u.size : Int)).size + u.size) := by simp [hx]
  have h := getN_at (s := x ++ (putB u.size ++ u)) (p := 1) (n := u.size) (by omega) (by omega) (by omega) (by omega) (fun i hi => by
    rw [← hx, nb_append_right, nb_append_left hi])
  have e1 : ((1 : Nat) : Int) = 1 := rfl
  have e2 : (1 : Int) + ((putB (u.size : Int)).size : Int) = ((1 + (putB (u.size : Int)).size : Nat) : Int) := by omega
  rw [e1, e2] at h
  rw [h, readT_yes (by omega) (by omega)]
  have he := extract_tail x (putB (u.size : Int)) u
  rw [hx] at he
  rw [he, hz]
  have e3 : ((1 + (putB (u.size : Int)).size : Nat) : Int) + (u.size : Int) = ((((putB (u.size : Int)).size + u.size : Nat) : Int)) + 1 := by omega
  rw [e3]
theorem text_cut {u : ByteArray} (h8 : (putB u.size ++ u).size + 1 ≤ 8000) {k : Nat} (hk : k + 1 = (putB (u.size : Int) ++ u).size) :
    readT ((putB u.size ++ u).extract 0 k) (getN ((putB u.size ++ u).extract 0 k) 0) = (⟨#[]⟩, 0, 4) := by
  have hz : (putB (u.size : Int) ++ u).size = (putB (u.size : Int)).size + u.size := by simp
  have hs : ((putB (u.size : Int) ++ u).extract 0 k).size = k := by rw [ByteArray.size_extract]; omega
  by_cases hu : u.size = 0
  · have h := getN_cut (s := (putB (u.size : Int) ++ u).extract 0 k) (n := u.size) (by omega) (by omega) (by omega) (fun i hi => by
      rw [nb_cut (by omega) (by omega), nb_append_left (by omega)])
    rw [h, readT_err (by omega)]
  · have h := getN_at (s := (putB (u.size : Int) ++ u).extract 0 k) (p := 0) (n := u.size) (by omega) (by omega) (by omega) (by omega) (fun i hi => by
      rw [Nat.zero_add, nb_cut (by omega) (by omega), nb_append_left hi])
    have e : (((0 : Nat) : Int)) = 0 := rfl
    rw [e] at h
    rw [h, readT_short (by omega) (by omega) (by omega)]
set_option maxRecDepth 100000 in
theorem field_num (W : World) : Sem.run Tryd.prog (Instr.field 26 (.agg #[.int .i64 0, .int .i64 0, .int .i64 4]) 2) W = .ok (.int .i64 4) W := by
  rfl
set_option maxRecDepth 100000 in
theorem field_text (z : ByteArray) (W : World) : Sem.run Tryd.prog (Instr.field 31 (.agg #[.string z, .int .i64 0, .int .i64 4]) 2) W = .ok (.int .i64 4) W := by
  rfl
end Go.Proofs.YtlncdkeooacebaaDoor.NumsMath
