/-
  Contracts: impl.GetText and spec.GetText answer the struct textV of readT; of what was there nothing is changed. Conditions: a text of at most maxLen bytes, a place of int64; of impl.GetText that the library's variable errors.errorType holds its handle.
-/
import Derived.Test.YtlncdkeooacebaaDoorRows
import Derived.Test.YtlncdkeooacebaaDoorGet
import Derived.Test.YtlncdkeooacebaaDoorSpecGet
import Derived.StillTailTactics
import Derived.Deep.RegionHeld3
import Derived.IntWalk
import Derived.BigRegion
import Derived.Laws.Strings2
namespace Go.Proofs.YtlncdkeooacebaaDoor.GetTexts
open Go.RowKit NumMath Bits ErrAs Texts Gets SpecGets
set_option linter.unusedVariables false

/-- The text, the place behind it, the code: out of the number that stands ahead of it. -/
def readT (s : ByteArray) (r : Int × Int × Int) : ByteArray × Int × Int :=
  if r.2.2 ≠ 0 then (⟨#[]⟩, 0, r.2.2)
  else if r.1 < 0 ∨ 8000 < r.1 then (⟨#[]⟩, 0, 3)
  else if (s.size : Int) - r.2.1 < r.1 then (⟨#[]⟩, 0, 4)
  else (s.extract r.2.1.toNat (r.2.1 + r.1).toNat, r.2.1 + r.1, 0)
def textV (r : ByteArray × Int × Int) : Value := .agg #[.string r.1, .int .i64 r.2.1, .int .i64 r.2.2]
theorem readT_err {s : ByteArray} {n b c : Int} (h : ¬ c = 0) : readT s (n, b, c) = (⟨#[]⟩, 0, c) := by rw [readT, if_pos h]
theorem readT_bad {s : ByteArray} {n b : Int} (h : n < 0 ∨ 8000 < n) : readT s (n, b, 0) = (⟨#[]⟩, 0, 3) := by rw [readT, if_neg (by simp), if_pos h]
theorem readT_short {s : ByteArray} {n b : Int} (h0 : 0 ≤ n) (h1 : n ≤ 8000) (h : (s.size : Int) - b < n) : readT s (n, b, 0) = (⟨#[]⟩, 0, 4) := by
  rw [readT, if_neg (by simp), if_neg (by dsimp only; omega), if_pos h]
theorem readT_yes {s : ByteArray} {m q : Nat} (h1 : m ≤ 8000) (h : q + m ≤ s.size) : readT s (m, q, 0) = (s.extract q (q + m), (q : Int) + m, 0) := by
  rw [readT, if_neg (by simp), if_neg (by dsimp only; omega), if_neg (by dsimp only; omega)]
  have e1 : ((q : Int)).toNat = q := by omega
  have e2 : ((q : Int) + (m : Int)).toNat = q + m := by omega
  dsimp only
  rw [e1, e2]
theorem readN_bounds {s : ByteArray} {a n b : Int} (hs : s.size ≤ 8000) (h : readN s a = (n, b, 0)) : 0 ≤ b ∧ b ≤ 8010 ∧ -9223372036854775808 ≤ n ∧ n ≤ 9223372036854775807 := by
  unfold readN at h
  split at h
  · simp at h
  · split at h
    · simp at h
    · split at h
      · have hsl := scan_lt (s.extract a.toNat s.size) 10 0 0 (by omega) (by decide)
        have hu := unz_range hsl.1
        simp only [Prod.mk.injEq] at h
        obtain ⟨h1, h2, _⟩ := h
        omega
      · simp only [Prod.mk.injEq] at h
        omega

theorem slice_str (s : ByteArray) (q m : Nat) (h : q + m ≤ s.size) (W : World) :
    (Instr.slice 9 (.string s) (some (.int .i64 (q : Int))) (some (.int .i64 ((q : Int) + (m : Int)))) none).run Tryd.prog W = .ok (.string (s.extract q (q + m))) W := by
  rw [run_slice_string (P := Tryd.prog) W 9 s .i64 .i64 (q : Int) ((q : Int) + (m : Int)) Tryd.underlying9 (by omega) (by omega) (by omega)]
  have e1 : ((q : Int)).toNat = q := by omega
  have e2 : ((q : Int) + (m : Int)).toNat = q + m := by omega
  rw [e1, e2]

def resT (r : ByteArray × Int × Int) : Value := .tuple #[.string r.1, .int .i64 r.2.1, errV r.2.2]
set_option maxRecDepth 100000 in
theorem readText (s : ByteArray) (a : Int) (hs : s.size ≤ 8000) (h0 : -9223372036854775808 ≤ a) (h1 : a ≤ 9223372036854775807) (w : World) :
    Calls Tryd.prog 39 #[.string s, .int .i64 a] w fun e w' => e = .returned (resT (readT s (readN s a))) ∧ Below w.heap.size w w' := by
  have hsi : (s.size : Int) ≤ 8000 := by omega
  have HRD := Lib.hid (fun w => readNum s a hs h0 h1 w)
  obtain ⟨r, hr⟩ : ∃ r, r = readN s a := ⟨_, rfl⟩
  rw [← hr] at HRD ⊢
  obtain ⟨n, b, c⟩ := r
  by_cases hc : c = 0
  · subst hc
    have ⟨hb0, hb1, hn0, hn1⟩ := readN_bounds hs hr.symm
    have hrv : resN (n, b, 0) = .tuple #[.int .i64 n, .int .i64 b, .nilIface] := rfl
    rw [hrv] at HRD
    clear hr hrv
    by_cases hneg : n < 0
    · have HV := Lib.hid (readT_bad (s := s) (b := b) (.inl hneg))
      go_enter Tryd.func39, Tryd.ntmps39
      go_wp2_with fail
      refine (HRD.out _).mono ?_
      rintro e w' ⟨rfl, rfl⟩
      go_wp2_with fail
      go_ret3
      exact ⟨ret_eq (by rw [HV.out]; rfl), Below.refl _ _⟩
    by_cases hbig : 8000 < n
    · have HV := Lib.hid (readT_bad (s := s) (b := b) (.inr hbig))
      have hn' : 0 ≤ n := by omega
      clear hneg
      go_enter Tryd.func39, Tryd.ntmps39
      go_wp2_with fail
      refine (HRD.out _).mono ?_
      rintro e w' ⟨rfl, rfl⟩
      go_wp2_with fail
      go_ret3
      exact ⟨ret_eq (by rw [HV.out]; rfl), Below.refl _ _⟩
    have hn' : 0 ≤ n := by omega
    have hn8 : n ≤ 8000 := by omega
    clear hneg hbig
    by_cases hsh : (s.size : Int) - b < n
    · have HV := Lib.hid (readT_short hn' hn8 hsh)
      go_enter Tryd.func39, Tryd.ntmps39
      go_wp2_with fail
      refine (HRD.out _).mono ?_
      rintro e w' ⟨rfl, rfl⟩
      go_wp2_with fail
      go_ret3
      exact ⟨ret_eq (by rw [HV.out]; rfl), Below.refl _ _⟩
    · obtain ⟨m, rfl⟩ := Int.eq_ofNat_of_zero_le hn'
      obtain ⟨q, rfl⟩ := Int.eq_ofNat_of_zero_le hb0
      have hfit : q + m ≤ s.size := by omega
      have hge : (m : Int) ≤ (s.size : Int) - (q : Int) := by omega
      have HV := Lib.hid (readT_yes (s := s) (by omega) hfit)
      have hsls := slice_str s q m hfit
      clear hsh
      go_enter Tryd.func39, Tryd.ntmps39
      go_wp2_with fail
      refine (HRD.out _).mono ?_
      rintro e w' ⟨rfl, rfl⟩
      go_wp2_with fail
      refine (clone (s.extract q (q + m)) _ (by simp; omega)).mono ?_
      rintro e w1 ⟨rfl, hb1⟩
      go_wp2_with fail
      go_ret3
      exact ⟨ret_eq (by rw [HV.out]; rfl), hb1⟩
  · have he : errV c = .iface 100 (.agg #[.int .i64 c]) := by simp [errV, hc]
    have hrv : resN (n, b, c) = .tuple #[.int .i64 n, .int .i64 b, .iface 100 (.agg #[.int .i64 c])] := by rw [resN, he]
    have hf : resT (readT s (n, b, c)) = .tuple #[.string ⟨#[]⟩, .int .i64 0, .iface 100 (.agg #[.int .i64 c])] := by rw [readT_err hc, resT, he]
    rw [hrv] at HRD
    have HF := Lib.hid hf
    clear hr hrv hc he hf
    go_enter Tryd.func39, Tryd.ntmps39
    go_wp2_with fail
    refine (HRD.out _).mono ?_
    rintro e w' ⟨rfl, rfl⟩
    go_wp2_with fail
    go_ret3
    exact ⟨ret_eq (by rw [HF.out]; rfl), Below.refl _ _⟩

theorem implGetText (s : ByteArray) (a : Int) (hs : s.size ≤ maxLen) (h0 : -9223372036854775808 ≤ a) (h1 : a ≤ 9223372036854775807) (w : World) (hg : ErrVar w) :
    Calls Tryd.prog 15 #[.string s, .int .i64 a] w fun e w' => e = .returned (textV (readT s (getN s a))) ∧ Below w.heap.size w w' := by
  have hs' := hs
  unfold maxLen at hs'
  by_cases h8 : 8000 < s.size
  · have h8i : (8000 : Int) < (s.size : Int) := by omega
    have hv : readT s (getN s a) = (⟨#[]⟩, 0, 2) := by rw [getN, if_pos h8, readT_err (by decide)]
    have HV := Lib.hid hv
    clear h8 hv hg
    go_enter Tryd.func15, Tryd.ntmps15
    go_wp2_with fail
    exact bodyPost_ret (v := textV (⟨#[]⟩, 0, 2)) (by simp [results, Tryd.results15, textV, go_sem]) rfl ⟨ret_eq (by rw [HV.out]), (Below.refl _ _).alloc (Nat.le_refl _) _⟩
  · have h8' : s.size ≤ 8000 := by omega
    have h8i : (s.size : Int) ≤ 8000 := by omega
    have HRD := Lib.hid (fun w => readText s a h8' h0 h1 w)
    rw [getN, if_neg h8]
    obtain ⟨r, hr⟩ : ∃ r, r = readT s (readN s a) := ⟨_, rfl⟩
    rw [← hr] at HRD ⊢
    obtain ⟨t, b, c⟩ := r
    have hrv : resT (t, b, c) = .tuple #[.string t, .int .i64 b, errV c] := rfl
    rw [hrv] at HRD
    have HG := Lib.hid (hg.below ((Below.refl _ w).alloc (Nat.le_refl _) (.cells #[.string ⟨#[]⟩, .int .i64 0, .int .i64 0] 31)))
    clear hr hrv hg h8
    go_enter Tryd.func15, Tryd.ntmps15
    go_wp2_with fail
    refine (HRD.out _).mono ?_
    rintro e w1 ⟨rfl, hb1⟩
    have HG1 := Lib.hid (HG.out.below hb1)
    have hb1' := hb1.mono (Nat.le_of_eq (by simp : w.heap.size + 1 = _))
    have hz1 := hb1'.size
    go_wp2_with fail
    refine (code_any c _ HG1.out).mono ?_
    rintro e w2 ⟨rfl, hb2⟩
    have hb2' := hb1'.trans (hb2.mono (by simp at hz1; omega))
    have ⟨⟨c0, c1, c2⟩, f0, f1, f2⟩ := keep3 hb2'
    have hz := hb2'.size
    go_wp2_with fail
    exact bodyPost_ret (v := textV (t, b, c)) (by simp [results, Tryd.results15, textV, go_sem, c0, c1, c2]) rfl ⟨rfl, below3 hb2' _ _ _⟩

/-- The three cells of a result behind the stores into it, another block being laid beside. -/
theorem res3 {w1 : World} {g : Nat} (hg : g < w1.heap.size) {x y z : Value} (c0 : w1.cell? ⟨g, 0, none⟩ = some x) (c1 : w1.cell? ⟨g, 1, none⟩ = some y) (c2 : w1.cell? ⟨g, 2, none⟩ = some z) (a b c : Value) (o : Obj) :
    ((((w1.setCell ⟨g, 0, none⟩ a).setCell ⟨g, 1, none⟩ b).setCell ⟨g, 2, none⟩ c).alloc o).cell? ⟨g, 0, none⟩ = some a ∧
    ((((w1.setCell ⟨g, 0, none⟩ a).setCell ⟨g, 1, none⟩ b).setCell ⟨g, 2, none⟩ c).alloc o).cell? ⟨g, 1, none⟩ = some b ∧
    ((((w1.setCell ⟨g, 0, none⟩ a).setCell ⟨g, 1, none⟩ b).setCell ⟨g, 2, none⟩ c).alloc o).cell? ⟨g, 2, none⟩ = some c := by
  have hs : (((w1.setCell ⟨g, 0, none⟩ a).setCell ⟨g, 1, none⟩ b).setCell ⟨g, 2, none⟩ c).heap.size = w1.heap.size := by simp
  refine ⟨?_, ?_, ?_⟩
  · rw [World.cell?_alloc_lt _ _ ⟨g, 0, none⟩ (by rw [hs]; exact hg)]; simp [go_sem, c0]
  · rw [World.cell?_alloc_lt _ _ ⟨g, 1, none⟩ (by rw [hs]; exact hg)]; simp [go_sem, c1]
  · rw [World.cell?_alloc_lt _ _ ⟨g, 2, none⟩ (by rw [hs]; exact hg)]; simp [go_sem, c2]

set_option maxHeartbeats 2000000 in
set_option maxRecDepth 100000 in
theorem specGetText (s : ByteArray) (a : Int) (hs : s.size ≤ maxLen) (h0 : -9223372036854775808 ≤ a) (h1 : a ≤ 9223372036854775807) (w : World) :
    Calls Tryd.prog 18 #[.string s, .int .i64 a] w fun e w' => e = .returned (textV (readT s (getN s a))) ∧ Below w.heap.size w w' := by
  have HRD := Lib.hid (fun w => specGetNum s a hs h0 h1 w)
  have hgood : ∀ n b, getN s a = (n, b, 0) → s.size ≤ 8000 ∧ 0 ≤ b ∧ b ≤ 8010 ∧ -9223372036854775808 ≤ n ∧ n ≤ 9223372036854775807 := by
    intro n b h
    unfold getN at h
    split at h
    · simp at h
    · exact ⟨by omega, readN_bounds (by omega) h⟩
  unfold maxLen at hs
  obtain ⟨r, hr⟩ : ∃ r, r = getN s a := ⟨_, rfl⟩
  rw [← hr] at HRD ⊢
  obtain ⟨n, b, c⟩ := r
  have hrv : numV (n, b, c) = .agg #[.int .i64 n, .int .i64 b, .int .i64 c] := rfl
  rw [hrv] at HRD
  by_cases hc : c = 0
  · subst hc
    have ⟨h8, hb0, hb1, hn0, hn1⟩ := hgood n b hr.symm
    clear hr hrv hgood hs
    have h8i : (s.size : Int) ≤ 8000 := by omega
    by_cases hneg : n < 0
    · have HV := Lib.hid (readT_bad (s := s) (b := b) (.inl hneg))
      go_enter Tryd.func18, Tryd.ntmps18
      go_wp2_with fail
      refine (HRD.out _).mono ?_
      rintro e w1 ⟨rfl, hb1w⟩
      have hb1' := hb1w.mono (Nat.le_of_eq (by simp : w.heap.size + 1 = _))
      have ⟨⟨c0, c1, c2⟩, f0, f1, f2⟩ := keep3 hb1'
      have hz : w.heap.size < w1.heap.size := by have := hb1'.size; simp at this; omega
      go_wp2_with fail
      have ⟨r0, r1, r2⟩ := res3 hz c0 c1 c2 (.string ⟨#[]⟩) (.int .i64 0) (.int .i64 (3)) (.cells #[.int .i64 n, .int .i64 b, .int .i64 0] 26)
      exact bodyPost_ret (v := textV (⟨#[]⟩, 0, 3)) (by simp [results, Tryd.results18, textV, go_sem, r0, r1, r2]) rfl ⟨ret_eq (by rw [HV.out]), (below3 hb1' _ _ _).alloc (by simp; omega) _⟩
    by_cases hbig : 8000 < n
    · have HV := Lib.hid (readT_bad (s := s) (b := b) (.inr hbig))
      have hn' : 0 ≤ n := by omega
      clear hneg
      go_enter Tryd.func18, Tryd.ntmps18
      go_wp2_with fail
      refine (HRD.out _).mono ?_
      rintro e w1 ⟨rfl, hb1w⟩
      have hb1' := hb1w.mono (Nat.le_of_eq (by simp : w.heap.size + 1 = _))
      have ⟨⟨c0, c1, c2⟩, f0, f1, f2⟩ := keep3 hb1'
      have hz : w.heap.size < w1.heap.size := by have := hb1'.size; simp at this; omega
      go_wp2_with fail
      have ⟨r0, r1, r2⟩ := res3 hz c0 c1 c2 (.string ⟨#[]⟩) (.int .i64 0) (.int .i64 3) (.cells #[.int .i64 n, .int .i64 b, .int .i64 0] 26)
      exact bodyPost_ret (v := textV (⟨#[]⟩, 0, 3)) (by simp [results, Tryd.results18, textV, go_sem, r0, r1, r2]) rfl ⟨ret_eq (by rw [HV.out]), (below3 hb1' _ _ _).alloc (by simp; omega) _⟩
    have hn' : 0 ≤ n := by omega
    have hn8 : n ≤ 8000 := by omega
    clear hneg hbig
    by_cases hsh : (s.size : Int) - b < n
    · have HV := Lib.hid (readT_short hn' hn8 hsh)
      have hsh' : (s.size : Int) - n < b := by omega
      go_enter Tryd.func18, Tryd.ntmps18
      go_wp2_with fail
      refine (HRD.out _).mono ?_
      rintro e w1 ⟨rfl, hb1w⟩
      have hb1' := hb1w.mono (Nat.le_of_eq (by simp : w.heap.size + 1 = _))
      have ⟨⟨c0, c1, c2⟩, f0, f1, f2⟩ := keep3 hb1'
      have hz : w.heap.size < w1.heap.size := by have := hb1'.size; simp at this; omega
      go_wp2_with fail
      have ⟨r0, r1, r2⟩ := res3 hz c0 c1 c2 (.string ⟨#[]⟩) (.int .i64 0) (.int .i64 4) (.cells #[.int .i64 n, .int .i64 b, .int .i64 0] 26)
      exact bodyPost_ret (v := textV (⟨#[]⟩, 0, 4)) (by simp [results, Tryd.results18, textV, go_sem, r0, r1, r2]) rfl ⟨ret_eq (by rw [HV.out]), (below3 hb1' _ _ _).alloc (by simp; omega) _⟩
    · obtain ⟨m, rfl⟩ := Int.eq_ofNat_of_zero_le hn'
      obtain ⟨q, rfl⟩ := Int.eq_ofNat_of_zero_le hb0
      have hfit : q + m ≤ s.size := by omega
      have hge : (q : Int) ≤ (s.size : Int) - (m : Int) := by omega
      have HV := Lib.hid (readT_yes (s := s) (by omega) hfit)
      have hsls := slice_str s q m hfit
      clear hsh
      go_enter Tryd.func18, Tryd.ntmps18
      go_wp2_with fail
      refine (HRD.out _).mono ?_
      rintro e w1 ⟨rfl, hb1w⟩
      have hb1' := hb1w.mono (Nat.le_of_eq (by simp : w.heap.size + 1 = _))
      have ⟨⟨c0, c1, c2⟩, f0, f1, f2⟩ := keep3 hb1'
      have hz : w.heap.size < w1.heap.size := by have := hb1'.size; simp at this; omega
      go_wp2_with fail
      go_region
      go_wp2_with fail
      have ⟨r0, r1, r2⟩ := res3 hz c0 c1 c2 (.string (s.extract q (q + m))) (.int .i64 ((q : Int) + m)) (.int .i64 0) (.cells #[.int .i64 m, .int .i64 q, .int .i64 0] 26)
      exact bodyPost_ret (v := textV (s.extract q (q + m), (q : Int) + m, 0)) (by simp [results, Tryd.results18, textV, go_sem, r0, r1, r2]) rfl ⟨ret_eq (by rw [HV.out]), ((below3 hb1' _ _ _).alloc (by simp; omega) _).drew⟩
  · have hcb : (c != 0) = true := by rw [bne_iff_ne]; exact hc
    have HV := Lib.hid (readT_err (s := s) (n := n) (b := b) hc)
    clear hr hrv hgood hc
    go_enter Tryd.func18, Tryd.ntmps18
    go_wp2_with fail
    refine (HRD.out _).mono ?_
    rintro e w1 ⟨rfl, hb1w⟩
    have hb1' := hb1w.mono (Nat.le_of_eq (by simp : w.heap.size + 1 = _))
    have ⟨⟨c0, c1, c2⟩, f0, f1, f2⟩ := keep3 hb1'
    have hz : w.heap.size < w1.heap.size := by have := hb1'.size; simp at this; omega
    go_wp2_with fail
    have ⟨r0, r1, r2⟩ := res3 hz c0 c1 c2 (.string ⟨#[]⟩) (.int .i64 0) (.int .i64 (c)) (.cells #[.int .i64 n, .int .i64 b, .int .i64 c] 26)
    exact bodyPost_ret (v := textV (⟨#[]⟩, 0, c)) (by simp [results, Tryd.results18, textV, go_sem, r0, r1, r2]) rfl ⟨ret_eq (by rw [HV.out]), (below3 hb1' _ _ _).alloc (by simp; omega) _⟩
end Go.Proofs.YtlncdkeooacebaaDoor.GetTexts
