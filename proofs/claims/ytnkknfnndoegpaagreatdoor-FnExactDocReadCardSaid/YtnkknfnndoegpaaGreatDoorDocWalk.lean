/-
  The walk of laws.FnExactDocRead: it answers true; of what was there nothing is changed. Conditions: the library's variables hold what the program lays.
-/
import Derived.Test.YtnkknfnndoegpaaGreatDoorRows
import Derived.Test.YtnkknfnndoegpaaGreatDoorMarkF
import Derived.Test.YtnkknfnndoegpaaGreatDoorEqDoc
import Derived.Test.YtnkknfnndoegpaaGreatDoorImplRead
import Derived.Test.YtnkknfnndoegpaaGreatDoorModDocB
namespace Go.Proofs.YtnkknfnndoegpaaGreatDoor.Selss
open Go.RowKit Decs Texts Bytes
set_option linter.unusedVariables false
set_option maxRecDepth 100000
def docMark (d : DocP) (k : Nat) : DocP := ⟨d.sels.mark k, fragsMark d.frags (k + 4 * d.sels.all)⟩
def docNum (d : DocP) : Nat := 4 * d.sels.all + fragsNum d.frags
theorem ret_n {a b : Nat} (h : a = b) : Ending.returned (.int .i64 ((a : Nat) : Int)) = .returned (.int .i64 ((b : Nat) : Int)) := by rw [h]
theorem markDoc (w : World) (A B : Nat) (v : Value) (d : DocP) (k : Nat) (hs : DocX w A B v d) (hB : B ≤ w.heap.size) (h1 : 1 ≤ k) (hk : k + docNum d ≤ 900000) :
    Calls Tryz.prog 17 #[v, .int .i64 k] w fun e w' => e = .returned (.int .i64 ((k + docNum d : Nat) : Int)) ∧ DocX w' A B v (docMark d k) ∧ Within A B w w' := by
  obtain ⟨a, ca, b, cb, M, rfl, hd, hf, hc⟩ := hs
  unfold docNum at hk ⊢
  have e1 := hd.2.2.1
  have e2 := hf.2.2.1
  have HD := Lib.hid hd
  have HF := Lib.hid hf
  have HA : Hid (∀ o, Below w.heap.size w (w.alloc o)) := Lib.hid fun o => (Below.refl _ _).alloc (Nat.le_refl _) o
  clear hd hf
  go_enter Tryz.func17, Tryz.ntmps17
  go_wp2_with fail
  refine (markSelS (d.sels.all + 1) d.sels (Nat.lt_succ_self _) _ A M a ca k (HD.out.below (by omega) (HA.out _)) (Nat.le_trans (by omega) (HA.out _).size) h1 (by omega)).mono ?_
  rintro e w1 ⟨rfl, hs1, hw1⟩
  have hx := hw1.block w.heap.size (by simp) (.inr (by omega))
  have k1 : w1.cell? ⟨w.heap.size, 1, none⟩ = some (.slice b d.frags.length cb) := (World.cell?_of_block (a := ⟨w.heap.size, 1, none⟩) hx).trans (by simp)
  have hz1 : w.heap.size ≤ w1.heap.size := by have := hw1.size; simp at this; omega
  have HF1 : Hid (FragsX w1 M B b d.frags.length d.frags) := Lib.hid ((HF.out.below (by omega) (HA.out _)).block (fun c c1 c2 => hw1.block c (by simp; omega) (.inr c1)))
  have HS1 := Lib.hid hs1
  have HW1 := Lib.hid ((Within.of_below (HA.out _)).trans (hw1.wide (Nat.le_refl A) e2))
  clear hs1 hw1 hx
  go_wp2_with fail
  refine (markFragS _ M B b _ cb d.frags (k + 4 * d.sels.all) HF1.out (by omega) (by omega) (by omega)).mono ?_
  rintro e w2 ⟨rfl, hs2, hw2⟩
  have HS2 : Hid (DocX w2 A B (.agg #[.slice a d.sels.len ca, .slice b d.frags.length cb]) (docMark d k)) := Lib.hid ⟨a, ca, b, cb, M, by simp only [docMark, Sels.mark_len, fragsMark_len], by
      show SelsX w2 A M a (d.sels.mark k).len (d.sels.mark k)
      rw [Sels.mark_len]
      exact HS1.out.block (fun c c1 c2 => hw2.block c (by omega) (.inl c2)), by
      show FragsX w2 M B b (fragsMark d.frags (k + 4 * d.sels.all)).length (fragsMark d.frags (k + 4 * d.sels.all))
      rw [fragsMark_len]; exact hs2, by
      show (fragsMark d.frags (k + 4 * d.sels.all)).length ≤ cb
      rw [fragsMark_len]; exact hc⟩
  have HW2 := Lib.hid (HW1.out.trans (hw2.wide e1 (Nat.le_refl B)))
  clear hs2 hw2 k1
  go_wp2_with fail
  go_ret
  exact ⟨ret_i (by push_cast; omega), HS2.out, HW2.out⟩
theorem markDocOut (w : World) (A B : Nat) (v0 v1 : Value) (d : DocP) (c : Int) (k : Nat) (hs : DocX w A B (.agg #[v0, v1]) d) (hB : B ≤ w.heap.size) (h1 : 1 ≤ k) (hk : k + docNum d ≤ 900000) :
    Calls Tryz.prog 7 #[.agg #[v0, v1, .int .i64 c], .int .i64 k] w fun e w' => e = .returned (.int .i64 ((k + docNum d : Nat) : Int)) ∧ DocX w' A B (.agg #[v0, v1]) (docMark d k) ∧ Within A B w w' := by
  have HD := Lib.hid hs
  have HA : Hid (∀ o, Below w.heap.size w (w.alloc o)) := Lib.hid fun o => (Below.refl _ _).alloc (Nat.le_refl _) o
  obtain ⟨a, ca, b, cb, M, e, _⟩ := hs
  obtain ⟨rfl, rfl⟩ : v0 = _ ∧ v1 = _ := by simpa using e
  go_enter Tryz.func7, Tryz.ntmps7
  go_wp2_with fail
  refine (markDoc _ A B _ d k (HD.out.below hB (HA.out _)) (Nat.le_trans hB (HA.out _).size) h1 hk).mono ?_
  rintro e w1 ⟨rfl, hs1, hw1⟩
  have HS1 := Lib.hid hs1
  have HW1 := Lib.hid ((Within.of_below (HA.out _)).trans hw1)
  clear hs1 hw1
  go_wp2_with fail
  go_ret
  exact ⟨rfl, HS1.out, HW1.out⟩
theorem heldDoc (w : World) (A B : Nat) (v : Value) (d : DocP) (k : Nat) (hs : DocAt w A B v (docMark d k)) (hB : B ≤ w.heap.size) (h1 : 1 ≤ k) (hk : k + docNum d ≤ 900000) :
    Calls Tryz.prog 18 #[v, .int .i64 k] w fun e w' => e = .returned (.int .i64 ((k + docNum d : Nat) : Int)) ∧ Below w.heap.size w w' := by
  obtain ⟨a, ca, b, cb, rfl, hd, hf, hc⟩ := hs
  unfold docNum at hk ⊢
  simp only [docMark, Sels.mark_len, fragsMark_len] at hd hf hc ⊢
  have HD := Lib.hid hd
  have HF := Lib.hid hf
  have HA : Hid (∀ o, Below w.heap.size w (w.alloc o)) := Lib.hid fun o => (Below.refl _ _).alloc (Nat.le_refl _) o
  clear hd hf
  go_enter Tryz.func18, Tryz.ntmps18
  go_wp2_with fail
  refine (heldSelS (d.sels.all + 1) d.sels (Nat.lt_succ_self _) _ A B a ca k (HD.out.below hB (HA.out _)) (Nat.le_trans hB (HA.out _).size) h1 (by omega)).mono ?_
  rintro e w1 ⟨rfl, hb1⟩
  obtain ⟨B1, z1, k0, k1⟩ := kstep (HA.out _) (by simp) (by simp; rfl) (by simp; rfl) hb1
  have HB1 := Lib.hid B1
  clear hb1 B1
  go_wp2_with fail
  refine (heldFragS _ A B b _ cb d.frags (k + 4 * d.sels.all) (HF.out.below hB HB1.out) (Nat.le_trans hB HB1.out.size) (by omega) (by omega)).mono ?_
  rintro e w2 ⟨rfl, hb2⟩
  have HB2 := Lib.hid (HB1.out.trans (hb2.mono HB1.out.size))
  clear hb2 k0 k1
  go_wp2_with fail
  go_ret
  exact ⟨ret_i (by push_cast; omega), HB2.out⟩
theorem heldDocOut (w : World) (A B : Nat) (v0 v1 : Value) (d : DocP) (c : Int) (k : Nat) (hs : DocAt w A B (.agg #[v0, v1]) (docMark d k)) (hB : B ≤ w.heap.size) (h1 : 1 ≤ k) (hk : k + docNum d ≤ 900000) :
    Calls Tryz.prog 8 #[.agg #[v0, v1, .int .i64 c], .int .i64 k] w fun e w' => e = .returned (.int .i64 ((k + docNum d : Nat) : Int)) ∧ Below w.heap.size w w' := by
  have HD := Lib.hid hs
  have HA : Hid (∀ o, Below w.heap.size w (w.alloc o)) := Lib.hid fun o => (Below.refl _ _).alloc (Nat.le_refl _) o
  obtain ⟨a, ca, b, cb, e, _⟩ := hs
  obtain ⟨rfl, rfl⟩ : v0 = _ ∧ v1 = _ := by simpa using e
  go_enter Tryz.func8, Tryz.ntmps8
  go_wp2_with fail
  refine (heldDoc _ A B _ d k (HD.out.below hB (HA.out _)) (Nat.le_trans hB (HA.out _).size) h1 hk).mono ?_
  rintro e w1 ⟨rfl, hb1⟩
  have HB1 := Lib.hid ((HA.out _).trans (hb1.mono (HA.out _).size))
  have hpos : 0 ≤ ((k + docNum d : Nat) : Int) := by omega
  obtain ⟨q, hq⟩ : ∃ q : Int, ((k + docNum d : Nat) : Int) = q := ⟨_, rfl⟩
  rw [hq] at hpos ⊢
  have HQ := Lib.hid hq
  clear hb1 hq
  go_wp2_with fail
  go_ret
  exact ⟨ret_i HQ.out.symm, HB1.out⟩
theorem eqDocOut (w : World) (A B : Nat) (v0 v1 u0 u1 : Value) (d : DocP) (c : Int) (hc : OkI c) (hs : DocAt w A B (.agg #[v0, v1]) d) (hs' : DocAt w A B (.agg #[u0, u1]) d) (hB : B ≤ w.heap.size) :
    Calls Tryz.prog 6 #[.agg #[v0, v1, .int .i64 c], .agg #[u0, u1, .int .i64 c]] w fun e w' => e = .returned (.bool true) ∧ Below w.heap.size w w' := by
  have HD := Lib.hid hs
  have HE := Lib.hid hs'
  have HA : Hid (∀ o1 o2, Below w.heap.size w ((w.alloc o1).alloc o2)) := Lib.hid fun o1 o2 => ((Below.refl _ _).alloc (Nat.le_refl _) o1).alloc (by simp) o2
  obtain ⟨a, ca, b, cb, e, _⟩ := hs
  obtain ⟨rfl, rfl⟩ : v0 = _ ∧ v1 = _ := by simpa using e
  obtain ⟨a', ca', b', cb', e', _⟩ := hs'
  obtain ⟨rfl, rfl⟩ : u0 = _ ∧ u1 = _ := by simpa using e'
  go_enter Tryz.func6, Tryz.ntmps6
  go_wp2_with fail
  refine (eqDoc _ A B _ _ d (HD.out.below hB (HA.out _ _)) (HE.out.below hB (HA.out _ _)) (Nat.le_trans hB (HA.out _ _).size)).mono ?_
  rintro e w1 ⟨rfl, hb1⟩
  have HB1 := Lib.hid ((HA.out _ _).trans (hb1.mono (HA.out _ _).size))
  have c1 := hb1.cell (p := ⟨w.heap.size, 2, none⟩) (by simp; omega)
  have c2 := hb1.cell (p := ⟨w.heap.size + 1, 2, none⟩) (by simp)
  simp at c1 c2
  clear hb1
  go_wp2_with fail
  go_ret
  exact ⟨rfl, HB1.out⟩
end Go.Proofs.YtnkknfnndoegpaaGreatDoor.Selss
namespace Go.Proofs.YtnkknfnndoegpaaGreatDoor.Selss
open Go.RowKit
set_option linter.unusedVariables false
theorem docX_slices {w : World} {A B : Nat} {v0 v1 : Value} {d : DocP} (h : DocX w A B (.agg #[v0, v1]) d) : ∃ a ca b cb, v0 = .slice a d.sels.len ca ∧ v1 = .slice b d.frags.length cb := by
  obtain ⟨a, ca, b, cb, M, e, _⟩ := h
  obtain ⟨rfl, rfl⟩ : v0 = _ ∧ v1 = _ := by simpa using e
  exact ⟨a, ca, b, cb, rfl, rfl⟩
theorem outP_code (t : ByteArray) : OkI (outP t).2 := by
  unfold outP OkI
  split
  · simp
  · split <;> simp
theorem fragsNum_all : ∀ l : List FragP, fragsNum l = 2 * l.length + 4 * fragAll l
  | [] => rfl
  | x :: l => by
    have := fragsNum_all l
    simp only [fragsNum, fragAll, List.length_cons, this]; omega
theorem outP_num (t : ByteArray) : 1 + docNum (outP t).1 ≤ 900000 := by
  by_cases hb : 8000 < t.size
  · rw [outP_big hb]; decide
  by_cases h : ∃ d, docB d = true ∧ docT d = t
  · obtain ⟨d, h1, h2⟩ := h
    rw [outP_is hb h1 h2]
    obtain ⟨_, hfl, hall, _, _⟩ := docB_parts h1
    have := fragsNum_all d.frags
    show 1 + docNum d ≤ 900000
    unfold docNum
    unfold DocP.all at hall
    omega
  · rw [outP_not hb h]; decide
end Go.Proofs.YtnkknfnndoegpaaGreatDoor.Selss
namespace Go.Proofs.YtnkknfnndoegpaaGreatDoor.Selss
open Go.RowKit Words Decs Splits
set_option linter.unusedVariables false
set_option maxRecDepth 100000
set_option maxHeartbeats 4000000 in
theorem docReadLaw (w : World) (a0 : ByteArray) (w0 : a0.size ≤ maxLen) (h0 : Decs.Vars w.heap.size w) :
    Calls Tryz.prog 3 #[.string a0] w fun e w' => e = .returned (.bool true) ∧ Below w.heap.size w w' := by
  have HG := Lib.hid h0
  clear h0
  unfold maxLen at w0
  by_cases hbig : 1048576 < a0.size
  · have hbi : (1048576 : Int) < (a0.size : Int) := by omega
    go_enter Tryz.func3, Tryz.ntmps3
    go_wp2_with fail
    go_ret
    exact ⟨rfl, Below.refl _ _⟩
  have hs : a0.size ≤ 1048576 := by omega
  have hsi : (a0.size : Int) ≤ 1048576 := by omega
  clear hbig
  go_enter Tryz.func3, Tryz.ntmps3
  go_wp2_with fail
  refine (specDocRead a0 hs w).mono ?_
  rintro e w1 ⟨s0, s1, rfl, hb1, hx1⟩
  obtain ⟨d, hd⟩ : ∃ d, (outP a0).1 = d := ⟨_, rfl⟩
  obtain ⟨c, hc⟩ : ∃ c, (outP a0).2 = c := ⟨_, rfl⟩
  have HCO : Hid (OkI c) := Lib.hid (by rw [← hc]; exact outP_code a0)
  have HNUM : Hid (1 + docNum d ≤ 900000) := Lib.hid (by rw [← hd]; exact outP_num a0)
  rw [hd] at hx1
  rw [hc]
  obtain ⟨xa1, xca1, xb1, xcb1, rfl, rfl⟩ := docX_slices hx1
  have HD := Lib.hid hd
  have HC := Lib.hid hc
  have HX1 := Lib.hid hx1
  have hA1 : Below w1.heap.size w1 (w1.alloc (.cells #[.slice xa1 d.sels.len xca1, .slice xb1 d.frags.length xcb1, .int .i64 c] 27)) := (Below.refl _ _).alloc (Nat.le_refl _) _
  have HB1 := Lib.hid (hb1.trans (hA1.mono hb1.size))
  have HN1 := Lib.hid (heap_alloc_new w1 (.cells #[.slice xa1 d.sels.len xca1, .slice xb1 d.frags.length xcb1, .int .i64 c] 27))
  have HX1a := Lib.hid (HX1.out.below (Nat.le_refl _) hA1)
  have hz1 := hb1.size
  have hz1a : (w1.alloc (.cells #[.slice xa1 d.sels.len xca1, .slice xb1 d.frags.length xcb1, .int .i64 c] 27)).heap.size = w1.heap.size + 1 := by simp
  clear hb1 hx1 hd hc hA1
  go_wp2_with fail
  refine (implDocRead a0 hs (w1.alloc (.cells #[.slice xa1 d.sels.len xca1, .slice xb1 d.frags.length xcb1, .int .i64 c] 27)) w.heap.size (HG.out.on HB1.out) (by omega)).mono ?_
  rintro e w2 ⟨s0, s1, rfl, hb2, hx2⟩
  rw [HD.out] at hx2
  rw [HC.out]
  obtain ⟨xa2, xca2, xb2, xcb2, rfl, rfl⟩ := docX_slices hx2
  have HX2 := Lib.hid hx2
  have HB2 := Lib.hid (HB1.out.trans (hb2.mono HB1.out.size))
  have HN2 := Lib.hid ((hb2.block w1.heap.size (by omega)).trans HN1.out)
  have HX12 := Lib.hid (HX1a.out.below (by omega) hb2)
  have hz2 := hb2.size
  have hA2 : Below w2.heap.size w2 (w2.alloc (.cells #[.slice xa2 d.sels.len xca2, .slice xb2 d.frags.length xcb2, .int .i64 c] 27)) := (Below.refl _ _).alloc (Nat.le_refl _) _
  have HB3 := Lib.hid (HB2.out.trans (hA2.mono HB2.out.size))
  have HN3 := Lib.hid ((hA2.block w1.heap.size (by omega)).trans HN2.out)
  have HM3 := Lib.hid (heap_alloc_new w2 (.cells #[.slice xa2 d.sels.len xca2, .slice xb2 d.frags.length xcb2, .int .i64 c] 27))
  have HX13 := Lib.hid (HX12.out.below (by omega) hA2)
  have HX23 := Lib.hid (HX2.out.below (Nat.le_refl _) hA2)
  have hz3 : (w2.alloc (.cells #[.slice xa2 d.sels.len xca2, .slice xb2 d.frags.length xcb2, .int .i64 c] 27)).heap.size = w2.heap.size + 1 := by simp
  clear hb2 hx2 hA2 HN1 HX1a HB1 HN2 HX12 HB2
  rw [hz1a] at *
  have ⟨⟨n0, n1, n2⟩, _⟩ := keep3 HN3.out
  go_wp2_with fail
  clear n0 n1 n2
  generalize w2.alloc (.cells #[.slice xa2 d.sels.len xca2, .slice xb2 d.frags.length xcb2, .int .i64 c] 27) = w3 at *
  refine (eqDocOut w3 0 w3.heap.size _ _ _ _ d c HCO.out (HX23.out.doc.wide (Nat.zero_le _) (by omega)) (HX13.out.doc.wide (Nat.zero_le _) (by omega)) (Nat.le_refl _)).mono ?_
  rintro e w4 ⟨rfl, hb4⟩
  have HB4 := Lib.hid (HB3.out.trans (hb4.mono HB3.out.size))
  have hn4 := (hb4.block w1.heap.size (by omega)).trans HN3.out
  have hm4 := (hb4.block w2.heap.size (by omega)).trans HM3.out
  have HX14 := Lib.hid (HX13.out.below (by omega) hb4)
  have HX24 := Lib.hid (HX23.out.below (by omega) hb4)
  have hz4 := hb4.size
  have HN4 := Lib.hid hn4
  have HM4 := Lib.hid hm4
  have ⟨⟨m0, m1, m2⟩, _⟩ := keep3 hm4
  clear hb4 hn4 hm4 HB3 HN3 HM3 HX13 HX23
  go_wp2_with fail
  refine (markDocOut w4 (w1.heap.size + 1) w2.heap.size _ _ d c 1 HX24.out (by omega) (Nat.le_refl _) HNUM.out).mono ?_
  rintro e w5 ⟨rfl, hx5, hw5⟩
  obtain ⟨q, hq⟩ : ∃ q : Int, ((1 + docNum d : Nat) : Int) = q := ⟨_, rfl⟩
  have hq0 : 0 ≤ q := by omega
  rw [hq]
  have HQ := Lib.hid hq
  have HX5 := Lib.hid hx5
  have hz5 := hw5.size
  have HB5 : Hid (Below w.heap.size w w5) := Lib.hid (HB4.out.trans (hw5.below (C := w.heap.size) (by omega) (by omega)))
  have HN5 := Lib.hid ((hw5.block w1.heap.size (by omega) (.inl (Nat.lt_succ_self _))).trans HN4.out)
  have HM5 := Lib.hid ((hw5.block w2.heap.size (by omega) (.inr (Nat.le_refl _))).trans HM4.out)
  have HX15 := Lib.hid (HX14.out.block (w' := w5) fun q q1 q2 => hw5.block q (by omega) (.inl (by omega)))
  have ⟨⟨r0, r1, r2⟩, _⟩ := keep3 HM5.out
  clear hq hx5 hw5 m0 m1 m2 HB4 HN4 HM4 HX14 HX24
  go_wp2_with fail
  refine (heldDocOut w5 (w1.heap.size + 1) w2.heap.size _ _ d c 1 HX5.out.doc (by omega) (Nat.le_refl _) HNUM.out).mono ?_
  rintro e w6 ⟨rfl, hb6⟩
  rw [HQ.out]
  have hz6 := hb6.size
  have HB6 := Lib.hid (HB5.out.trans (hb6.mono HB5.out.size))
  have HN6 := Lib.hid ((hb6.block w1.heap.size (by omega)).trans HN5.out)
  have HM6 := Lib.hid ((hb6.block w2.heap.size (by omega)).trans HM5.out)
  have HX16 := Lib.hid (HX15.out.below (by omega) hb6)
  have HX56 := Lib.hid (HX5.out.below (by omega) hb6)
  clear hb6 r0 r1 r2 HB5 HN5 HM5 HX15 HX5
  go_wp2_with fail
  refine (implDocRead a0 hs w6 w.heap.size (HG.out.on HB6.out) (by omega)).mono ?_
  rintro e w7 ⟨s0, s1, rfl, hb7, hx7⟩
  rw [HD.out] at hx7
  rw [HC.out]
  obtain ⟨xa3, xca3, xb3, xcb3, rfl, rfl⟩ := docX_slices hx7
  have hz7 := hb7.size
  have HX7 := Lib.hid hx7
  have hA7 : Below w7.heap.size w7 (w7.alloc (.cells #[.slice xa3 d.sels.len xca3, .slice xb3 d.frags.length xcb3, .int .i64 c] 27)) := (Below.refl _ _).alloc (Nat.le_refl _) _
  have HB8 := Lib.hid ((HB6.out.trans (hb7.mono HB6.out.size)).trans (hA7.mono (by omega)))
  have HN8 := Lib.hid ((hA7.block w1.heap.size (by omega)).trans ((hb7.block w1.heap.size (by omega)).trans HN6.out))
  have HM8 := Lib.hid ((hA7.block w2.heap.size (by omega)).trans ((hb7.block w2.heap.size (by omega)).trans HM6.out))
  have HX18 := Lib.hid ((HX16.out.below (by omega) hb7).below (C := w7.heap.size) (by omega) hA7)
  have HX58 := Lib.hid ((HX56.out.below (by omega) hb7).below (C := w7.heap.size) (by omega) hA7)
  have HX78 := Lib.hid (HX7.out.below (Nat.le_refl _) hA7)
  have hz8 : (w7.alloc (.cells #[.slice xa3 d.sels.len xca3, .slice xb3 d.frags.length xcb3, .int .i64 c] 27)).heap.size = w7.heap.size + 1 := by simp
  have ⟨⟨n0, n1, n2⟩, _⟩ := keep3 HN8.out
  clear hb7 hx7 hA7 HB6 HN6 HM6 HX16 HX56 HX7
  go_wp2_with fail
  clear n0 n1 n2
  generalize w7.alloc (.cells #[.slice xa3 d.sels.len xca3, .slice xb3 d.frags.length xcb3, .int .i64 c] 27) = w8 at *
  refine (eqDocOut w8 0 w8.heap.size _ _ _ _ d c HCO.out (HX78.out.doc.wide (Nat.zero_le _) (by omega)) (HX18.out.doc.wide (Nat.zero_le _) (by omega)) (Nat.le_refl _)).mono ?_
  rintro e w9 ⟨rfl, hb9⟩
  have hz9 := hb9.size
  have HB9 := Lib.hid (HB8.out.trans (hb9.mono HB8.out.size))
  have HM9 := Lib.hid ((hb9.block w2.heap.size (by omega)).trans HM8.out)
  have HX59 := Lib.hid (HX58.out.below (by omega) hb9)
  have ⟨⟨m0, m1, m2⟩, _⟩ := keep3 HM9.out
  clear hb9 HB8 HN8 HM8 HX18 HX58 HX78
  go_wp2_with fail
  refine (heldDocOut w9 (w1.heap.size + 1) w2.heap.size _ _ d c 1 HX59.out.doc (by omega) (Nat.le_refl _) HNUM.out).mono ?_
  rintro e w10 ⟨rfl, hb10⟩
  rw [HQ.out]
  have HB10 := Lib.hid (HB9.out.trans (hb10.mono HB9.out.size))
  clear hb10 m0 m1 m2 HB9 HM9 HX59
  go_wp2_with fail
  go_ret
  exact ⟨rfl, HB10.out⟩
end Go.Proofs.YtnkknfnndoegpaaGreatDoor.Selss
