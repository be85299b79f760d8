/-
  Contract: impl.validOf tells what an error says; of what was there nothing is changed. Condition: the library's variable errors.errorType holds the handle of the type error.
-/
import Derived.Test.YthdncjdopejkkaaDoorRows
import Derived.Test.YthdncjdopejkkaaDoorErrY
import Derived.Test.YthdncjdopejkkaaDoorClone
namespace Go.Proofs.YthdncjdopejkkaaDoor.ErrW
open Go.RowKit
set_option linter.unusedVariables false
set_option maxRecDepth 100000

theorem keep2 {w1 : World} {g : Nat} {v0 v1 : Value} {T : TypeId} (h1 : w1.heap[g]? = some (.cells #[v0, v1] T (0, 0))) :
    (w1.cell? ⟨g, 0, none⟩ = some v0 ∧ w1.cell? ⟨g, 1, none⟩ = some v1) ∧ (w1.frozen? ⟨g, 0, none⟩ = false ∧ w1.frozen? ⟨g, 1, none⟩ = false) := by
  simp [World.cell?, World.frozen?, h1]
theorem set2_block {w : World} {g : Nat} {x0 x1 : Value} {T : TypeId} (h : w.heap[g]? = some (.cells #[x0, x1] T (0, 0))) (v0 v1 : Value) :
    ((w.setCell ⟨g, 0, none⟩ v0).setCell ⟨g, 1, none⟩ v1).heap[g]? = some (.cells #[v0, v1] T (0, 0)) := by
  rw [heap_setCell_same _ _ _ _ _ _ (heap_setCell_same _ _ _ _ _ _ h)]
  simp
theorem set2_other (w : World) (g : Nat) (v0 v1 : Value) (c : Nat) (hc : c ≠ g) : ((w.setCell ⟨g, 0, none⟩ v0).setCell ⟨g, 1, none⟩ v1).heap[c]? = w.heap[c]? := by
  rw [Go.Deep.blk_setCell_other _ ⟨g, 1, none⟩ _ _ hc, Go.Deep.blk_setCell_other _ ⟨g, 0, none⟩ _ _ hc]
theorem row2z {w : World} {b : Nat} {v0 v1 : Value} (h : Rw.RowN w b 0 [v0, v1]) : w.cell? ⟨b, 0, none⟩ = some v0 ∧ w.cell? ⟨b, 1, none⟩ = some v1 := ⟨h 0 _ rfl, h 1 _ rfl⟩
/-- The six variables of validOf. -/
structure VB (w : World) (n : Nat) (a b c d : ByteArray) : Prop where
  r : w.heap[n]? = some (.cells #[.string ⟨#[]⟩, .int .i64 0] 41 (0, 0))
  o : w.heap[n + 1]? = some (.cells #[.string ⟨#[]⟩, .int .i64 0] 41 (0, 0))
  t0 : w.heap[n + 1 + 1]? = some (.cells #[.string a] 69 (0, 0))
  t1 : w.heap[n + 1 + 1 + 1]? = some (.cells #[.string b] 70 (0, 0))
  t2 : w.heap[n + 1 + 1 + 1 + 1]? = some (.cells #[.string c] 71 (0, 0))
  t3 : w.heap[n + 1 + 1 + 1 + 1 + 1]? = some (.cells #[.string d] 72 (0, 0))
theorem VB.step {w w' : World} {n : Nat} {a b c d a' b' c' d' : ByteArray} (h : VB w n a b c d) (j : Nat) (hw : Rw.Within j (j + 1) w w') (hj : n + 1 < j)
    (h0 : (j = n + 1 + 1 → w'.heap[n + 1 + 1]? = some (.cells #[.string a'] 69 (0, 0))) ∧ (j ≠ n + 1 + 1 → a' = a))
    (h1 : (j = n + 1 + 1 + 1 → w'.heap[n + 1 + 1 + 1]? = some (.cells #[.string b'] 70 (0, 0))) ∧ (j ≠ n + 1 + 1 + 1 → b' = b))
    (h2 : (j = n + 1 + 1 + 1 + 1 → w'.heap[n + 1 + 1 + 1 + 1]? = some (.cells #[.string c'] 71 (0, 0))) ∧ (j ≠ n + 1 + 1 + 1 + 1 → c' = c))
    (h3 : (j = n + 1 + 1 + 1 + 1 + 1 → w'.heap[n + 1 + 1 + 1 + 1 + 1]? = some (.cells #[.string d'] 72 (0, 0))) ∧ (j ≠ n + 1 + 1 + 1 + 1 + 1 → d' = d)) : VB w' n a' b' c' d' := by
  refine ⟨(hw.block _ (Rw.lt_of_get h.r) (by omega)).trans h.r, (hw.block _ (Rw.lt_of_get h.o) (by omega)).trans h.o, ?_, ?_, ?_, ?_⟩
  · by_cases e : j = n + 1 + 1
    · exact h0.1 e
    · rw [h0.2 e]; exact (hw.block _ (Rw.lt_of_get h.t0) (by omega)).trans h.t0
  · by_cases e : j = n + 1 + 1 + 1
    · exact h1.1 e
    · rw [h1.2 e]; exact (hw.block _ (Rw.lt_of_get h.t1) (by omega)).trans h.t1
  · by_cases e : j = n + 1 + 1 + 1 + 1
    · exact h2.1 e
    · rw [h2.2 e]; exact (hw.block _ (Rw.lt_of_get h.t2) (by omega)).trans h.t2
  · by_cases e : j = n + 1 + 1 + 1 + 1 + 1
    · exact h3.1 e
    · rw [h3.2 e]; exact (hw.block _ (Rw.lt_of_get h.t3) (by omega)).trans h.t3
theorem VB.same {w w' : World} {n : Nat} {a b c d : ByteArray} (h : VB w n a b c d) (e : w = w') : VB w' n a b c d := e ▸ h
def W6 (w : World) : World := (((((w.alloc (.cells #[.string ⟨#[]⟩, .int .i64 0] 41)).alloc (.cells #[.string ⟨#[]⟩, .int .i64 0] 41)).alloc (.cells #[.string ⟨#[]⟩] 69)).alloc (.cells #[.string ⟨#[]⟩] 70)).alloc (.cells #[.string ⟨#[]⟩] 71)).alloc (.cells #[.string ⟨#[]⟩] 72)
theorem W6.vb (w : World) : VB (W6 w) w.heap.size ⟨#[]⟩ ⟨#[]⟩ ⟨#[]⟩ ⟨#[]⟩ := by
  unfold W6
  have new : ∀ (w : World) (o : Obj) (n : Nat), w.heap.size = n → (w.alloc o).heap[n]? = some o := fun w o n h => h ▸ Go.Deep.blk_alloc_new w o
  have old : ∀ (w : World) (o : Obj) (n : Nat), n < w.heap.size → (w.alloc o).heap[n]? = w.heap[n]? := fun w o n h => Go.Deep.blk_alloc_lt w o n h
  constructor
  · rw [old _ _ _ (by simp <;> omega), old _ _ _ (by simp <;> omega), old _ _ _ (by simp <;> omega), old _ _ _ (by simp <;> omega), old _ _ _ (by simp)]; exact new _ _ _ rfl
  · rw [old _ _ _ (by simp <;> omega), old _ _ _ (by simp <;> omega), old _ _ _ (by simp <;> omega), old _ _ _ (by simp)]; exact new _ _ _ (by simp)
  · rw [old _ _ _ (by simp <;> omega), old _ _ _ (by simp <;> omega), old _ _ _ (by simp)]; exact new _ _ _ (by simp)
  · rw [old _ _ _ (by simp <;> omega), old _ _ _ (by simp)]; exact new _ _ _ (by simp)
  · rw [old _ _ _ (by simp)]; exact new _ _ _ (by simp)
  · exact new _ _ _ (by simp)
theorem W6.below (w : World) : Below w.heap.size w (W6 w) := by
  unfold W6
  exact ((((((Below.refl _ _).alloc (Nat.le_refl _) _).alloc (by simp) _).alloc (by simp <;> omega) _).alloc (by simp <;> omega) _).alloc (by simp <;> omega) _).alloc (by simp <;> omega) _
theorem W6.form (w : World) : (((((w.alloc (.cells #[.string ⟨#[]⟩, .int .i64 0] 41)).alloc (.cells #[.string ⟨#[]⟩, .int .i64 0] 41)).alloc (.cells #[.string ⟨#[]⟩] 69)).alloc (.cells #[.string ⟨#[]⟩] 70)).alloc (.cells #[.string ⟨#[]⟩] 71)).alloc (.cells #[.string ⟨#[]⟩] 72) = W6 w := rfl
theorem asMiss {T : TypeId} (hT : Wrong T) (e : ErrP) (tb : Nat) (w : World) (hg : ErrVar w) (ht : w.heap[tb]? = some (.cells #[.string ⟨#[]⟩] T (0, 0))) (hne : ¬ e.last.typ = T) :
    Calls Tryd.prog 35 #[e.val, .iface (pT T) (.pointer (some ⟨tb, 0, none⟩))] w fun en w' => en = .returned (.bool false) ∧ Rw.Within tb (tb + 1) w w' ∧ w'.heap[tb]? = some (.cells #[.string ⟨#[]⟩] T (0, 0)) := by
  refine (asErr hT e tb w hg ht).mono ?_
  rintro en w' ⟨rfl, h1, h2⟩
  rw [decide_eq_false hne]; rw [if_neg hne] at h2
  exact ⟨rfl, h1, h2⟩
theorem asHit {T : TypeId} (hT : Wrong T) (e : ErrP) (tb : Nat) (w : World) (hg : ErrVar w) (ht : w.heap[tb]? = some (.cells #[.string ⟨#[]⟩] T (0, 0))) (he : e.last.typ = T) :
    Calls Tryd.prog 35 #[e.val, .iface (pT T) (.pointer (some ⟨tb, 0, none⟩))] w fun en w' => en = .returned (.bool true) ∧ Rw.Within tb (tb + 1) w w' ∧ w'.heap[tb]? = some (.cells #[.string e.last.txt] T (0, 0)) := by
  refine (asErr hT e tb w hg ht).mono ?_
  rintro en w' ⟨rfl, h1, h2⟩
  rw [decide_eq_true he]; rw [if_pos he] at h2
  exact ⟨rfl, h1, h2⟩

set_option maxHeartbeats 4000000 in
theorem validNone (e : ErrP) (tx : ByteArray) (hl : e.last = .none tx) (htx : tx.size ≤ 1048576) (w : World) (hg : ErrVar w) :
    Calls Tryd.prog 18 #[e.val] w fun en w' => en = .returned (.agg #[.string tx, .int .i64 6]) ∧ Below w.heap.size w w' := by
  have HG := Lib.hid hg
  have HTY : Hid (e.last.typ = 69) := Lib.hid (by rw [hl]; rfl)
  have HTX : Hid (e.last.txt = tx) := Lib.hid (by rw [hl]; rfl)
  have HV0 := Lib.hid (W6.vb w)
  have HB0 := Lib.hid (W6.below w)
  have CL : Hid (∀ w, Calls Tryd.prog 37 #[.string tx] w fun e w' => e = .returned (.string tx) ∧ Below w.heap.size w w') := Lib.hid fun w => Clones.clone _ w (by omega)
  have C0 : Hid (∀ w1, Below w.heap.size w w1 → VB w1 w.heap.size ⟨#[]⟩ ⟨#[]⟩ ⟨#[]⟩ ⟨#[]⟩ → Calls Tryd.prog 35 #[e.val, .iface 74 (.pointer (some ⟨w.heap.size + 1 + 1, 0, none⟩))] w1 fun en w' => en = .returned (.bool true) ∧ Rw.Within (w.heap.size + 1 + 1) (w.heap.size + 1 + 1 + 1) w1 w' ∧ w'.heap[w.heap.size + 1 + 1]? = some (.cells #[.string tx] 69 (0, 0))) := Lib.hid fun w1 hb hv => by
    have := asHit (T := 69) (.inl rfl) e (w.heap.size + 1 + 1) w1 (HG.out.below hb) hv.t0 HTY.out
    rw [show pT 69 = 74 from rfl] at this; rw [HTX.out] at this
    exact this
  generalize e.val = ev at *
  clear hg hl
  go_enter Tryd.func18, Tryd.ntmps18
  go_wp2_with fail
  rw [W6.form]
  generalize W6 w = w0 at *
  refine (C0.out _ HB0.out HV0.out).mono ?_
  rintro en w1 ⟨rfl, hw, ht⟩
  have HV1 : Hid (VB w1 w.heap.size tx ⟨#[]⟩ ⟨#[]⟩ ⟨#[]⟩) := Lib.hid (HV0.out.step (w.heap.size + 1 + 1) hw (by omega) ⟨fun _ => ht, fun h => absurd rfl h⟩ ⟨fun h => absurd h (by omega), fun _ => rfl⟩ ⟨fun h => absurd h (by omega), fun _ => rfl⟩ ⟨fun h => absurd h (by omega), fun _ => rfl⟩)
  have HB1 := Lib.hid (HB0.out.trans (hw.below (by omega) (HB0.out.size)))
  clear hw ht
  have ⟨⟨o0, o1⟩, p0, p1⟩ := keep2 HV1.out.o
  have ⟨q0, q1⟩ := keep1 HV1.out.t0
  have HS := Lib.hid (set2_block HV1.out.o (.string tx) (.int .i64 6))
  have HRS := Lib.hid ((set2_other w1 (w.heap.size + 1) (.string tx) (.int .i64 6) w.heap.size (by omega)).trans HV1.out.r)
  have HBS := Lib.hid ((HB1.out.setCell (p := ⟨w.heap.size + 1, 0, none⟩) (Nat.le_succ _) (.string tx)).setCell (p := ⟨w.heap.size + 1, 1, none⟩) (Nat.le_succ _) (.int .i64 6))
  go_wp2_with fail
  refine (CL.out _).mono ?_
  rintro en w9 ⟨rfl, hb9⟩
  have h9 := (hb9.block (w.heap.size + 1) (Rw.lt_of_get HS.out)).trans HS.out
  have hr9 := (hb9.block w.heap.size (Rw.lt_of_get HRS.out)).trans HRS.out
  have HB9 := Lib.hid (HBS.out.trans (hb9.mono HBS.out.size))
  have HR9 : Hid ((w9.setCell ⟨w.heap.size + 1, 0, none⟩ (.string tx)).heap[w.heap.size]? = _) := Lib.hid ((Go.Deep.blk_setCell_other _ ⟨w.heap.size + 1, 0, none⟩ _ _ (by omega : w.heap.size ≠ w.heap.size + 1)).trans hr9)
  have HB10 := Lib.hid (HB9.out.setCell (p := ⟨w.heap.size + 1, 0, none⟩) (Nat.le_succ _) (.string tx))
  clear o0 o1 p0 p1 q0 q1 hb9
  have ⟨⟨o0, o1⟩, p0, p1⟩ := keep2 h9
  have ⟨⟨r0, r1⟩, s0, s1⟩ := keep2 hr9
  clear h9 hr9
  go_wp2_with fail
  change bodyPost _ _ _ _ _ (Rw.putL (w9.setCell ⟨w.heap.size + 1, 0, none⟩ (.string tx)) w.heap.size 0 [.string tx, .int .i64 6])
  obtain ⟨hr, _, _⟩ := Rw.putL_cells (g := w.heap.size) (o := 0) (l := [.string tx, .int .i64 6]) HR9.out (by simp)
  have HBF := Rw.putL_below (g := w.heap.size) (B := w.heap.size) (Nat.le_refl _) [.string tx, .int .i64 6] 0 HB10.out
  generalize Rw.putL (w9.setCell ⟨w.heap.size + 1, 0, none⟩ (.string tx)) w.heap.size 0 [.string tx, .int .i64 6] = wz at *
  have ⟨x0, x1⟩ := row2z hr
  exact bodyPost_ret (v := .agg #[.string tx, .int .i64 6]) (by simp [results, Tryd.results18, go_sem, x0, x1]) rfl ⟨rfl, HBF⟩

set_option maxHeartbeats 4000000 in
theorem validThere (e : ErrP) (tx : ByteArray) (hl : e.last = .there tx) (htx : tx.size ≤ 1048576) (w : World) (hg : ErrVar w) :
    Calls Tryd.prog 18 #[e.val] w fun en w' => en = .returned (.agg #[.string tx, .int .i64 7]) ∧ Below w.heap.size w w' := by
  have HG := Lib.hid hg
  have HTY : Hid (e.last.typ = 70) := Lib.hid (by rw [hl]; rfl)
  have HTX : Hid (e.last.txt = tx) := Lib.hid (by rw [hl]; rfl)
  have HV0 := Lib.hid (W6.vb w)
  have HB0 := Lib.hid (W6.below w)
  have CL : Hid (∀ w, Calls Tryd.prog 37 #[.string tx] w fun e w' => e = .returned (.string tx) ∧ Below w.heap.size w w') := Lib.hid fun w => Clones.clone _ w (by omega)
  have C0 : Hid (∀ w1, Below w.heap.size w w1 → VB w1 w.heap.size ⟨#[]⟩ ⟨#[]⟩ ⟨#[]⟩ ⟨#[]⟩ → Calls Tryd.prog 35 #[e.val, .iface 74 (.pointer (some ⟨w.heap.size + 1 + 1, 0, none⟩))] w1 fun en w' => en = .returned (.bool false) ∧ Rw.Within (w.heap.size + 1 + 1) (w.heap.size + 1 + 1 + 1) w1 w' ∧ w'.heap[w.heap.size + 1 + 1]? = some (.cells #[.string ⟨#[]⟩] 69 (0, 0))) := Lib.hid fun w1 hb hv => by
    have := asMiss (T := 69) (.inl rfl) e (w.heap.size + 1 + 1) w1 (HG.out.below hb) hv.t0 (by rw [HTY.out]; decide)
    rw [show pT 69 = 74 from rfl] at this
    exact this
  have C1 : Hid (∀ w1, Below w.heap.size w w1 → VB w1 w.heap.size ⟨#[]⟩ ⟨#[]⟩ ⟨#[]⟩ ⟨#[]⟩ → Calls Tryd.prog 35 #[e.val, .iface 75 (.pointer (some ⟨w.heap.size + 1 + 1 + 1, 0, none⟩))] w1 fun en w' => en = .returned (.bool true) ∧ Rw.Within (w.heap.size + 1 + 1 + 1) (w.heap.size + 1 + 1 + 1 + 1) w1 w' ∧ w'.heap[w.heap.size + 1 + 1 + 1]? = some (.cells #[.string tx] 70 (0, 0))) := Lib.hid fun w1 hb hv => by
    have := asHit (T := 70) (.inr (.inl rfl)) e (w.heap.size + 1 + 1 + 1) w1 (HG.out.below hb) hv.t1 HTY.out
    rw [show pT 70 = 75 from rfl] at this; rw [HTX.out] at this
    exact this
  generalize e.val = ev at *
  clear hg hl
  go_enter Tryd.func18, Tryd.ntmps18
  go_wp2_with fail
  rw [W6.form]
  generalize W6 w = w0 at *
  refine (C0.out _ HB0.out HV0.out).mono ?_
  rintro en w1 ⟨rfl, hw, ht⟩
  have HV1 : Hid (VB w1 w.heap.size ⟨#[]⟩ ⟨#[]⟩ ⟨#[]⟩ ⟨#[]⟩) := Lib.hid (HV0.out.step (w.heap.size + 1 + 1) hw (by omega) ⟨fun _ => ht, fun h => absurd rfl h⟩ ⟨fun h => absurd h (by omega), fun _ => rfl⟩ ⟨fun h => absurd h (by omega), fun _ => rfl⟩ ⟨fun h => absurd h (by omega), fun _ => rfl⟩)
  have HB1 := Lib.hid (HB0.out.trans (hw.below (by omega) (HB0.out.size)))
  clear hw ht
  go_wp2_with fail
  refine (C1.out _ HB1.out HV1.out).mono ?_
  rintro en w2 ⟨rfl, hw, ht⟩
  have HV2 : Hid (VB w2 w.heap.size ⟨#[]⟩ tx ⟨#[]⟩ ⟨#[]⟩) := Lib.hid (HV1.out.step (w.heap.size + 1 + 1 + 1) hw (by omega) ⟨fun h => absurd h (by omega), fun _ => rfl⟩ ⟨fun _ => ht, fun h => absurd rfl h⟩ ⟨fun h => absurd h (by omega), fun _ => rfl⟩ ⟨fun h => absurd h (by omega), fun _ => rfl⟩)
  have HB2 := Lib.hid (HB1.out.trans (hw.below (by omega) (HB1.out.size)))
  clear hw ht
  have ⟨⟨o0, o1⟩, p0, p1⟩ := keep2 HV2.out.o
  have ⟨q0, q1⟩ := keep1 HV2.out.t1
  have HS := Lib.hid (set2_block HV2.out.o (.string tx) (.int .i64 7))
  have HRS := Lib.hid ((set2_other w2 (w.heap.size + 1) (.string tx) (.int .i64 7) w.heap.size (by omega)).trans HV2.out.r)
  have HBS := Lib.hid ((HB2.out.setCell (p := ⟨w.heap.size + 1, 0, none⟩) (Nat.le_succ _) (.string tx)).setCell (p := ⟨w.heap.size + 1, 1, none⟩) (Nat.le_succ _) (.int .i64 7))
  go_wp2_with fail
  refine (CL.out _).mono ?_
  rintro en w9 ⟨rfl, hb9⟩
  have h9 := (hb9.block (w.heap.size + 1) (Rw.lt_of_get HS.out)).trans HS.out
  have hr9 := (hb9.block w.heap.size (Rw.lt_of_get HRS.out)).trans HRS.out
  have HB9 := Lib.hid (HBS.out.trans (hb9.mono HBS.out.size))
  have HR9 : Hid ((w9.setCell ⟨w.heap.size + 1, 0, none⟩ (.string tx)).heap[w.heap.size]? = _) := Lib.hid ((Go.Deep.blk_setCell_other _ ⟨w.heap.size + 1, 0, none⟩ _ _ (by omega : w.heap.size ≠ w.heap.size + 1)).trans hr9)
  have HB10 := Lib.hid (HB9.out.setCell (p := ⟨w.heap.size + 1, 0, none⟩) (Nat.le_succ _) (.string tx))
  clear o0 o1 p0 p1 q0 q1 hb9
  have ⟨⟨o0, o1⟩, p0, p1⟩ := keep2 h9
  have ⟨⟨r0, r1⟩, s0, s1⟩ := keep2 hr9
  clear h9 hr9
  go_wp2_with fail
  change bodyPost _ _ _ _ _ (Rw.putL (w9.setCell ⟨w.heap.size + 1, 0, none⟩ (.string tx)) w.heap.size 0 [.string tx, .int .i64 7])
  obtain ⟨hr, _, _⟩ := Rw.putL_cells (g := w.heap.size) (o := 0) (l := [.string tx, .int .i64 7]) HR9.out (by simp)
  have HBF := Rw.putL_below (g := w.heap.size) (B := w.heap.size) (Nat.le_refl _) [.string tx, .int .i64 7] 0 HB10.out
  generalize Rw.putL (w9.setCell ⟨w.heap.size + 1, 0, none⟩ (.string tx)) w.heap.size 0 [.string tx, .int .i64 7] = wz at *
  have ⟨x0, x1⟩ := row2z hr
  exact bodyPost_ret (v := .agg #[.string tx, .int .i64 7]) (by simp [results, Tryd.results18, go_sem, x0, x1]) rfl ⟨rfl, HBF⟩

set_option maxHeartbeats 4000000 in
theorem validRange (e : ErrP) (tx : ByteArray) (hl : e.last = .range tx) (htx : tx.size ≤ 1048576) (w : World) (hg : ErrVar w) :
    Calls Tryd.prog 18 #[e.val] w fun en w' => en = .returned (.agg #[.string tx, .int .i64 8]) ∧ Below w.heap.size w w' := by
  have HG := Lib.hid hg
  have HTY : Hid (e.last.typ = 71) := Lib.hid (by rw [hl]; rfl)
  have HTX : Hid (e.last.txt = tx) := Lib.hid (by rw [hl]; rfl)
  have HV0 := Lib.hid (W6.vb w)
  have HB0 := Lib.hid (W6.below w)
  have CL : Hid (∀ w, Calls Tryd.prog 37 #[.string tx] w fun e w' => e = .returned (.string tx) ∧ Below w.heap.size w w') := Lib.hid fun w => Clones.clone _ w (by omega)
  have C0 : Hid (∀ w1, Below w.heap.size w w1 → VB w1 w.heap.size ⟨#[]⟩ ⟨#[]⟩ ⟨#[]⟩ ⟨#[]⟩ → Calls Tryd.prog 35 #[e.val, .iface 74 (.pointer (some ⟨w.heap.size + 1 + 1, 0, none⟩))] w1 fun en w' => en = .returned (.bool false) ∧ Rw.Within (w.heap.size + 1 + 1) (w.heap.size + 1 + 1 + 1) w1 w' ∧ w'.heap[w.heap.size + 1 + 1]? = some (.cells #[.string ⟨#[]⟩] 69 (0, 0))) := Lib.hid fun w1 hb hv => by
    have := asMiss (T := 69) (.inl rfl) e (w.heap.size + 1 + 1) w1 (HG.out.below hb) hv.t0 (by rw [HTY.out]; decide)
    rw [show pT 69 = 74 from rfl] at this
    exact this
  have C1 : Hid (∀ w1, Below w.heap.size w w1 → VB w1 w.heap.size ⟨#[]⟩ ⟨#[]⟩ ⟨#[]⟩ ⟨#[]⟩ → Calls Tryd.prog 35 #[e.val, .iface 75 (.pointer (some ⟨w.heap.size + 1 + 1 + 1, 0, none⟩))] w1 fun en w' => en = .returned (.bool false) ∧ Rw.Within (w.heap.size + 1 + 1 + 1) (w.heap.size + 1 + 1 + 1 + 1) w1 w' ∧ w'.heap[w.heap.size + 1 + 1 + 1]? = some (.cells #[.string ⟨#[]⟩] 70 (0, 0))) := Lib.hid fun w1 hb hv => by
    have := asMiss (T := 70) (.inr (.inl rfl)) e (w.heap.size + 1 + 1 + 1) w1 (HG.out.below hb) hv.t1 (by rw [HTY.out]; decide)
    rw [show pT 70 = 75 from rfl] at this
    exact this
  have C2 : Hid (∀ w1, Below w.heap.size w w1 → VB w1 w.heap.size ⟨#[]⟩ ⟨#[]⟩ ⟨#[]⟩ ⟨#[]⟩ → Calls Tryd.prog 35 #[e.val, .iface 76 (.pointer (some ⟨w.heap.size + 1 + 1 + 1 + 1, 0, none⟩))] w1 fun en w' => en = .returned (.bool true) ∧ Rw.Within (w.heap.size + 1 + 1 + 1 + 1) (w.heap.size + 1 + 1 + 1 + 1 + 1) w1 w' ∧ w'.heap[w.heap.size + 1 + 1 + 1 + 1]? = some (.cells #[.string tx] 71 (0, 0))) := Lib.hid fun w1 hb hv => by
    have := asHit (T := 71) (.inr (.inr (.inl rfl))) e (w.heap.size + 1 + 1 + 1 + 1) w1 (HG.out.below hb) hv.t2 HTY.out
    rw [show pT 71 = 76 from rfl] at this; rw [HTX.out] at this
    exact this
  generalize e.val = ev at *
  clear hg hl
  go_enter Tryd.func18, Tryd.ntmps18
  go_wp2_with fail
  rw [W6.form]
  generalize W6 w = w0 at *
  refine (C0.out _ HB0.out HV0.out).mono ?_
  rintro en w1 ⟨rfl, hw, ht⟩
  have HV1 : Hid (VB w1 w.heap.size ⟨#[]⟩ ⟨#[]⟩ ⟨#[]⟩ ⟨#[]⟩) := Lib.hid (HV0.out.step (w.heap.size + 1 + 1) hw (by omega) ⟨fun _ => ht, fun h => absurd rfl h⟩ ⟨fun h => absurd h (by omega), fun _ => rfl⟩ ⟨fun h => absurd h (by omega), fun _ => rfl⟩ ⟨fun h => absurd h (by omega), fun _ => rfl⟩)
  have HB1 := Lib.hid (HB0.out.trans (hw.below (by omega) (HB0.out.size)))
  clear hw ht
  go_wp2_with fail
  refine (C1.out _ HB1.out HV1.out).mono ?_
  rintro en w2 ⟨rfl, hw, ht⟩
  have HV2 : Hid (VB w2 w.heap.size ⟨#[]⟩ ⟨#[]⟩ ⟨#[]⟩ ⟨#[]⟩) := Lib.hid (HV1.out.step (w.heap.size + 1 + 1 + 1) hw (by omega) ⟨fun h => absurd h (by omega), fun _ => rfl⟩ ⟨fun _ => ht, fun h => absurd rfl h⟩ ⟨fun h => absurd h (by omega), fun _ => rfl⟩ ⟨fun h => absurd h (by omega), fun _ => rfl⟩)
  have HB2 := Lib.hid (HB1.out.trans (hw.below (by omega) (HB1.out.size)))
  clear hw ht
  go_wp2_with fail
  refine (C2.out _ HB2.out HV2.out).mono ?_
  rintro en w3 ⟨rfl, hw, ht⟩
  have HV3 : Hid (VB w3 w.heap.size ⟨#[]⟩ ⟨#[]⟩ tx ⟨#[]⟩) := Lib.hid (HV2.out.step (w.heap.size + 1 + 1 + 1 + 1) hw (by omega) ⟨fun h => absurd h (by omega), fun _ => rfl⟩ ⟨fun h => absurd h (by omega), fun _ => rfl⟩ ⟨fun _ => ht, fun h => absurd rfl h⟩ ⟨fun h => absurd h (by omega), fun _ => rfl⟩)
  have HB3 := Lib.hid (HB2.out.trans (hw.below (by omega) (HB2.out.size)))
  clear hw ht
  have ⟨⟨o0, o1⟩, p0, p1⟩ := keep2 HV3.out.o
  have ⟨q0, q1⟩ := keep1 HV3.out.t2
  have HS := Lib.hid (set2_block HV3.out.o (.string tx) (.int .i64 8))
  have HRS := Lib.hid ((set2_other w3 (w.heap.size + 1) (.string tx) (.int .i64 8) w.heap.size (by omega)).trans HV3.out.r)
  have HBS := Lib.hid ((HB3.out.setCell (p := ⟨w.heap.size + 1, 0, none⟩) (Nat.le_succ _) (.string tx)).setCell (p := ⟨w.heap.size + 1, 1, none⟩) (Nat.le_succ _) (.int .i64 8))
  go_wp2_with fail
  refine (CL.out _).mono ?_
  rintro en w9 ⟨rfl, hb9⟩
  have h9 := (hb9.block (w.heap.size + 1) (Rw.lt_of_get HS.out)).trans HS.out
  have hr9 := (hb9.block w.heap.size (Rw.lt_of_get HRS.out)).trans HRS.out
  have HB9 := Lib.hid (HBS.out.trans (hb9.mono HBS.out.size))
  have HR9 : Hid ((w9.setCell ⟨w.heap.size + 1, 0, none⟩ (.string tx)).heap[w.heap.size]? = _) := Lib.hid ((Go.Deep.blk_setCell_other _ ⟨w.heap.size + 1, 0, none⟩ _ _ (by omega : w.heap.size ≠ w.heap.size + 1)).trans hr9)
  have HB10 := Lib.hid (HB9.out.setCell (p := ⟨w.heap.size + 1, 0, none⟩) (Nat.le_succ _) (.string tx))
  clear o0 o1 p0 p1 q0 q1 hb9
  have ⟨⟨o0, o1⟩, p0, p1⟩ := keep2 h9
  have ⟨⟨r0, r1⟩, s0, s1⟩ := keep2 hr9
  clear h9 hr9
  go_wp2_with fail
  change bodyPost _ _ _ _ _ (Rw.putL (w9.setCell ⟨w.heap.size + 1, 0, none⟩ (.string tx)) w.heap.size 0 [.string tx, .int .i64 8])
  obtain ⟨hr, _, _⟩ := Rw.putL_cells (g := w.heap.size) (o := 0) (l := [.string tx, .int .i64 8]) HR9.out (by simp)
  have HBF := Rw.putL_below (g := w.heap.size) (B := w.heap.size) (Nat.le_refl _) [.string tx, .int .i64 8] 0 HB10.out
  generalize Rw.putL (w9.setCell ⟨w.heap.size + 1, 0, none⟩ (.string tx)) w.heap.size 0 [.string tx, .int .i64 8] = wz at *
  have ⟨x0, x1⟩ := row2z hr
  exact bodyPost_ret (v := .agg #[.string tx, .int .i64 8]) (by simp [results, Tryd.results18, go_sem, x0, x1]) rfl ⟨rfl, HBF⟩

set_option maxHeartbeats 4000000 in
theorem validState (e : ErrP) (tx : ByteArray) (hl : e.last = .state tx) (htx : tx.size ≤ 1048576) (w : World) (hg : ErrVar w) :
    Calls Tryd.prog 18 #[e.val] w fun en w' => en = .returned (.agg #[.string tx, .int .i64 10]) ∧ Below w.heap.size w w' := by
  have HG := Lib.hid hg
  have HTY : Hid (e.last.typ = 72) := Lib.hid (by rw [hl]; rfl)
  have HTX : Hid (e.last.txt = tx) := Lib.hid (by rw [hl]; rfl)
  have HV0 := Lib.hid (W6.vb w)
  have HB0 := Lib.hid (W6.below w)
  have CL : Hid (∀ w, Calls Tryd.prog 37 #[.string tx] w fun e w' => e = .returned (.string tx) ∧ Below w.heap.size w w') := Lib.hid fun w => Clones.clone _ w (by omega)
  have C0 : Hid (∀ w1, Below w.heap.size w w1 → VB w1 w.heap.size ⟨#[]⟩ ⟨#[]⟩ ⟨#[]⟩ ⟨#[]⟩ → Calls Tryd.prog 35 #[e.val, .iface 74 (.pointer (some ⟨w.heap.size + 1 + 1, 0, none⟩))] w1 fun en w' => en = .returned (.bool false) ∧ Rw.Within (w.heap.size + 1 + 1) (w.heap.size + 1 + 1 + 1) w1 w' ∧ w'.heap[w.heap.size + 1 + 1]? = some (.cells #[.string ⟨#[]⟩] 69 (0, 0))) := Lib.hid fun w1 hb hv => by
    have := asMiss (T := 69) (.inl rfl) e (w.heap.size + 1 + 1) w1 (HG.out.below hb) hv.t0 (by rw [HTY.out]; decide)
    rw [show pT 69 = 74 from rfl] at this
    exact this
  have C1 : Hid (∀ w1, Below w.heap.size w w1 → VB w1 w.heap.size ⟨#[]⟩ ⟨#[]⟩ ⟨#[]⟩ ⟨#[]⟩ → Calls Tryd.prog 35 #[e.val, .iface 75 (.pointer (some ⟨w.heap.size + 1 + 1 + 1, 0, none⟩))] w1 fun en w' => en = .returned (.bool false) ∧ Rw.Within (w.heap.size + 1 + 1 + 1) (w.heap.size + 1 + 1 + 1 + 1) w1 w' ∧ w'.heap[w.heap.size + 1 + 1 + 1]? = some (.cells #[.string ⟨#[]⟩] 70 (0, 0))) := Lib.hid fun w1 hb hv => by
    have := asMiss (T := 70) (.inr (.inl rfl)) e (w.heap.size + 1 + 1 + 1) w1 (HG.out.below hb) hv.t1 (by rw [HTY.out]; decide)
    rw [show pT 70 = 75 from rfl] at this
    exact this
  have C2 : Hid (∀ w1, Below w.heap.size w w1 → VB w1 w.heap.size ⟨#[]⟩ ⟨#[]⟩ ⟨#[]⟩ ⟨#[]⟩ → Calls Tryd.prog 35 #[e.val, .iface 76 (.pointer (some ⟨w.heap.size + 1 + 1 + 1 + 1, 0, none⟩))] w1 fun en w' => en = .returned (.bool false) ∧ Rw.Within (w.heap.size + 1 + 1 + 1 + 1) (w.heap.size + 1 + 1 + 1 + 1 + 1) w1 w' ∧ w'.heap[w.heap.size + 1 + 1 + 1 + 1]? = some (.cells #[.string ⟨#[]⟩] 71 (0, 0))) := Lib.hid fun w1 hb hv => by
    have := asMiss (T := 71) (.inr (.inr (.inl rfl))) e (w.heap.size + 1 + 1 + 1 + 1) w1 (HG.out.below hb) hv.t2 (by rw [HTY.out]; decide)
    rw [show pT 71 = 76 from rfl] at this
    exact this
  have C3 : Hid (∀ w1, Below w.heap.size w w1 → VB w1 w.heap.size ⟨#[]⟩ ⟨#[]⟩ ⟨#[]⟩ ⟨#[]⟩ → Calls Tryd.prog 35 #[e.val, .iface 77 (.pointer (some ⟨w.heap.size + 1 + 1 + 1 + 1 + 1, 0, none⟩))] w1 fun en w' => en = .returned (.bool true) ∧ Rw.Within (w.heap.size + 1 + 1 + 1 + 1 + 1) (w.heap.size + 1 + 1 + 1 + 1 + 1 + 1) w1 w' ∧ w'.heap[w.heap.size + 1 + 1 + 1 + 1 + 1]? = some (.cells #[.string tx] 72 (0, 0))) := Lib.hid fun w1 hb hv => by
    have := asHit (T := 72) (.inr (.inr (.inr rfl))) e (w.heap.size + 1 + 1 + 1 + 1 + 1) w1 (HG.out.below hb) hv.t3 HTY.out
    rw [show pT 72 = 77 from rfl] at this; rw [HTX.out] at this
    exact this
  generalize e.val = ev at *
  clear hg hl
  go_enter Tryd.func18, Tryd.ntmps18
  go_wp2_with fail
  rw [W6.form]
  generalize W6 w = w0 at *
  refine (C0.out _ HB0.out HV0.out).mono ?_
  rintro en w1 ⟨rfl, hw, ht⟩
  have HV1 : Hid (VB w1 w.heap.size ⟨#[]⟩ ⟨#[]⟩ ⟨#[]⟩ ⟨#[]⟩) := Lib.hid (HV0.out.step (w.heap.size + 1 + 1) hw (by omega) ⟨fun _ => ht, fun h => absurd rfl h⟩ ⟨fun h => absurd h (by omega), fun _ => rfl⟩ ⟨fun h => absurd h (by omega), fun _ => rfl⟩ ⟨fun h => absurd h (by omega), fun _ => rfl⟩)
  have HB1 := Lib.hid (HB0.out.trans (hw.below (by omega) (HB0.out.size)))
  clear hw ht
  go_wp2_with fail
  refine (C1.out _ HB1.out HV1.out).mono ?_
  rintro en w2 ⟨rfl, hw, ht⟩
  have HV2 : Hid (VB w2 w.heap.size ⟨#[]⟩ ⟨#[]⟩ ⟨#[]⟩ ⟨#[]⟩) := Lib.hid (HV1.out.step (w.heap.size + 1 + 1 + 1) hw (by omega) ⟨fun h => absurd h (by omega), fun _ => rfl⟩ ⟨fun _ => ht, fun h => absurd rfl h⟩ ⟨fun h => absurd h (by omega), fun _ => rfl⟩ ⟨fun h => absurd h (by omega), fun _ => rfl⟩)
  have HB2 := Lib.hid (HB1.out.trans (hw.below (by omega) (HB1.out.size)))
  clear hw ht
  go_wp2_with fail
  refine (C2.out _ HB2.out HV2.out).mono ?_
  rintro en w3 ⟨rfl, hw, ht⟩
  have HV3 : Hid (VB w3 w.heap.size ⟨#[]⟩ ⟨#[]⟩ ⟨#[]⟩ ⟨#[]⟩) := Lib.hid (HV2.out.step (w.heap.size + 1 + 1 + 1 + 1) hw (by omega) ⟨fun h => absurd h (by omega), fun _ => rfl⟩ ⟨fun h => absurd h (by omega), fun _ => rfl⟩ ⟨fun _ => ht, fun h => absurd rfl h⟩ ⟨fun h => absurd h (by omega), fun _ => rfl⟩)
  have HB3 := Lib.hid (HB2.out.trans (hw.below (by omega) (HB2.out.size)))
  clear hw ht
  go_wp2_with fail
  refine (C3.out _ HB3.out HV3.out).mono ?_
  rintro en w4 ⟨rfl, hw, ht⟩
  have HV4 : Hid (VB w4 w.heap.size ⟨#[]⟩ ⟨#[]⟩ ⟨#[]⟩ tx) := Lib.hid (HV3.out.step (w.heap.size + 1 + 1 + 1 + 1 + 1) hw (by omega) ⟨fun h => absurd h (by omega), fun _ => rfl⟩ ⟨fun h => absurd h (by omega), fun _ => rfl⟩ ⟨fun h => absurd h (by omega), fun _ => rfl⟩ ⟨fun _ => ht, fun h => absurd rfl h⟩)
  have HB4 := Lib.hid (HB3.out.trans (hw.below (by omega) (HB3.out.size)))
  clear hw ht
  have ⟨⟨o0, o1⟩, p0, p1⟩ := keep2 HV4.out.o
  have ⟨q0, q1⟩ := keep1 HV4.out.t3
  have HS := Lib.hid (set2_block HV4.out.o (.string tx) (.int .i64 10))
  have HRS := Lib.hid ((set2_other w4 (w.heap.size + 1) (.string tx) (.int .i64 10) w.heap.size (by omega)).trans HV4.out.r)
  have HBS := Lib.hid ((HB4.out.setCell (p := ⟨w.heap.size + 1, 0, none⟩) (Nat.le_succ _) (.string tx)).setCell (p := ⟨w.heap.size + 1, 1, none⟩) (Nat.le_succ _) (.int .i64 10))
  go_wp2_with fail
  refine (CL.out _).mono ?_
  rintro en w9 ⟨rfl, hb9⟩
  have h9 := (hb9.block (w.heap.size + 1) (Rw.lt_of_get HS.out)).trans HS.out
  have hr9 := (hb9.block w.heap.size (Rw.lt_of_get HRS.out)).trans HRS.out
  have HB9 := Lib.hid (HBS.out.trans (hb9.mono HBS.out.size))
  have HR9 : Hid ((w9.setCell ⟨w.heap.size + 1, 0, none⟩ (.string tx)).heap[w.heap.size]? = _) := Lib.hid ((Go.Deep.blk_setCell_other _ ⟨w.heap.size + 1, 0, none⟩ _ _ (by omega : w.heap.size ≠ w.heap.size + 1)).trans hr9)
  have HB10 := Lib.hid (HB9.out.setCell (p := ⟨w.heap.size + 1, 0, none⟩) (Nat.le_succ _) (.string tx))
  clear o0 o1 p0 p1 q0 q1 hb9
  have ⟨⟨o0, o1⟩, p0, p1⟩ := keep2 h9
  have ⟨⟨r0, r1⟩, s0, s1⟩ := keep2 hr9
  clear h9 hr9
  go_wp2_with fail
  change bodyPost _ _ _ _ _ (Rw.putL (w9.setCell ⟨w.heap.size + 1, 0, none⟩ (.string tx)) w.heap.size 0 [.string tx, .int .i64 10])
  obtain ⟨hr, _, _⟩ := Rw.putL_cells (g := w.heap.size) (o := 0) (l := [.string tx, .int .i64 10]) HR9.out (by simp)
  have HBF := Rw.putL_below (g := w.heap.size) (B := w.heap.size) (Nat.le_refl _) [.string tx, .int .i64 10] 0 HB10.out
  generalize Rw.putL (w9.setCell ⟨w.heap.size + 1, 0, none⟩ (.string tx)) w.heap.size 0 [.string tx, .int .i64 10] = wz at *
  have ⟨x0, x1⟩ := row2z hr
  exact bodyPost_ret (v := .agg #[.string tx, .int .i64 10]) (by simp [results, Tryd.results18, go_sem, x0, x1]) rfl ⟨rfl, HBF⟩

set_option maxHeartbeats 4000000 in
theorem validNil (w : World) :
    Calls Tryd.prog 18 #[.nilIface] w fun en w' => en = .returned (.agg #[.string ⟨#[]⟩, .int .i64 0]) ∧ Below w.heap.size w w' := by
  have HV0 := Lib.hid (W6.vb w)
  have HB0 := Lib.hid (W6.below w)
  have CL : Hid (∀ w, Calls Tryd.prog 37 #[.string ⟨#[]⟩] w fun e w' => e = .returned (.string ⟨#[]⟩) ∧ Below w.heap.size w w') := Lib.hid fun w => Clones.clone _ w (by decide)
  go_enter Tryd.func18, Tryd.ntmps18
  go_wp2_with fail
  rw [W6.form]
  generalize W6 w = w0 at *
  refine (asNil _ _).mono ?_
  rintro en w1 ⟨rfl, rfl⟩
  go_wp2_with fail
  refine (asNil _ _).mono ?_
  rintro en w1 ⟨rfl, rfl⟩
  go_wp2_with fail
  refine (asNil _ _).mono ?_
  rintro en w1 ⟨rfl, rfl⟩
  go_wp2_with fail
  refine (asNil _ _).mono ?_
  rintro en w1 ⟨rfl, rfl⟩
  go_wp2_with fail
  refine (isNil _).mono ?_
  rintro en w1 ⟨rfl, rfl⟩
  have ⟨⟨o0, o1⟩, p0, p1⟩ := keep2 HV0.out.o
  have HS := Lib.hid HV0.out.o
  have HRS := Lib.hid HV0.out.r
  have HBS := HB0
  go_wp2_with fail
  refine (CL.out _).mono ?_
  rintro en w9 ⟨rfl, hb9⟩
  have h9 := (hb9.block (w.heap.size + 1) (Rw.lt_of_get HS.out)).trans HS.out
  have hr9 := (hb9.block w.heap.size (Rw.lt_of_get HRS.out)).trans HRS.out
  have HB9 := Lib.hid (HBS.out.trans (hb9.mono HBS.out.size))
  have HR9 : Hid ((w9.setCell ⟨w.heap.size + 1, 0, none⟩ (.string ⟨#[]⟩)).heap[w.heap.size]? = _) := Lib.hid ((Go.Deep.blk_setCell_other _ ⟨w.heap.size + 1, 0, none⟩ _ _ (by omega : w.heap.size ≠ w.heap.size + 1)).trans hr9)
  have HB10 := Lib.hid (HB9.out.setCell (p := ⟨w.heap.size + 1, 0, none⟩) (Nat.le_succ _) (.string ⟨#[]⟩))
  clear o0 o1 p0 p1 hb9
  have ⟨⟨o0, o1⟩, p0, p1⟩ := keep2 h9
  have ⟨⟨r0, r1⟩, s0, s1⟩ := keep2 hr9
  clear h9 hr9
  go_wp2_with fail
  change bodyPost _ _ _ _ _ (Rw.putL (w9.setCell ⟨w.heap.size + 1, 0, none⟩ (.string ⟨#[]⟩)) w.heap.size 0 [.string ⟨#[]⟩, .int .i64 0])
  obtain ⟨hr, _, _⟩ := Rw.putL_cells (g := w.heap.size) (o := 0) (l := [.string ⟨#[]⟩, .int .i64 0]) HR9.out (by simp)
  have HBF := Rw.putL_below (g := w.heap.size) (B := w.heap.size) (Nat.le_refl _) [.string ⟨#[]⟩, .int .i64 0] 0 HB10.out
  generalize Rw.putL (w9.setCell ⟨w.heap.size + 1, 0, none⟩ (.string ⟨#[]⟩)) w.heap.size 0 [.string ⟨#[]⟩, .int .i64 0] = wz at *
  have ⟨x0, x1⟩ := row2z hr
  exact bodyPost_ret (v := .agg #[.string ⟨#[]⟩, .int .i64 0]) (by simp [results, Tryd.results18, go_sem, x0, x1]) rfl ⟨rfl, HBF⟩

set_option maxHeartbeats 4000000 in
theorem validForm (w : World) (hg : ErrVar w) :
    Calls Tryd.prog 18 #[.iface 80 (.agg #[.int .i64 1])] w fun en w' => en = .returned (.agg #[.string ⟨#[]⟩, .int .i64 1]) ∧ Below w.heap.size w w' := by
  have HG := Lib.hid hg
  have HV0 := Lib.hid (W6.vb w)
  have HB0 := Lib.hid (W6.below w)
  have CL : Hid (∀ w, Calls Tryd.prog 37 #[.string ⟨#[]⟩] w fun e w' => e = .returned (.string ⟨#[]⟩) ∧ Below w.heap.size w w') := Lib.hid fun w => Clones.clone _ w (by decide)
  have C0 : Hid (∀ w1, Below w.heap.size w w1 → VB w1 w.heap.size ⟨#[]⟩ ⟨#[]⟩ ⟨#[]⟩ ⟨#[]⟩ → Calls Tryd.prog 35 #[.iface 80 (.agg #[.int .i64 1]), .iface 74 (.pointer (some ⟨w.heap.size + 1 + 1, 0, none⟩))] w1 fun en w' => en = .returned (.bool false) ∧ Rw.Within (w.heap.size + 1 + 1) (w.heap.size + 1 + 1 + 1) w1 w' ∧ w'.heap[w.heap.size + 1 + 1]? = some (.cells #[.string ⟨#[]⟩] 69 (0, 0))) := Lib.hid fun w1 hb hv => by
    have := asMiss (T := 69) (.inl rfl) (.leaf .form) (w.heap.size + 1 + 1) w1 (HG.out.below hb) hv.t0 (by decide)
    rw [show pT 69 = 74 from rfl] at this
    exact this
  have C1 : Hid (∀ w1, Below w.heap.size w w1 → VB w1 w.heap.size ⟨#[]⟩ ⟨#[]⟩ ⟨#[]⟩ ⟨#[]⟩ → Calls Tryd.prog 35 #[.iface 80 (.agg #[.int .i64 1]), .iface 75 (.pointer (some ⟨w.heap.size + 1 + 1 + 1, 0, none⟩))] w1 fun en w' => en = .returned (.bool false) ∧ Rw.Within (w.heap.size + 1 + 1 + 1) (w.heap.size + 1 + 1 + 1 + 1) w1 w' ∧ w'.heap[w.heap.size + 1 + 1 + 1]? = some (.cells #[.string ⟨#[]⟩] 70 (0, 0))) := Lib.hid fun w1 hb hv => by
    have := asMiss (T := 70) (.inr (.inl rfl)) (.leaf .form) (w.heap.size + 1 + 1 + 1) w1 (HG.out.below hb) hv.t1 (by decide)
    rw [show pT 70 = 75 from rfl] at this
    exact this
  have C2 : Hid (∀ w1, Below w.heap.size w w1 → VB w1 w.heap.size ⟨#[]⟩ ⟨#[]⟩ ⟨#[]⟩ ⟨#[]⟩ → Calls Tryd.prog 35 #[.iface 80 (.agg #[.int .i64 1]), .iface 76 (.pointer (some ⟨w.heap.size + 1 + 1 + 1 + 1, 0, none⟩))] w1 fun en w' => en = .returned (.bool false) ∧ Rw.Within (w.heap.size + 1 + 1 + 1 + 1) (w.heap.size + 1 + 1 + 1 + 1 + 1) w1 w' ∧ w'.heap[w.heap.size + 1 + 1 + 1 + 1]? = some (.cells #[.string ⟨#[]⟩] 71 (0, 0))) := Lib.hid fun w1 hb hv => by
    have := asMiss (T := 71) (.inr (.inr (.inl rfl))) (.leaf .form) (w.heap.size + 1 + 1 + 1 + 1) w1 (HG.out.below hb) hv.t2 (by decide)
    rw [show pT 71 = 76 from rfl] at this
    exact this
  have C3 : Hid (∀ w1, Below w.heap.size w w1 → VB w1 w.heap.size ⟨#[]⟩ ⟨#[]⟩ ⟨#[]⟩ ⟨#[]⟩ → Calls Tryd.prog 35 #[.iface 80 (.agg #[.int .i64 1]), .iface 77 (.pointer (some ⟨w.heap.size + 1 + 1 + 1 + 1 + 1, 0, none⟩))] w1 fun en w' => en = .returned (.bool false) ∧ Rw.Within (w.heap.size + 1 + 1 + 1 + 1 + 1) (w.heap.size + 1 + 1 + 1 + 1 + 1 + 1) w1 w' ∧ w'.heap[w.heap.size + 1 + 1 + 1 + 1 + 1]? = some (.cells #[.string ⟨#[]⟩] 72 (0, 0))) := Lib.hid fun w1 hb hv => by
    have := asMiss (T := 72) (.inr (.inr (.inr rfl))) (.leaf .form) (w.heap.size + 1 + 1 + 1 + 1 + 1) w1 (HG.out.below hb) hv.t3 (by decide)
    rw [show pT 72 = 77 from rfl] at this
    exact this
  clear hg
  go_enter Tryd.func18, Tryd.ntmps18
  go_wp2_with fail
  rw [W6.form]
  generalize W6 w = w0 at *
  refine (C0.out _ HB0.out HV0.out).mono ?_
  rintro en w1 ⟨rfl, hw, ht⟩
  have HV1 : Hid (VB w1 w.heap.size ⟨#[]⟩ ⟨#[]⟩ ⟨#[]⟩ ⟨#[]⟩) := Lib.hid (HV0.out.step (w.heap.size + 1 + 1) hw (by omega) ⟨fun _ => ht, fun h => absurd rfl h⟩ ⟨fun h => absurd h (by omega), fun _ => rfl⟩ ⟨fun h => absurd h (by omega), fun _ => rfl⟩ ⟨fun h => absurd h (by omega), fun _ => rfl⟩)
  have HB1 := Lib.hid (HB0.out.trans (hw.below (by omega) (HB0.out.size)))
  clear hw ht
  go_wp2_with fail
  refine (C1.out _ HB1.out HV1.out).mono ?_
  rintro en w2 ⟨rfl, hw, ht⟩
  have HV2 : Hid (VB w2 w.heap.size ⟨#[]⟩ ⟨#[]⟩ ⟨#[]⟩ ⟨#[]⟩) := Lib.hid (HV1.out.step (w.heap.size + 1 + 1 + 1) hw (by omega) ⟨fun h => absurd h (by omega), fun _ => rfl⟩ ⟨fun _ => ht, fun h => absurd rfl h⟩ ⟨fun h => absurd h (by omega), fun _ => rfl⟩ ⟨fun h => absurd h (by omega), fun _ => rfl⟩)
  have HB2 := Lib.hid (HB1.out.trans (hw.below (by omega) (HB1.out.size)))
  clear hw ht
  go_wp2_with fail
  refine (C2.out _ HB2.out HV2.out).mono ?_
  rintro en w3 ⟨rfl, hw, ht⟩
  have HV3 : Hid (VB w3 w.heap.size ⟨#[]⟩ ⟨#[]⟩ ⟨#[]⟩ ⟨#[]⟩) := Lib.hid (HV2.out.step (w.heap.size + 1 + 1 + 1 + 1) hw (by omega) ⟨fun h => absurd h (by omega), fun _ => rfl⟩ ⟨fun h => absurd h (by omega), fun _ => rfl⟩ ⟨fun _ => ht, fun h => absurd rfl h⟩ ⟨fun h => absurd h (by omega), fun _ => rfl⟩)
  have HB3 := Lib.hid (HB2.out.trans (hw.below (by omega) (HB2.out.size)))
  clear hw ht
  go_wp2_with fail
  refine (C3.out _ HB3.out HV3.out).mono ?_
  rintro en w4 ⟨rfl, hw, ht⟩
  have HV4 : Hid (VB w4 w.heap.size ⟨#[]⟩ ⟨#[]⟩ ⟨#[]⟩ ⟨#[]⟩) := Lib.hid (HV3.out.step (w.heap.size + 1 + 1 + 1 + 1 + 1) hw (by omega) ⟨fun h => absurd h (by omega), fun _ => rfl⟩ ⟨fun h => absurd h (by omega), fun _ => rfl⟩ ⟨fun h => absurd h (by omega), fun _ => rfl⟩ ⟨fun _ => ht, fun h => absurd rfl h⟩)
  have HB4 := Lib.hid (HB3.out.trans (hw.below (by omega) (HB3.out.size)))
  clear hw ht
  go_wp2_with fail
  refine (isForm _).mono ?_
  rintro en w5 ⟨rfl, rfl⟩
  have ⟨⟨o0, o1⟩, p0, p1⟩ := keep2 HV4.out.o
  have HS := Lib.hid (set2_block HV4.out.o (.string ⟨#[]⟩) (.int .i64 1))
  have HRS := Lib.hid ((set2_other w4 (w.heap.size + 1) (.string ⟨#[]⟩) (.int .i64 1) w.heap.size (by omega)).trans HV4.out.r)
  have HBS := Lib.hid ((HB4.out.setCell (p := ⟨w.heap.size + 1, 0, none⟩) (Nat.le_succ _) (.string ⟨#[]⟩)).setCell (p := ⟨w.heap.size + 1, 1, none⟩) (Nat.le_succ _) (.int .i64 1))
  go_wp2_with fail
  refine (CL.out _).mono ?_
  rintro en w9 ⟨rfl, hb9⟩
  have h9 := (hb9.block (w.heap.size + 1) (Rw.lt_of_get HS.out)).trans HS.out
  have hr9 := (hb9.block w.heap.size (Rw.lt_of_get HRS.out)).trans HRS.out
  have HB9 := Lib.hid (HBS.out.trans (hb9.mono HBS.out.size))
  have HR9 : Hid ((w9.setCell ⟨w.heap.size + 1, 0, none⟩ (.string ⟨#[]⟩)).heap[w.heap.size]? = _) := Lib.hid ((Go.Deep.blk_setCell_other _ ⟨w.heap.size + 1, 0, none⟩ _ _ (by omega : w.heap.size ≠ w.heap.size + 1)).trans hr9)
  have HB10 := Lib.hid (HB9.out.setCell (p := ⟨w.heap.size + 1, 0, none⟩) (Nat.le_succ _) (.string ⟨#[]⟩))
  clear o0 o1 p0 p1 hb9
  have ⟨⟨o0, o1⟩, p0, p1⟩ := keep2 h9
  have ⟨⟨r0, r1⟩, s0, s1⟩ := keep2 hr9
  clear h9 hr9
  go_wp2_with fail
  change bodyPost _ _ _ _ _ (Rw.putL (w9.setCell ⟨w.heap.size + 1, 0, none⟩ (.string ⟨#[]⟩)) w.heap.size 0 [.string ⟨#[]⟩, .int .i64 1])
  obtain ⟨hr, _, _⟩ := Rw.putL_cells (g := w.heap.size) (o := 0) (l := [.string ⟨#[]⟩, .int .i64 1]) HR9.out (by simp)
  have HBF := Rw.putL_below (g := w.heap.size) (B := w.heap.size) (Nat.le_refl _) [.string ⟨#[]⟩, .int .i64 1] 0 HB10.out
  generalize Rw.putL (w9.setCell ⟨w.heap.size + 1, 0, none⟩ (.string ⟨#[]⟩)) w.heap.size 0 [.string ⟨#[]⟩, .int .i64 1] = wz at *
  have ⟨x0, x1⟩ := row2z hr
  exact bodyPost_ret (v := .agg #[.string ⟨#[]⟩, .int .i64 1]) (by simp [results, Tryd.results18, go_sem, x0, x1]) rfl ⟨rfl, HBF⟩
end Go.Proofs.YthdncjdopejkkaaDoor.ErrW
