/-
  Contract: the program's reader of one Frag; of what was there its own place alone is changed. Conditions: as the theorem says.
-/
import Derived.Test.YtnkknfnndoegpaaGreatDoorRows
import Derived.Test.YtnkknfnndoegpaaGreatDoorBlockOk
namespace Go.Proofs.YtnkknfnndoegpaaGreatDoor.Selss
open Go.RowKit Words Decs Splits
set_option linter.unusedVariables false
set_option maxRecDepth 100000

def FragRes (w w' : World) (p : Nat) (a : Option Addr) (cap : Nat) (W : List Tok) (k : Nat) (e : Ending) : Prop :=
  ∃ nm on a' cap' s err k', e = .returned (.tuple #[.agg #[.string nm, .string on, .slice a' s.len cap'], err]) ∧ OnlyP p w w' ∧ k ≤ k' ∧ k' ≤ W.length ∧ RdI w' p a cap W k' ∧
    ((err = .nilIface ∧ SelsX w' w.heap.size w'.heap.size a' s.len s ∧ (OkS nm ∧ OkS on) ∧ ReadsFrag ⟨nm, on, s⟩ (W.drop k) (W.drop k') ∧ k < k') ∨
     (err = (.iface 60 (.agg #[.int .i64 3])) ∧ ¬ ∃ x W1, ReadsFrag x (W.drop k) W1))
def set3 (w : World) (g : Nat) (v0 v1 v2 : Value) : World := ((w.setCell ⟨g, 0, none⟩ v0).setCell ⟨g, 1, none⟩ v1).setCell ⟨g, 2, none⟩ v2
theorem set3_block {w : World} {g : Nat} {x0 x1 x2 : Value} {T : TypeId} (h : w.heap[g]? = some (.cells #[x0, x1, x2] T (0, 0))) (v0 v1 v2 : Value) :
    (set3 w g v0 v1 v2).heap[g]? = some (.cells #[v0, v1, v2] T (0, 0)) :=
  heap_setCell_same _ g 2 _ _ _ (heap_setCell_same _ g 1 _ _ _ (heap_setCell_same _ g 0 _ _ _ h))
theorem set3_below {B g : Nat} {a w : World} (h : Below B a w) (hg : B ≤ g) (v0 v1 v2 : Value) : Below B a (set3 w g v0 v1 v2) :=
  ((h.setCell (p := ⟨g, 0, none⟩) hg v0).setCell (p := ⟨g, 1, none⟩) hg v1).setCell (p := ⟨g, 2, none⟩) hg v2
theorem set3_size (w : World) (g : Nat) (v0 v1 v2 : Value) : (set3 w g v0 v1 v2).heap.size = w.heap.size := by simp [set3]
theorem Rd.set3 {T : TypeId} {w : World} {p cap k g : Nat} {a : Option Addr} {W : List Tok} (h : Rd T w p a cap W k) (hg : p < g) (v0 v1 v2 : Value) : Rd T (set3 w g v0 v1 v2) p a cap W k :=
  h.below (B := p + 1) (Nat.lt_succ_self _) (set3_below (Below.refl _ _) hg v0 v1 v2)
theorem OnlyP.set3 {p g : Nat} {w w' : World} (h : OnlyP p w w') (hg : w.heap.size ≤ g) (v0 v1 v2 : Value) : OnlyP p w (set3 w' g v0 v1 v2) :=
  h.below (Nat.le_refl _) (set3_below (Below.refl _ _) hg v0 v1 v2)
theorem SelsX.set3 {w : World} {A B len g : Nat} {a : Option Addr} {s : Sels} (h : SelsX w A B a len s) (hg : g < A) (v0 v1 v2 : Value) : SelsX (set3 w g v0 v1 v2) A B a len s :=
  h.block fun c c1 _ => by
    unfold Selss.set3
    repeat rw [Go.Deep.blk_setCell_other _ ⟨g, _, none⟩ _ c (by show c ≠ g; omega)]
theorem bl_fragment : bl ⟨#[102, 114, 97, 103, 109, 101, 110, 116]⟩ = [102, 114, 97, 103, 109, 101, 110, 116] := rfl

set_option maxHeartbeats 4000000 in
theorem fragOk (w : World) (p cap k : Nat) (a : Option Addr) (W : List Tok) (hR : RdI w p a cap W k) (hk : k ≤ W.length) (hv : Vars p w) :
    Calls Tryz.prog 43 #[.pointer (some ⟨p, 0, none⟩)] w fun e w' => FragRes w w' p a cap W k e := by
  have hplt := hR.lt
  have HWL := Lib.hid (fun k => word_len hR.sizes k)
  have HV := Lib.hid hv
  have HA : Hid (∀ o, Below w.heap.size w (w.alloc o)) := Lib.hid fun o => (Below.refl _ _).alloc (Nat.le_refl _) o
  have HR0 : Hid (∀ o, RdI (w.alloc o) p a cap W k) := Lib.hid fun o => hR.below hplt (HA.out o)
  clear hv hR
  go_enter Tryz.func43, Tryz.ntmps43
  go_wp2_with fail
  refine (rpTook _ p cap k a W ⟨#[102, 114, 97, 103, 109, 101, 110, 116]⟩ (ne_empty (by decide)) (by decide) (HR0.out _) hk).mono ?_
  rintro e w1 ⟨b, rfl, ho, ht, hf⟩
  have hr := (ho.block w.heap.size (by simp) (by omega)).trans (heap_alloc_new w _)
  have OF := Lib.hid (((OnlyP.refl p w).below (Nat.le_refl _) (HA.out _)).trans ho)
  have hz1 := OF.out.size
  clear ho
  have ⟨⟨e0, e1, e2⟩, p0, p1, p2⟩ := keep3 hr
  cases b
  · obtain ⟨hne, hR1⟩ := hf rfl
    have HN := Lib.hid hne
    have HR1 := Lib.hid hR1
    clear hf ht hne hR1
    have RF := HR1
    have HFX := Lib.hid (set3_block hr (.string ⟨#[]⟩) (.string ⟨#[]⟩) (.slice none 0 0))
    have HOF := Lib.hid (OF.out.set3 (g := w.heap.size) (Nat.le_refl _) (.string ⟨#[]⟩) (.string ⟨#[]⟩) (.slice none 0 0))
    have HRF := Lib.hid (Rd.set3 RF.out (g := w.heap.size) hplt (.string ⟨#[]⟩) (.string ⟨#[]⟩) (.slice none 0 0))
    clear hr
    go_wp2_with fail
    change bodyPost _ _ _ _ _ (set3 w1 w.heap.size (.string ⟨#[]⟩) (.string ⟨#[]⟩) (.slice none 0 0))
    generalize set3 w1 w.heap.size (.string ⟨#[]⟩) (.string ⟨#[]⟩) (.slice none 0 0) = WF at *
    have ⟨⟨f0, f1, f2⟩, _⟩ := keep3 HFX.out
    exact bodyPost_ret (v := .tuple #[.agg #[.string ⟨#[]⟩, .string ⟨#[]⟩, .slice none 0 0], .iface 60 (.agg #[.int .i64 3])]) (by simp [results, Tryz.results43, go_sem, f0, f1, f2]) rfl ⟨_, _, _, _, Sels.nil, _, k, rfl, HOF.out, Nat.le_refl _, hk, HRF.out, .inr ⟨rfl, fun ⟨x, W1, h⟩ => HN.out h.1⟩⟩
  obtain ⟨hw, k1, hk1, hk2, hd, hR1⟩ := ht rfl
  have HW := Lib.hid hw
  have HD := Lib.hid hd
  have HR1 := Lib.hid hR1
  clear hf ht hw hd hR1
  go_wp2_with fail
  refine (rpNext w1 p cap k1 a W HR1.out hk2).mono ?_
  rintro e w2 ⟨rfl, ⟨k2, h1, h2, h3, h4, h5⟩, ho⟩
  replace hr := (ho.block w.heap.size (lt_of_get hr) (by omega)).trans hr
  replace OF := Lib.hid (OF.out.trans ho)
  have HD2 := Lib.hid h4
  have HR2 := Lib.hid h5
  obtain ⟨nm, hnm⟩ : ∃ nm, ub (word (W.drop k1)) = nm := ⟨_, rfl⟩
  have HOKN : Hid (OkS nm) := Lib.hid (by rw [← hnm]; exact okS_ub (HWL.out k1))
  rw [hnm]
  have HNM := Lib.hid hnm
  clear h3 h4 h5 ho hnm e0 e1 e2 p0 p1 p2
  go_wp2_with fail
  refine (rpTook w2 p cap k2 a W ⟨#[111, 110]⟩ (ne_empty (by decide)) (by decide) HR2.out h2).mono ?_
  rintro e w3 ⟨b, rfl, ho, ht, hf⟩
  replace hr := (ho.block w.heap.size (lt_of_get hr) (by omega)).trans hr
  replace OF := Lib.hid (OF.out.trans ho)
  have hz3 := OF.out.size
  clear ho
  have ⟨⟨e0, e1, e2⟩, p0, p1, p2⟩ := keep3 hr
  cases b
  · obtain ⟨hne, hR1⟩ := hf rfl
    have HN := Lib.hid hne
    have RF := Lib.hid hR1
    clear hf ht hne hR1
    have HFX := Lib.hid (set3_block hr (.string ⟨#[]⟩) (.string ⟨#[]⟩) (.slice none 0 0))
    have HOF := Lib.hid (OF.out.set3 (g := w.heap.size) (Nat.le_refl _) (.string ⟨#[]⟩) (.string ⟨#[]⟩) (.slice none 0 0))
    have HRF := Lib.hid (Rd.set3 RF.out (g := w.heap.size) hplt (.string ⟨#[]⟩) (.string ⟨#[]⟩) (.slice none 0 0))
    clear hr
    go_wp2_with fail
    change bodyPost _ _ _ _ _ (set3 w3 w.heap.size (.string ⟨#[]⟩) (.string ⟨#[]⟩) (.slice none 0 0))
    generalize set3 w3 w.heap.size (.string ⟨#[]⟩) (.string ⟨#[]⟩) (.slice none 0 0) = WF at *
    have ⟨⟨f0, f1, f2⟩, _⟩ := keep3 HFX.out
    exact bodyPost_ret (v := .tuple #[.agg #[.string ⟨#[]⟩, .string ⟨#[]⟩, .slice none 0 0], .iface 60 (.agg #[.int .i64 3])]) (by simp [results, Tryz.results43, go_sem, f0, f1, f2]) rfl ⟨_, _, _, _, Sels.nil, _, k2, rfl, HOF.out, by omega, by omega, HRF.out, .inr ⟨rfl, fun ⟨x, W1, h⟩ => HN.out (by rw [HD2.out, HD.out]; exact h.2.2.1)⟩⟩
  obtain ⟨hw, k3, hk3, hk4, hd, hR1⟩ := ht rfl
  have HW3 := Lib.hid hw
  have HD3 := Lib.hid hd
  have HR3 := Lib.hid hR1
  clear hf ht hw hd hR1
  go_wp2_with fail
  refine (rpNext w3 p cap k3 a W HR3.out hk4).mono ?_
  rintro e w4 ⟨rfl, ⟨k4, h6, h7, h8, h9, h10⟩, ho⟩
  replace hr := (ho.block w.heap.size (lt_of_get hr) (by omega)).trans hr
  replace OF := Lib.hid (OF.out.trans ho)
  have HR4 := Lib.hid h10
  obtain ⟨on, hon⟩ : ∃ on, ub (word (W.drop k3)) = on := ⟨_, rfl⟩
  have HOK : Hid (OkS nm ∧ OkS on) := Lib.hid ⟨HOKN.out, by rw [← hon]; exact okS_ub (HWL.out k3)⟩
  rw [hon]
  have HON := Lib.hid hon
  have HDD : Hid (W.drop k4 = ((((W.drop k).drop 1).drop 1).drop 1).drop 1) := Lib.hid (by rw [h9, HD3.out, HD2.out, HD.out])
  have hz4 := lt_of_get hr
  clear h8 h9 h10 ho hon e0 e1 e2 p0 p1 p2
  go_wp2_with fail
  refine (blockOk (W.length - k4 + 1) w4 p cap k4 a W (by omega) HR4.out h7 (OF.out.vars hplt HV.out)).mono ?_
  rintro e w5 ⟨v, err, k5, rfl, ho5, g1, g2, hR5, hcase⟩
  replace hr := (ho5.block w.heap.size (lt_of_get hr) (by omega)).trans hr
  replace OF := Lib.hid (OF.out.trans ho5)
  have RF := Lib.hid hR5
  have ⟨⟨e0, e1, e2⟩, p0, p1, p2⟩ := keep3 hr
  clear ho5 hR5
  rcases hcase with ⟨rfl, s, a', cap', rfl, hsx, hwd, hreads, hlt⟩ | ⟨rfl, rfl, hno⟩
  · have HX := Lib.hid hsx
    have HRd := Lib.hid (And.intro hwd hreads)
    clear hsx hwd hreads
    have HFX := Lib.hid (set3_block hr (.string nm) (.string on) (.slice a' s.len cap'))
    have HOF := Lib.hid (OF.out.set3 (g := w.heap.size) (Nat.le_refl _) (.string nm) (.string on) (.slice a' s.len cap'))
    have HRF := Lib.hid (Rd.set3 RF.out (g := w.heap.size) hplt (.string nm) (.string on) (.slice a' s.len cap'))
    have HSF : Hid (SelsX (set3 w5 w.heap.size (.string nm) (.string on) (.slice a' s.len cap')) w.heap.size (set3 w5 w.heap.size (.string nm) (.string on) (.slice a' s.len cap')).heap.size a' s.len s) := Lib.hid (((SelsX.set3 HX.out (g := w.heap.size) (by omega) (.string nm) (.string on) (.slice a' s.len cap')).wide (by omega) (by rw [set3_size]; exact Nat.le_refl _)))
    clear hr
    go_wp2_with fail
    change bodyPost _ _ _ _ _ (set3 w5 w.heap.size (.string nm) (.string on) (.slice a' s.len cap'))
    generalize set3 w5 w.heap.size (.string nm) (.string on) (.slice a' s.len cap') = WF at *
    have ⟨⟨f0, f1, f2⟩, _⟩ := keep3 HFX.out
    exact bodyPost_ret (v := .tuple #[.agg #[.string nm, .string on, .slice a' s.len cap'], .nilIface]) (by simp [results, Tryz.results43, go_sem, f0, f1, f2]) rfl ⟨_, _, _, _, s, _, k5, rfl, HOF.out, by omega, by omega, HRF.out, .inl ⟨rfl, HSF.out, HOK.out, ⟨HW.out, by rw [← HD.out]; exact HNM.out.symm, by rw [← HD.out, ← HD2.out]; exact HW3.out, by rw [← HD.out, ← HD2.out, ← HD3.out]; exact HON.out.symm, by rw [← HDD.out]; exact HRd.out.1, by rw [← HDD.out]; exact HRd.out.2⟩, by omega⟩⟩
  · have HN := Lib.hid hno
    clear hno
    have HFX := Lib.hid (set3_block hr (.string nm) (.string on) (.slice none 0 0))
    have HOF := Lib.hid (OF.out.set3 (g := w.heap.size) (Nat.le_refl _) (.string nm) (.string on) (.slice none 0 0))
    have HRF := Lib.hid (Rd.set3 RF.out (g := w.heap.size) hplt (.string nm) (.string on) (.slice none 0 0))
    clear hr
    go_wp2_with fail
    change bodyPost _ _ _ _ _ (set3 w5 w.heap.size (.string nm) (.string on) (.slice none 0 0))
    generalize set3 w5 w.heap.size (.string nm) (.string on) (.slice none 0 0) = WF at *
    have ⟨⟨f0, f1, f2⟩, _⟩ := keep3 HFX.out
    exact bodyPost_ret (v := .tuple #[.agg #[.string nm, .string on, .slice none 0 0], .iface 60 (.agg #[.int .i64 3])]) (by simp [results, Tryz.results43, go_sem, f0, f1, f2]) rfl ⟨_, _, _, _, Sels.nil, _, k5, rfl, HOF.out, by omega, by omega, HRF.out, .inr ⟨rfl, fun ⟨x, W1, h⟩ => HN.out ⟨x.sels, W1, by rw [HDD.out]; exact h.2.2.2.2.1, by rw [HDD.out]; exact h.2.2.2.2.2⟩⟩⟩
end Go.Proofs.YtnkknfnndoegpaaGreatDoor.Selss
