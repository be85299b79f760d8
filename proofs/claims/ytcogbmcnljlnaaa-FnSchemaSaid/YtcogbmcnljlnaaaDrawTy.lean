/-
  Contracts: DrawTypeOf, DrawFieldOf, DrawMembersOf draw a schema and names; of what was there nothing is changed. Conditions: bytes in memory.
-/
import Derived.Test.YtcogbmcnljlnaaaRows
import Derived.Test.YtcogbmcnljlnaaaDrawMut
namespace Go.Proofs.Ytcogbmcnljlnaaa.Draws
open Go.RowKit Texts Bytes Rw Words
set_option linter.unusedVariables false
set_option maxRecDepth 100000

theorem few {l : List ByteArray} {k : Nat} (h : (l.all fun m => decide (m.size ≤ k)) = true) {r : ByteArray} (hr : r ∈ l) : r.size ≤ k := by
  simp only [List.all_eq_true, decide_eq_true_eq] at h
  exact h r hr
/-- A schema that was drawn, put into a cell of the call's own. -/
theorem put_schema {w W : World} {B0 ca n : Nat} {sa : Option Addr} {s : List TypeP} (hB : w.heap.size < B0) (hx : TypesX W B0 W.heap.size sa n s) (hn : s.length = n) (hc : n ≤ ca) (hk : W.heap[w.heap.size]? = some (.cells #[.slice none 0 0] 25 (0, 0))) (hb : Below w.heap.size w W) :
    (W.setCell ⟨w.heap.size, 0, none⟩ (.slice sa n ca)).heap[w.heap.size]? = some (.cells #[.slice sa n ca] 25 (0, 0)) ∧
    SchemaAt (W.setCell ⟨w.heap.size, 0, none⟩ (.slice sa n ca)) w.heap.size (W.setCell ⟨w.heap.size, 0, none⟩ (.slice sa n ca)).heap.size (.agg #[.slice sa n ca]) s ∧ Below w.heap.size w (W.setCell ⟨w.heap.size, 0, none⟩ (.slice sa n ca)) := by
  refine ⟨heap_setCell_same W w.heap.size 0 _ _ _ hk, ?_, hb.setCell (Nat.le_refl _) _⟩
  have h1 : SchemaX (W.setCell ⟨w.heap.size, 0, none⟩ (.slice sa n ca)) w.heap.size (W.setCell ⟨w.heap.size, 0, none⟩ (.slice sa n ca)).heap.size (.agg #[.slice sa n ca]) s := ⟨sa, ca, by rw [hn], by
    rw [hn]
    exact (hx.block typeLiesX fun c c1 _ => Go.Deep.blk_setCell_other _ ⟨w.heap.size, 0, none⟩ _ _ (by show c ≠ w.heap.size; omega)).wide (by omega) (by simp), by rw [hn]; exact hc⟩
  exact h1.at_

set_option maxHeartbeats 4000000 in
theorem drawTypeOf (w : World) (len cap : Nat) (a : Option Addr) (h : BytesAt w w.heap.size a len) (hsm : len ≤ 140737488351232) :
    Calls Try.prog 7 #[.slice a len cap] w fun e w' => (∃ s v t, schWt s ≤ 10000 ∧ e = .returned (.tuple #[v, .string t]) ∧ SchemaAt w' w.heap.size w'.heap.size v s ∧ t.size ≤ 10) ∧ Below w.heap.size w w' := by
  have HB := Lib.hid h
  clear h
  go_enter Try.func7, Try.ntmps7
  go_wp2_with fail
  have e1 : (w.alloc (.cells #[.slice none 0 0] 25)).heap.size = w.heap.size + 1 := by simp
  have hb0 := (Below.refl w.heap.size w).alloc (Nat.le_refl _) (.cells #[.slice none 0 0] 25)
  refine (source _ len cap a ((HB.out.below hb0).mono (by simp)) hsm).mono ?_
  rintro e w1 ⟨rfl, hs1, hb1⟩
  rw [e1] at hs1 hb1 ⊢
  have HS1 := Lib.hid hs1
  have HL1 : Hid (w.heap.size + 1 < w1.heap.size) := Lib.hid hs1.lt
  have HB1 : Hid (Below w.heap.size w w1) := Lib.hid (hb0.trans (hb1.mono (by omega)))
  have HK1 : Hid (w1.heap[w.heap.size]? = some (.cells #[.slice none 0 0] 25 (0, 0))) := Lib.hid ((hb1.block _ (by omega)).trans (Go.Deep.blk_alloc_new _ _))
  clear hs1 hb1 hb0 e1
  go_wp2_with fail
  have HQ1 := Lib.hid ((Below.refl w1.heap.size w1).alloc (Nat.le_refl _) (.cells (([⟨#[81]⟩, ⟨#[83, 84, 82]⟩, ⟨#[85, 83, 69, 82]⟩, ⟨#[80, 79, 83, 84]⟩, ⟨#[65, 78, 89]⟩, ⟨#[78, 79]⟩] : List ByteArray).map Value.string).toArray 9))
  refine (src_pick _ (w.heap.size + 1) len cap a (HS1.out.below HL1.out HQ1.out) w1.heap.size [⟨#[81]⟩, ⟨#[83, 84, 82]⟩, ⟨#[85, 83, 69, 82]⟩, ⟨#[80, 79, 83, 84]⟩, ⟨#[65, 78, 89]⟩, ⟨#[78, 79]⟩] (Go.Deep.blk_alloc_new _ _) (by have := HL1.out; omega) (by simp) (by simp)).mono ?_
  rintro e w2 ⟨⟨t1, ht1, rfl⟩, hs1, ho1⟩
  have HT1 := Lib.hid (few (k := 10) (by decide) ht1)
  have HS2 := Lib.hid hs1
  have HL2 : Hid (w.heap.size + 1 < w2.heap.size) := Lib.hid hs1.lt
  have HB2 : Hid (Below w.heap.size w w2) := Lib.hid (HB1.out.trans ((HQ1.out.mono (Nat.le_refl _) |>.mono HB1.out.size).trans (ho1.below (by omega) (by simp; have := HB1.out.size; omega))))
  have HK2 : Hid (w2.heap[w.heap.size]? = some (.cells #[.slice none 0 0] 25 (0, 0))) := Lib.hid ((ho1.block w.heap.size (by simp; have := HL1.out; omega) (by omega)).trans ((HQ1.out.block w.heap.size (by have := HL1.out; omega)).trans HK1.out))
  clear hs1 ho1 ht1
  go_wp2_with fail
  refine (src_schema _ (w.heap.size + 1) len cap a HS2.out).mono ?_
  rintro e w3 ⟨⟨s, v, hwt, rfl, sa, ca, rfl, hx, hca⟩, hs, ho⟩
  have hK := (ho.block w.heap.size (by have := HL2.out; omega) (by omega)).trans HK2.out
  have ⟨k0, f0⟩ := keep1 hK
  have HP := Lib.hid (put_schema (w := w) (by have := HL2.out; omega) hx rfl hca hK (HB2.out.trans (ho.below (by omega) HB2.out.size)))
  have HWT := Lib.hid hwt
  clear hs ho hK hx hca hwt
  generalize s.length = n at *
  go_wp2_with fail
  obtain ⟨z0, zx, zb⟩ := HP.out
  generalize w3.setCell ⟨w.heap.size, 0, none⟩ (.slice sa n ca) = wf at *
  have ⟨x0, _⟩ := keep1 z0
  exact bodyPost_ret (v := .tuple #[.agg #[.slice sa n ca], .string t1]) (by simp [results, Try.results7, go_sem, x0]) rfl ⟨⟨s, _, t1, HWT.out, rfl, zx, HT1.out⟩, zb⟩

set_option maxHeartbeats 4000000 in
theorem drawFieldOf (w : World) (len cap : Nat) (a : Option Addr) (h : BytesAt w w.heap.size a len) (hsm : len ≤ 140737488351232) :
    Calls Try.prog 8 #[.slice a len cap] w fun e w' => (∃ s v f t, schWt s ≤ 10000 ∧ e = .returned (.tuple #[v, .string t, .string f]) ∧ SchemaAt w' w.heap.size w'.heap.size v s ∧ f.size ≤ 10 ∧ t.size ≤ 10) ∧ Below w.heap.size w w' := by
  have HB := Lib.hid h
  clear h
  go_enter Try.func8, Try.ntmps8
  go_wp2_with fail
  have e1 : (w.alloc (.cells #[.slice none 0 0] 25)).heap.size = w.heap.size + 1 := by simp
  have hb0 := (Below.refl w.heap.size w).alloc (Nat.le_refl _) (.cells #[.slice none 0 0] 25)
  refine (source _ len cap a ((HB.out.below hb0).mono (by simp)) hsm).mono ?_
  rintro e w1 ⟨rfl, hs1, hb1⟩
  rw [e1] at hs1 hb1 ⊢
  have HS1 := Lib.hid hs1
  have HL1 : Hid (w.heap.size + 1 < w1.heap.size) := Lib.hid hs1.lt
  have HB1 : Hid (Below w.heap.size w w1) := Lib.hid (hb0.trans (hb1.mono (by omega)))
  have HK1 : Hid (w1.heap[w.heap.size]? = some (.cells #[.slice none 0 0] 25 (0, 0))) := Lib.hid ((hb1.block _ (by omega)).trans (Go.Deep.blk_alloc_new _ _))
  clear hs1 hb1 hb0 e1
  go_wp2_with fail
  have HQ1 := Lib.hid ((Below.refl w1.heap.size w1).alloc (Nat.le_refl _) (.cells (([⟨#[105, 100]⟩, ⟨#[117, 115, 101, 114, 115]⟩, ⟨#[112, 111, 115, 116, 115]⟩, ⟨#[97, 110, 121]⟩, ⟨#[98, 121]⟩, ⟨#[122, 122]⟩] : List ByteArray).map Value.string).toArray 9))
  refine (src_pick _ (w.heap.size + 1) len cap a (HS1.out.below HL1.out HQ1.out) w1.heap.size [⟨#[105, 100]⟩, ⟨#[117, 115, 101, 114, 115]⟩, ⟨#[112, 111, 115, 116, 115]⟩, ⟨#[97, 110, 121]⟩, ⟨#[98, 121]⟩, ⟨#[122, 122]⟩] (Go.Deep.blk_alloc_new _ _) (by have := HL1.out; omega) (by simp) (by simp)).mono ?_
  rintro e w2 ⟨⟨t1, ht1, rfl⟩, hs1, ho1⟩
  have HT1 := Lib.hid (few (k := 10) (by decide) ht1)
  have HS2 := Lib.hid hs1
  have HL2 : Hid (w.heap.size + 1 < w2.heap.size) := Lib.hid hs1.lt
  have HB2 : Hid (Below w.heap.size w w2) := Lib.hid (HB1.out.trans ((HQ1.out.mono (Nat.le_refl _) |>.mono HB1.out.size).trans (ho1.below (by omega) (by simp; have := HB1.out.size; omega))))
  have HK2 : Hid (w2.heap[w.heap.size]? = some (.cells #[.slice none 0 0] 25 (0, 0))) := Lib.hid ((ho1.block w.heap.size (by simp; have := HL1.out; omega) (by omega)).trans ((HQ1.out.block w.heap.size (by have := HL1.out; omega)).trans HK1.out))
  clear hs1 ho1 ht1
  go_wp2_with fail
  have HQ2 := Lib.hid ((Below.refl w2.heap.size w2).alloc (Nat.le_refl _) (.cells (([⟨#[81]⟩, ⟨#[83, 84, 82]⟩, ⟨#[85, 83, 69, 82]⟩, ⟨#[80, 79, 83, 84]⟩, ⟨#[65, 78, 89]⟩] : List ByteArray).map Value.string).toArray 9))
  refine (src_pick _ (w.heap.size + 1) len cap a (HS2.out.below HL2.out HQ2.out) w2.heap.size [⟨#[81]⟩, ⟨#[83, 84, 82]⟩, ⟨#[85, 83, 69, 82]⟩, ⟨#[80, 79, 83, 84]⟩, ⟨#[65, 78, 89]⟩] (Go.Deep.blk_alloc_new _ _) (by have := HL2.out; omega) (by simp) (by simp)).mono ?_
  rintro e w3 ⟨⟨t2, ht2, rfl⟩, hs2, ho2⟩
  have HT2 := Lib.hid (few (k := 10) (by decide) ht2)
  have HS3 := Lib.hid hs2
  have HL3 : Hid (w.heap.size + 1 < w3.heap.size) := Lib.hid hs2.lt
  have HB3 : Hid (Below w.heap.size w w3) := Lib.hid (HB2.out.trans ((HQ2.out.mono (Nat.le_refl _) |>.mono HB2.out.size).trans (ho2.below (by omega) (by simp; have := HB2.out.size; omega))))
  have HK3 : Hid (w3.heap[w.heap.size]? = some (.cells #[.slice none 0 0] 25 (0, 0))) := Lib.hid ((ho2.block w.heap.size (by simp; have := HL2.out; omega) (by omega)).trans ((HQ2.out.block w.heap.size (by have := HL2.out; omega)).trans HK2.out))
  clear hs2 ho2 ht2
  go_wp2_with fail
  refine (src_schema _ (w.heap.size + 1) len cap a HS3.out).mono ?_
  rintro e w4 ⟨⟨s, v, hwt, rfl, sa, ca, rfl, hx, hca⟩, hs, ho⟩
  have hK := (ho.block w.heap.size (by have := HL3.out; omega) (by omega)).trans HK3.out
  have ⟨k0, f0⟩ := keep1 hK
  have HP := Lib.hid (put_schema (w := w) (by have := HL3.out; omega) hx rfl hca hK (HB3.out.trans (ho.below (by omega) HB3.out.size)))
  have HWT := Lib.hid hwt
  clear hs ho hK hx hca hwt
  generalize s.length = n at *
  go_wp2_with fail
  obtain ⟨z0, zx, zb⟩ := HP.out
  generalize w4.setCell ⟨w.heap.size, 0, none⟩ (.slice sa n ca) = wf at *
  have ⟨x0, _⟩ := keep1 z0
  exact bodyPost_ret (v := .tuple #[.agg #[.slice sa n ca], .string t2, .string t1]) (by simp [results, Try.results8, go_sem, x0]) rfl ⟨⟨s, _, t1, t2, HWT.out, rfl, zx, HT1.out, HT2.out⟩, zb⟩

set_option maxHeartbeats 4000000 in
theorem drawMembersOf (w : World) (len cap : Nat) (a : Option Addr) (h : BytesAt w w.heap.size a len) (hsm : len ≤ 140737488351232) :
    Calls Try.prog 9 #[.slice a len cap] w fun e w' => (∃ s v t, schWt s ≤ 10000 ∧ e = .returned (.tuple #[v, .string t]) ∧ SchemaAt w' w.heap.size w'.heap.size v s ∧ t.size ≤ 10) ∧ Below w.heap.size w w' := by
  have HB := Lib.hid h
  clear h
  go_enter Try.func9, Try.ntmps9
  go_wp2_with fail
  have e1 : (w.alloc (.cells #[.slice none 0 0] 25)).heap.size = w.heap.size + 1 := by simp
  have hb0 := (Below.refl w.heap.size w).alloc (Nat.le_refl _) (.cells #[.slice none 0 0] 25)
  refine (drawTypeOf _ len cap a ((HB.out.below hb0).mono (by simp)) hsm).mono ?_
  rintro e w1 ⟨⟨s, v, t, hwt, rfl, ⟨sa, ca, rfl, hx, hca⟩, ht⟩, hb1⟩
  rw [e1] at hx hb1
  have hK := (hb1.block w.heap.size (by omega)).trans (Go.Deep.blk_alloc_new w (.cells #[.slice none 0 0] 25))
  have ⟨k0, f0⟩ := keep1 hK
  have HK := Lib.hid hK
  have HX := Lib.hid hx
  have HC := Lib.hid hca
  have HB1 : Hid (Below w.heap.size w w1) := Lib.hid (hb0.trans (hb1.mono (by omega)))
  have HWT := Lib.hid hwt
  have HT := Lib.hid ht
  clear hb1 hK hx hca hwt hb0 e1 ht
  obtain ⟨n, hn⟩ : ∃ n, s.length = n := ⟨_, rfl⟩
  rw [hn] at HX HC ⊢
  have HN := Lib.hid hn
  clear hn
  go_wp2_with fail
  have z0 := heap_setCell_same w1 w.heap.size 0 _ _ (.slice sa n ca) HK.out
  have zb : Below w.heap.size w (w1.setCell ⟨w.heap.size, 0, none⟩ (.slice sa n ca)) := HB1.out.setCell (Nat.le_refl _) _
  have zx : SchemaAt (w1.setCell ⟨w.heap.size, 0, none⟩ (.slice sa n ca)) w.heap.size (w1.setCell ⟨w.heap.size, 0, none⟩ (.slice sa n ca)).heap.size (.agg #[.slice sa n ca]) s := ⟨sa, ca, by rw [HN.out], by
    rw [HN.out]
    exact (HX.out.block typeLies fun c c1 _ => Go.Deep.blk_setCell_other _ ⟨w.heap.size, 0, none⟩ _ _ (by show c ≠ w.heap.size; omega)).wide typeLies (by omega) (by simp), by rw [HN.out]; exact HC.out⟩
  generalize w1.setCell ⟨w.heap.size, 0, none⟩ (.slice sa n ca) = wf at *
  have ⟨x0, _⟩ := keep1 z0
  exact bodyPost_ret (v := .tuple #[.agg #[.slice sa n ca], .string t]) (by simp [results, Try.results9, go_sem, x0]) rfl ⟨⟨s, _, t, HWT.out, rfl, zx, HT.out⟩, zb⟩
end Go.Proofs.Ytcogbmcnljlnaaa.Draws
