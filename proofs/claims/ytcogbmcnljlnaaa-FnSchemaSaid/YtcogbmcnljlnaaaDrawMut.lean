/-
  Contract: l04Schema draws a schema; of what was there only the source is changed. Conditions: as the theorem says.
-/
import Derived.Test.YtcogbmcnljlnaaaRows
import Derived.Test.YtcogbmcnljlnaaaDrawMem
import Derived.Deep.RegionHeld3
import Derived.Deep.RegionLaw
import Derived.Deep.DeepMust
namespace Go.Proofs.Ytcogbmcnljlnaaa.Draws
open Go.RowKit Texts Bytes Rw Words
set_option linter.unusedVariables false
set_option maxRecDepth 100000

set_option maxHeartbeats 8000000 in
theorem src_schema (w : World) (p len cap : Nat) (a : Option Addr) (h : Src w p a len cap) :
    Calls Try.prog 30 #[.pointer (some ⟨p, 0, none⟩)] w fun e w' => (∃ s v, schWt s ≤ 10000 ∧ e = .returned v ∧ SchemaX w' w.heap.size w'.heap.size v s) ∧ Src w' p a len cap ∧ Only p w w' := by
  have hplt := h.lt
  have HS := Lib.hid h
  clear h
  go_enter Try.func30, Try.ntmps30
  go_wp2_with fail
  have e1 : (w.alloc (.cells #[.slice none 0 0] 25)).heap.size = w.heap.size + 1 := by simp
  have HA := Lib.hid ((Below.refl w.heap.size w).alloc (Nat.le_refl _) (.cells #[.slice none 0 0] 25))
  refine (src_schemaOf _ p len cap a (HS.out.below hplt HA.out)).mono ?_
  rintro e w1 ⟨⟨s, v, h3, rfl, ⟨sa, ca, rfl, hx, hca⟩, hm⟩, hs1, ho1⟩
  obtain ⟨hl5, hwt⟩ := three_wt h3
  rw [e1, hl5] at hx
  rw [hl5] at hca
  have hz1 : w.heap.size < w1.heap.size := by have := ho1.size; simp at this; omega
  have hr1 : w1.heap[w.heap.size]? = some (.cells #[.slice none 0 0] 25 (0, 0)) := (ho1.block _ (by simp) (by omega)).trans (Go.Deep.blk_alloc_new _ _)
  have HST : Hid (StS w (w1.alloc (.cells #[.slice sa 5 ca] 25)) p len cap a w1.heap.size w1.heap.size sa ca s) := Lib.hid (by
    have hb : Below w1.heap.size w1 (w1.alloc (.cells #[.slice sa 5 ca] 25)) := (Below.refl _ _).alloc (Nat.le_refl _) _
    have hp1 : p < w1.heap.size := hs1.lt
    exact ⟨hx.below typeLiesX (Nat.le_refl _) hb, hca, (hb.block _ hz1).trans hr1, Go.Deep.blk_alloc_new _ _, hs1.below hp1 hb, (((Only.refl p w).of_below (Nat.le_refl _) HA.out).trans ho1).of_below (by omega) hb, hplt, hb.size, hz1⟩)
  have HMO : Hid (MembersO (w1.alloc (.cells #[.slice sa 5 ca] 25)) (w.heap.size + 1) (.agg #[.slice sa 5 ca]) s) := Lib.hid (fun i x hi => by
    obtain ⟨gb, cap', c, cc, base, e1', e2, e3, e4, e5⟩ := hm i x hi
    rw [hl5] at e1'
    rw [e1] at e2 e3
    have hb : Below w1.heap.size w1 (w1.alloc (.cells #[.slice sa 5 ca] 25)) := (Below.refl _ _).alloc (Nat.le_refl _) _
    exact ⟨gb, cap', c, cc, base, by rw [hl5]; exact e1', e2, e3, (hb.cell (p := ⟨gb, i * 5 + 4, none⟩) (lt_of_cell e4)).trans e4, OwnTs.frame e5 fun q _ q2 => hb.block q q2⟩)
  have H3 := Lib.hid h3
  have HW := Lib.hid hwt
  have HP := Lib.hid (HST.out.place (Nat.le_refl _))
  have hE1 : (w1.alloc (.cells #[.slice sa 5 ca] 25)).heap.size = w1.heap.size + 1 := by simp
  have HE := Lib.hid hE1
  rw [hl5]
  clear hs1 ho1 hr1 hx hm h3 hwt hE1 hl5 e1 HS HA
  obtain ⟨b, off, rfl, hb1, hb2, hb3, hb4⟩ := HP.out
  clear HP
  go_wp2_with fail
  obtain ⟨g, hg⟩ : ∃ g, w1.heap.size = g := ⟨_, rfl⟩
  rw [hg] at HST hz1 hb1 hb2 ⊢
  clear hg
  refine (src_one _ p len cap a HST.out.src 6 (by omega)).mono ?_
  rintro e w2 ⟨⟨bv, rfl⟩, hs2, ho2⟩
  have HT2 := Lib.hid (HST.out.keep ho2 hs2)
  have HM2 := Lib.hid (HMO.out.keep ho2 (by omega))
  have ⟨kb, _⟩ := keep1 HT2.out.box
  have ⟨kr, fr⟩ := keep1 HT2.out.res
  clear hs2 ho2 HST HMO HE
  cases bv
  · have HWT := Lib.hid (show schWt s ≤ 10000 by have := HW.out; omega)
    go_wp2_with fail
    have ⟨z0, zx, zs, zo⟩ := HT2.out.fin
    generalize w2.setCell ⟨w.heap.size, 0, none⟩ (.slice (some ⟨b, off, none⟩) 5 ca) = wf at *
    have ⟨x0, _⟩ := keep1 z0
    exact bodyPost_ret (v := .agg #[.slice (some ⟨b, off, none⟩) 5 ca]) (by simp [results, Try.results30, go_sem, x0]) rfl ⟨⟨s, _, HWT.out, rfl, zx⟩, zs, zo⟩
  go_wp2_with fail
  refine (src_n _ p len cap a HT2.out.src 5 (by omega)).mono ?_
  rintro e w3 ⟨⟨r, rfl, hr0, hr1⟩, hs3, ho3⟩
  have HT3 := Lib.hid (HT2.out.keep ho3 hs3)
  have HM3 := Lib.hid (HM2.out.keep ho3 (by omega))
  obtain ⟨i, rfl⟩ := Int.eq_ofNat_of_zero_le hr0
  have hi5 : i < 5 := by omega
  clear hs3 ho3 HT2 HM2 kb kr fr hr0 hr1
  go_wp2_with fail
  refine (src_n _ p len cap a HT3.out.src 6 (by omega)).mono ?_
  rintro e w4 ⟨⟨q, rfl, hq0, hq1⟩, hs4, ho4⟩
  have HT4 := Lib.hid (HT3.out.keep ho4 hs4)
  have HM4 := Lib.hid (HM3.out.keep ho4 (by omega))
  have HTD := Lib.hid HT4.out.drew
  have ⟨kb, _⟩ := keep1 HT4.out.box
  have hi5i : (i : Int) < 5 := by omega
  clear hs4 ho4 HT3 HM3
  obtain ⟨x, hx, hxm⟩ := HT4.out.at hi5
  have HXI := Lib.hid hx
  have HXO := Lib.hid (three_ok H3.out x hxm)
  have HXW := Lib.hid (wt_mem HW.out hx)
  clear hx hxm
  rcases (show q = 0 ∨ q = 1 ∨ q = 2 ∨ q = 3 ∨ q = 4 ∨ q = 5 by omega) with rfl | rfl | rfl | rfl | rfl | rfl
  · have HSC : Hid (∀ (W : World) (r : Int), 0 ≤ r → (r < 5 ∨ r = 0) → StS w W p len cap a g g (some ⟨b, off, none⟩) ca s → (∃ u, W.cell? ⟨b, off + i * 5 + 1, none⟩ = some u) ∧ W.frozen? ⟨b, off + i * 5 + 1, none⟩ = false ∧ StS w (W.setCell ⟨b, off + i * 5 + 1, none⟩ (.int .i64 r)) p len cap a g g (some ⟨b, off, none⟩) ca (s.set i ⟨x.name, r, x.bytes, x.fields, x.members⟩)) :=
      Lib.hid fun W r h0 h1 h => h.scalar (Nat.le_refl _) HXI.out (k := 1) (y := ⟨x.name, r, x.bytes, x.fields, x.members⟩) (by omega) rfl rfl ⟨HXO.out.1.1, by unfold OkI; simp only; omega, HXO.out.1.2.2⟩ (fun _ _ _ _ => rfl)
    have HWS : Hid (∀ (r : Int), schWt (s.set i ⟨x.name, r, x.bytes, x.fields, x.members⟩) ≤ 10000) := Lib.hid fun r => wt_set HW.out (by have := HXW.out; unfold TypeP.wt at *; simp only; omega)
    go_wp2_with fail
    go_region_with (go_at_call 50; refine (src_n _ p len cap a HTD.out.src 5 (by omega)).mono ?_; rintro e w5 ⟨⟨r, rfl, hr0, hr1⟩, hs5, ho5⟩; have HT5 := Lib.hid (HTD.out.keep ho5 hs5); have HY := Lib.hid (HSC.out _ r hr0 hr1 HT5.out); have ⟨kb5, _⟩ := keep1 HT5.out.box; obtain ⟨u, hu⟩ := HY.out.1; have hfz := HY.out.2.1)
    all_goals
      have HT6 := Lib.hid HY.out.2.2
      have ⟨kb6, _⟩ := keep1 HT6.out.box
      have ⟨kr6, fr6⟩ := keep1 HT6.out.res
      have HWT := HWS.out r 
      clear hu hfz kb5 hs5 ho5 HWS HSC kb
      go_wp2_with fail
      have ⟨z0, zx, zs, zo⟩ := HT6.out.fin
      generalize (w5.setCell ⟨b, off + i * 5 + 1, none⟩ (.int .i64 r)).setCell ⟨w.heap.size, 0, none⟩ (.slice (some ⟨b, off, none⟩) 5 ca) = wf at *
      have ⟨x0, _⟩ := keep1 z0
      exact bodyPost_ret (v := .agg #[.slice (some ⟨b, off, none⟩) 5 ca]) (by simp [results, Try.results30, go_sem, x0]) rfl ⟨⟨_, _, HWT, rfl, zx⟩, zs, zo⟩
  · have HSC : Hid (∀ (W : World) (r : ByteArray), r ∈ ([⟨#[81]⟩, ⟨#[113]⟩, ⟨#[78, 69, 87]⟩] : List ByteArray) → StS w W p len cap a g g (some ⟨b, off, none⟩) ca s → (∃ u, W.cell? ⟨b, off + i * 5, none⟩ = some u) ∧ W.frozen? ⟨b, off + i * 5, none⟩ = false ∧ StS w (W.setCell ⟨b, off + i * 5, none⟩ (.string r)) p len cap a g g (some ⟨b, off, none⟩) ca (s.set i ⟨r, x.kind, x.bytes, x.fields, x.members⟩)) :=
      Lib.hid fun W r h0 h => h.scalar (Nat.le_refl _) HXI.out (k := 0) (y := ⟨r, x.kind, x.bytes, x.fields, x.members⟩) (by omega) rfl rfl ⟨by have := small3 h0; unfold OkS; simp only; omega, HXO.out.1.2.1, HXO.out.1.2.2⟩ (fun _ _ _ _ => rfl)
    have HWS : Hid (∀ (r : ByteArray), r ∈ ([⟨#[81]⟩, ⟨#[113]⟩, ⟨#[78, 69, 87]⟩] : List ByteArray) → schWt (s.set i ⟨r, x.kind, x.bytes, x.fields, x.members⟩) ≤ 10000) := Lib.hid fun r h0 => wt_set HW.out (by have h1 := small3 h0; have := HXW.out; unfold TypeP.wt at *; simp only; omega)
    have HTA := Lib.hid (HT4.out.alloc (.cells (([⟨#[81]⟩, ⟨#[113]⟩, ⟨#[78, 69, 87]⟩] : List ByteArray).map Value.string).toArray 9)).drew
    have HGA : Hid ((w4.alloc (.cells (([⟨#[81]⟩, ⟨#[113]⟩, ⟨#[78, 69, 87]⟩] : List ByteArray).map Value.string).toArray 9)).drew.heap[w4.heap.size]? = some (.cells (([⟨#[81]⟩, ⟨#[113]⟩, ⟨#[78, 69, 87]⟩] : List ByteArray).map Value.string).toArray 9 (0, 0))) := Lib.hid (Go.Deep.blk_alloc_new _ _)
    have hpw : w4.heap.size ≠ p := by have := HT4.out.only.size; omega
    have hgl : g < w4.heap.size := lt_of_get HT4.out.box
    go_wp2_with fail
    go_region_with (go_at_call 29; refine (src_pick _ p len cap a HTA.out.src w4.heap.size [⟨#[81]⟩, ⟨#[113]⟩, ⟨#[78, 69, 87]⟩] HGA.out hpw (by simp) (by simp)).mono ?_; rintro e w5 ⟨⟨r, hr, rfl⟩, hs5, ho5⟩; have HRR := Lib.hid hr; clear hr; have HT5 := Lib.hid (HTA.out.keep ho5 hs5); have HY := Lib.hid (HSC.out _ r HRR.out HT5.out); have ⟨kb5, _⟩ := keep1 HT5.out.box; obtain ⟨u, hu⟩ := HY.out.1; have hfz := HY.out.2.1)
    all_goals
      have HT6 := Lib.hid HY.out.2.2
      have ⟨kb6, _⟩ := keep1 HT6.out.box
      have ⟨kr6, fr6⟩ := keep1 HT6.out.res
      have HWT := HWS.out r HRR.out
      clear HTA HGA hpw hu hfz kb5 hs5 ho5 HWS HSC kb
      go_wp2_with fail
      have ⟨z0, zx, zs, zo⟩ := HT6.out.fin
      generalize (w5.setCell ⟨b, off + i * 5, none⟩ (.string r)).setCell ⟨w.heap.size, 0, none⟩ (.slice (some ⟨b, off, none⟩) 5 ca) = wf at *
      have ⟨x0, _⟩ := keep1 z0
      exact bodyPost_ret (v := .agg #[.slice (some ⟨b, off, none⟩) 5 ca]) (by simp [results, Try.results30, go_sem, x0]) rfl ⟨⟨_, _, HWT, rfl, zx⟩, zs, zo⟩
  · have HSC : Hid (∀ (W : World) (r : Int), -1 ≤ r → r ≤ 101 → StS w W p len cap a g g (some ⟨b, off, none⟩) ca s → (∃ u, W.cell? ⟨b, off + i * 5 + 2, none⟩ = some u) ∧ W.frozen? ⟨b, off + i * 5 + 2, none⟩ = false ∧ StS w (W.setCell ⟨b, off + i * 5 + 2, none⟩ (.int .i64 r)) p len cap a g g (some ⟨b, off, none⟩) ca (s.set i ⟨x.name, x.kind, r, x.fields, x.members⟩)) :=
      Lib.hid fun W r h0 h1 h => h.scalar (Nat.le_refl _) HXI.out (k := 2) (y := ⟨x.name, x.kind, r, x.fields, x.members⟩) (by omega) rfl rfl ⟨HXO.out.1.1, HXO.out.1.2.1, by unfold OkI; simp only; omega⟩ (fun _ _ _ _ => rfl)
    have HWS : Hid (∀ (r : Int), schWt (s.set i ⟨x.name, x.kind, r, x.fields, x.members⟩) ≤ 10000) := Lib.hid fun r => wt_set HW.out (by have := HXW.out; unfold TypeP.wt at *; simp only; omega)
    have HTA := Lib.hid (HT4.out.alloc (.cells #[.int .i64 (-1), .int .i64 0, .int .i64 100, .int .i64 101] 2)).drew
    have HGA : Hid ((w4.alloc (.cells #[.int .i64 (-1), .int .i64 0, .int .i64 100, .int .i64 101] 2)).drew.heap[w4.heap.size]? = some (.cells #[.int .i64 (-1), .int .i64 0, .int .i64 100, .int .i64 101] 2 (0, 0))) := Lib.hid (Go.Deep.blk_alloc_new _ _)
    have hpw : w4.heap.size ≠ p := by have := HT4.out.only.size; omega
    have hgl : g < w4.heap.size := lt_of_get HT4.out.box
    have CN : Hid (∀ W, StS w W p len cap a g g (some ⟨b, off, none⟩) ca s → Calls Try.prog 50 #[.pointer (some ⟨p, 0, none⟩), .int .i64 4] W fun e w' => ∃ m : Nat, e = .returned (.int .i64 m) ∧ Hid (m < 4 ∧ StS w w' p len cap a g g (some ⟨b, off, none⟩) ca s ∧ Only p W w')) := Lib.hid fun W h => (src_n W p len cap a h.src 4 (by omega)).mono fun e w' g => by
      obtain ⟨⟨r, rfl, hr0, hr1⟩, hs5, ho5⟩ := g
      obtain ⟨m, rfl⟩ := Int.eq_ofNat_of_zero_le hr0
      exact ⟨m, rfl, Lib.hid ⟨by omega, h.keep ho5 hs5, ho5⟩⟩
    go_wp2_with fail
    go_region_with (first
      | (go_at_call 50; with_reducible refine (CN.out _ HTA.out).mono ?_; rintro e w5 ⟨m, rfl, HP5⟩; have hm4 := HP5.out.1; have hm4i : (m : Int) < 4 := (by omega); have HT5 := Lib.hid HP5.out.2.1; obtain ⟨v, HV, hcell⟩ := four_at ((HP5.out.2.2.block w4.heap.size (by simp) hpw).trans HGA.out) hm4; have HY := Lib.hid (HSC.out _ v HV.out.1 HV.out.2 HT5.out); have ⟨kb5, _⟩ := keep1 HT5.out.box; obtain ⟨u, hu⟩ := HY.out.1; have hfz := HY.out.2.1)
      | (go_at_call 50; with_reducible refine (CN.out _ HTD.out).mono ?_; rintro e w5 ⟨m, rfl, HP5⟩; have hm4 := HP5.out.1; have hm4i : (m : Int) < 4 := (by omega); have HT5 := Lib.hid (HP5.out.2.1.alloc (.cells #[.int .i64 (-1), .int .i64 0, .int .i64 100, .int .i64 101] 2)); obtain ⟨v, HV, hcell⟩ := four_at (Go.Deep.blk_alloc_new w5 (.cells #[.int .i64 (-1), .int .i64 0, .int .i64 100, .int .i64 101] 2)) hm4; have HY := Lib.hid (HSC.out _ v HV.out.1 HV.out.2 HT5.out); have ⟨kb5, _⟩ := keep1 HP5.out.2.1.box; have hgl5 := lt_of_get HP5.out.2.1.box; obtain ⟨u, hu⟩ := HY.out.1; have hfz := HY.out.2.1))
    all_goals
      have HT6 := Lib.hid HY.out.2.2
      have ⟨kb6, _⟩ := keep1 HT6.out.box
      have ⟨kr6, fr6⟩ := keep1 HT6.out.res
      have HWT := HWS.out v 
      clear HTA HGA hpw hcell CN hu hfz kb5 HWS HSC kb
      go_wp2_with fail
      have ⟨z0, zx, zs, zo⟩ := HT6.out.fin
      first
        | (generalize (w5.setCell ⟨b, off + i * 5 + 2, none⟩ (.int .i64 v)).setCell ⟨w.heap.size, 0, none⟩ (.slice (some ⟨b, off, none⟩) 5 ca) = wf at *; have ⟨x0, _⟩ := keep1 z0; exact bodyPost_ret (v := .agg #[.slice (some ⟨b, off, none⟩) 5 ca]) (by simp [results, Try.results30, go_sem, x0]) rfl ⟨⟨_, _, HWT, rfl, zx⟩, zs, zo⟩)
        | (generalize ((w5.alloc (.cells #[.int .i64 (-1), .int .i64 0, .int .i64 100, .int .i64 101] 2)).setCell ⟨b, off + i * 5 + 2, none⟩ (.int .i64 v)).setCell ⟨w.heap.size, 0, none⟩ (.slice (some ⟨b, off, none⟩) 5 ca) = wf at *; have ⟨x0, _⟩ := keep1 z0; exact bodyPost_ret (v := .agg #[.slice (some ⟨b, off, none⟩) 5 ca]) (by simp [results, Try.results30, go_sem, x0]) rfl ⟨⟨_, _, HWT, rfl, zx⟩, zs, zo⟩)
  · obtain ⟨y, f0, f1, hy0, hf0, hf1⟩ := three_fields H3.out
    have hym := List.mem_of_getElem? hy0
    have HYW := wt_mem HW.out hy0
    have hfo := (three_ok H3.out y hym).2 f0 (List.mem_of_getElem? hf0)
    have hfl : 1 < y.fields.length := (List.getElem?_eq_some_iff.1 hf1).1
    obtain ⟨fb, fo, fc, hc3, hfc, hfb1, hfb2, hnx⟩ := HT4.out.field2 (Nat.le_refl _) hy0 hf0 (k := 5) (by omega) hfo
    have HSC : Hid (∀ (W : World) (r : Int), 0 ≤ r → (r < 3 ∨ r = 0) → StS w W p len cap a g g (some ⟨b, off, none⟩) ca s → Only p w4 W → W.cell? ⟨b, off + 3, none⟩ = some (.slice (some ⟨fb, fo, none⟩) y.fields.length fc) ∧ (∃ u, W.cell? ⟨fb, fo + 5, none⟩ = some u) ∧ W.frozen? ⟨fb, fo + 5, none⟩ = false ∧ StS w (W.setCell ⟨fb, fo + 5, none⟩ (.int .i64 r)) p len cap a g g (some ⟨b, off, none⟩) ca (s.set 0 { y with fields := y.fields.set 0 ⟨f0.name, f0.typ, f0.list, f0.must, f0.size, r⟩ })) :=
      Lib.hid fun W r h0 h1 h ho => by
        have := hnx W ⟨f0.name, f0.typ, f0.list, f0.must, f0.size, r⟩ (.int .i64 r) h ho ⟨hfo.1, hfo.2.1, hfo.2.2.1, by unfold OkI; simp only; omega⟩ rfl
        simpa using this
    have HWS : Hid (∀ (r : Int), schWt (s.set 0 { y with fields := y.fields.set 0 ⟨f0.name, f0.typ, f0.list, f0.must, f0.size, r⟩ }) ≤ 10000) := Lib.hid fun r => wt_set HW.out (wt_field HYW hf0 (by simp [FieldP.wt]))
    have hc30 : w4.cell? ⟨b, off + 3, none⟩ = some (.slice (some ⟨fb, fo, none⟩) y.fields.length fc) := by simpa using hc3
    clear hym HYW hy0 hf0 hf1 hfo hnx hc3
    go_wp2_with fail
    go_region_with (go_at_call 50; refine (src_n _ p len cap a HTD.out.src 3 (by omega)).mono ?_; rintro e w5 ⟨⟨r, rfl, hr0, hr1⟩, hs5, ho5⟩; have HT5 := Lib.hid (HTD.out.keep ho5 hs5); have HY := Lib.hid (HSC.out _ r hr0 hr1 HT5.out ((Only.refl p w4).drew.trans ho5)); have ⟨kb5, _⟩ := keep1 HT5.out.box; have hc35 := HY.out.1; obtain ⟨u, hu⟩ := HY.out.2.1; have hfz := HY.out.2.2.1)
    all_goals
      have HT6 := Lib.hid HY.out.2.2.2
      have ⟨kb6, _⟩ := keep1 HT6.out.box
      have ⟨kr6, fr6⟩ := keep1 HT6.out.res
      have HWT := HWS.out r 
      clear hc30 hc35 hu hfz kb5 hs5 ho5 HWS HSC kb
      go_wp2_with fail
      have ⟨z0, zx, zs, zo⟩ := HT6.out.fin
      generalize (w5.setCell ⟨fb, fo + 5, none⟩ (.int .i64 r)).setCell ⟨w.heap.size, 0, none⟩ (.slice (some ⟨b, off, none⟩) 5 ca) = wf at *
      have ⟨x0, _⟩ := keep1 z0
      exact bodyPost_ret (v := .agg #[.slice (some ⟨b, off, none⟩) 5 ca]) (by simp [results, Try.results30, go_sem, x0]) rfl ⟨⟨_, _, HWT, rfl, zx⟩, zs, zo⟩
  · obtain ⟨y, f0, f1, hy0, hf0, hf1⟩ := three_fields H3.out
    have hym := List.mem_of_getElem? hy0
    have HYW := wt_mem HW.out hy0
    have hfo := (three_ok H3.out y hym).2 f1 (List.mem_of_getElem? hf1)
    have hfl : 1 < y.fields.length := (List.getElem?_eq_some_iff.1 hf1).1
    obtain ⟨fb, fo, fc, hc3, hfc, hfb1, hfb2, hnx⟩ := HT4.out.field2 (Nat.le_refl _) hy0 hf1 (k := 1) (by omega) hfo
    have HSC : Hid (∀ (W : World) (r : ByteArray), r ∈ ([⟨#[78, 79]⟩, ⟨#[83, 84, 82]⟩, ⟨#[65, 78, 89]⟩] : List ByteArray) → StS w W p len cap a g g (some ⟨b, off, none⟩) ca s → Only p w4 W → W.cell? ⟨b, off + 3, none⟩ = some (.slice (some ⟨fb, fo, none⟩) y.fields.length fc) ∧ (∃ u, W.cell? ⟨fb, fo + 6 + 1, none⟩ = some u) ∧ W.frozen? ⟨fb, fo + 6 + 1, none⟩ = false ∧ StS w (W.setCell ⟨fb, fo + 6 + 1, none⟩ (.string r)) p len cap a g g (some ⟨b, off, none⟩) ca (s.set 0 { y with fields := y.fields.set 1 ⟨f1.name, r, f1.list, f1.must, f1.size, f1.cap⟩ })) :=
      Lib.hid fun W r h0 h ho => by
        have := hnx W ⟨f1.name, r, f1.list, f1.must, f1.size, f1.cap⟩ (.string r) h ho ⟨hfo.1, by have := small4 h0; unfold OkS; simp only; omega, hfo.2.2.1, hfo.2.2.2⟩ rfl
        simpa using this
    have HWS : Hid (∀ (r : ByteArray), r ∈ ([⟨#[78, 79]⟩, ⟨#[83, 84, 82]⟩, ⟨#[65, 78, 89]⟩] : List ByteArray) → schWt (s.set 0 { y with fields := y.fields.set 1 ⟨f1.name, r, f1.list, f1.must, f1.size, f1.cap⟩ }) ≤ 10000) := Lib.hid fun r h0 => wt_set HW.out (wt_field HYW hf1 (by have := small4 h0; simp only [FieldP.wt]; omega))
    have HTA := Lib.hid (HT4.out.alloc (.cells (([⟨#[78, 79]⟩, ⟨#[83, 84, 82]⟩, ⟨#[65, 78, 89]⟩] : List ByteArray).map Value.string).toArray 9)).drew
    have HGA : Hid ((w4.alloc (.cells (([⟨#[78, 79]⟩, ⟨#[83, 84, 82]⟩, ⟨#[65, 78, 89]⟩] : List ByteArray).map Value.string).toArray 9)).drew.heap[w4.heap.size]? = some (.cells (([⟨#[78, 79]⟩, ⟨#[83, 84, 82]⟩, ⟨#[65, 78, 89]⟩] : List ByteArray).map Value.string).toArray 9 (0, 0))) := Lib.hid (Go.Deep.blk_alloc_new _ _)
    have HOA : Hid (Only p w4 (w4.alloc (.cells (([⟨#[78, 79]⟩, ⟨#[83, 84, 82]⟩, ⟨#[65, 78, 89]⟩] : List ByteArray).map Value.string).toArray 9)).drew) := Lib.hid ((Only.refl p w4).of_below (Nat.le_refl _) ((Below.refl _ _).alloc (Nat.le_refl _) _)).drew
    have hpw : w4.heap.size ≠ p := by have := HT4.out.only.size; omega
    have hgl : g < w4.heap.size := lt_of_get HT4.out.box
    have hc30 : w4.cell? ⟨b, off + 3, none⟩ = some (.slice (some ⟨fb, fo, none⟩) y.fields.length fc) := by simpa using hc3
    have hbl : b < w4.heap.size := lt_of_cell hc30
    clear hym HYW hy0 hf0 hf1 hfo hnx hc3
    go_wp2_with fail
    go_region_with (go_at_call 29; refine (src_pick _ p len cap a HTA.out.src w4.heap.size [⟨#[78, 79]⟩, ⟨#[83, 84, 82]⟩, ⟨#[65, 78, 89]⟩] HGA.out hpw (by simp) (by simp)).mono ?_; rintro e w5 ⟨⟨r, hr, rfl⟩, hs5, ho5⟩; have HRR := Lib.hid hr; clear hr; have HT5 := Lib.hid (HTA.out.keep ho5 hs5); have HY := Lib.hid (HSC.out _ r HRR.out HT5.out (HOA.out.trans ho5)); have ⟨kb5, _⟩ := keep1 HT5.out.box; have hc35 := HY.out.1; obtain ⟨u, hu⟩ := HY.out.2.1; have hfz := HY.out.2.2.1)
    all_goals
      have HT6 := Lib.hid HY.out.2.2.2
      have ⟨kb6, _⟩ := keep1 HT6.out.box
      have ⟨kr6, fr6⟩ := keep1 HT6.out.res
      have HWT := HWS.out r HRR.out
      clear HTA HGA HOA hpw hc30 hc35 hu hfz kb5 hs5 ho5 HWS HSC kb
      go_wp2_with fail
      have ⟨z0, zx, zs, zo⟩ := HT6.out.fin
      generalize (w5.setCell ⟨fb, fo + 6 + 1, none⟩ (.string r)).setCell ⟨w.heap.size, 0, none⟩ (.slice (some ⟨b, off, none⟩) 5 ca) = wf at *
      have ⟨x0, _⟩ := keep1 z0
      exact bodyPost_ret (v := .agg #[.slice (some ⟨b, off, none⟩) 5 ca]) (by simp [results, Try.results30, go_sem, x0]) rfl ⟨⟨_, _, HWT, rfl, zx⟩, zs, zo⟩
  · obtain ⟨y, hy4, hyf, hyn, hyl, hymo, hyo⟩ := three_last H3.out
    obtain ⟨gb, capv, mc, mcc, base, ev, hgb, hbase, hmc, hmow⟩ := HM4.out 4 y hy4
    have hoff : b = gb ∧ off = 0 := by simp at ev; exact ev.1
    have hm4 : w4.cell? ⟨b, off + 20 + 4, none⟩ = some (.slice mc y.members.length mcc) := by rw [hoff.1, hoff.2]; exact hmc
    have HWS : Hid (∀ (r : ByteArray), r ∈ ([⟨#[83, 84, 82]⟩, ⟨#[85, 83, 69, 82]⟩, ⟨#[81]⟩] : List ByteArray) → schWt (s.set 4 ⟨y.name, y.kind, y.bytes, y.fields, y.members ++ [r]⟩) ≤ 10000) := Lib.hid fun r h0 => wt_set HW.out (wt_member (wt_mem HW.out hy4) (by have := small5 h0; omega))
    have hbl : b < w4.heap.size := lt_of_cell hm4
    have HMB : Hid (∀ (W : World) (r : ByteArray), r ∈ ([⟨#[83, 84, 82]⟩, ⟨#[85, 83, 69, 82]⟩, ⟨#[81]⟩] : List ByteArray) → StS w W p len cap a g g (some ⟨b, off, none⟩) ca s → Only p w4 W → W.cell? ⟨b, off + 20 + 4, none⟩ = some (.slice mc y.members.length mcc) ∧ base ≤ W.heap.size ∧ OwnTs W base (.slice mc y.members.length mcc) y.members ∧
        ∀ (g' cap' : Nat) (W' : World), OwnTs W' base (.slice (some ⟨g', 0, none⟩) (y.members.length + 1) cap') (y.members ++ [r]) → W.grownBy W' (Value.slice mc y.members.length mcc).ownBlock → ((Value.slice mc y.members.length mcc).ownBlock = some g' ∨ g' = W.heap.size) → Below base W W' →
          W'.cell? ⟨g, 0, none⟩ = some (.slice (some ⟨b, off, none⟩) 5 ca) ∧ W'.cell? ⟨b, off + 20 + 4, none⟩ = some (.slice mc y.members.length mcc) ∧ W'.frozen? ⟨b, off + 20 + 4, none⟩ = false ∧
          StS w (W'.setCell ⟨b, off + 20 + 4, none⟩ (.slice (some ⟨g', 0, none⟩) (y.members.length + 1) cap')) p len cap a g W'.heap.size (some ⟨b, off, none⟩) ca (s.set 4 ⟨y.name, y.kind, y.bytes, y.fields, y.members ++ [r]⟩)) :=
      Lib.hid fun W r h0 h ho => by
        have hbp := h.apart
        have hp := h.plt
        have hcW : W.cell? ⟨b, off + 20 + 4, none⟩ = some (.slice mc y.members.length mcc) := (World.cell?_of_block (w := w4) (a := ⟨b, off + 20 + 4, none⟩) (ho.block b hbl hbp)).trans hm4
        have hoW : OwnTs W base (.slice mc y.members.length mcc) y.members := OwnTs.frame hmow fun q q1 q2 => ho.block q q2 (by omega)
        have hbW : base ≤ W.heap.size := by
          rcases hmow with ⟨_, ⟨hv, hn⟩ | ⟨gq, _, _, hv, hb', hg', _⟩⟩
          · exact absurd (List.eq_nil_of_length_eq_zero hn) hyn
          · have := lt_of_get hg'; have := ho.size; omega
        exact ⟨hcW, hbW, hoW, fun g' cap' W' o1 o2 o3 o4 => StS.member h (Nat.le_refl _) hy4 hyf hyn hyl hymo hyo (by have := small5 h0; unfold OkS; omega) hcW hoW hbase o1 o2 o3 o4⟩
    have HTA := Lib.hid (HT4.out.alloc (.cells (([⟨#[83, 84, 82]⟩, ⟨#[85, 83, 69, 82]⟩, ⟨#[81]⟩] : List ByteArray).map Value.string).toArray 9)).drew
    have HGA : Hid ((w4.alloc (.cells (([⟨#[83, 84, 82]⟩, ⟨#[85, 83, 69, 82]⟩, ⟨#[81]⟩] : List ByteArray).map Value.string).toArray 9)).drew.heap[w4.heap.size]? = some (.cells (([⟨#[83, 84, 82]⟩, ⟨#[85, 83, 69, 82]⟩, ⟨#[81]⟩] : List ByteArray).map Value.string).toArray 9 (0, 0))) := Lib.hid (Go.Deep.blk_alloc_new _ _)
    have HOA : Hid (Only p w4 (w4.alloc (.cells (([⟨#[83, 84, 82]⟩, ⟨#[85, 83, 69, 82]⟩, ⟨#[81]⟩] : List ByteArray).map Value.string).toArray 9)).drew) := Lib.hid ((Only.refl p w4).of_below (Nat.le_refl _) ((Below.refl _ _).alloc (Nat.le_refl _) _)).drew
    have hpw : w4.heap.size ≠ p := by have := HT4.out.only.size; omega
    have hgl : g < w4.heap.size := lt_of_get HT4.out.box
    have hml : y.members.length + 1 ≤ 1048576 := by omega
    clear hy4 hyf hyn hymo hyo ev hgb hmc hmow hoff HXI HXO HXW
    go_wp2_with fail
    go_region_law (first
      | (refine step_app_textG (by rfl) _ _ (by rfl) base (.slice mc y.members.length mcc) y.members (by rfl) HMW.out.2.2.1 w5.heap.size 1 (by rfl) r HC5.out hml HMW.out.2.1 ?_; intro g' cap' w6 hown6 hgrow6 hat6 hbel6; have HY := Lib.hid (HMW.out.2.2.2 g' cap' w6 hown6 hgrow6 hat6 hbel6); have kb6 := HY.out.1; have hu := HY.out.2.1; have hfz := HY.out.2.2.1)
      | (go_simp; go_at_call 29; refine (src_pick _ p len cap a HTA.out.src w4.heap.size [⟨#[83, 84, 82]⟩, ⟨#[85, 83, 69, 82]⟩, ⟨#[81]⟩] HGA.out hpw (by simp) (by simp)).mono ?_; rintro e w5 ⟨⟨r, hr, rfl⟩, hs5, ho5⟩; have HRR := Lib.hid hr; clear hr; have HT5 := Lib.hid ((HTA.out.keep ho5 hs5).alloc (.cells #[.string r] 9)); have hb5 : Below w5.heap.size w5 (w5.alloc (.cells #[.string r] 9)) := (Below.refl _ _).alloc (Nat.le_refl _) _; have HMW := Lib.hid (HMB.out _ r HRR.out HT5.out ((HOA.out.trans ho5).of_below (HOA.out.trans ho5).size hb5)); have ⟨kb5, _⟩ := keep1 (HTA.out.keep ho5 hs5).box; have hgl5 := lt_of_get (HTA.out.keep ho5 hs5).box; have hbl5 : b < w5.heap.size := Nat.lt_of_lt_of_le hbl (HOA.out.trans ho5).size; have hm5 := (World.cell?_of_block (w := w4) (a := ⟨b, off + 20 + 4, none⟩) ((HOA.out.trans ho5).block b hbl HT4.out.apart)).trans hm4; have HC5 : Hid ((w5.alloc (.cells #[.string r] 9)).cell? ⟨w5.heap.size, 0, none⟩ = some (.string r)) := Lib.hid (cell_of (Go.Deep.blk_alloc_new w5 (.cells #[.string r] 9)) rfl)))
    all_goals
      have HT6 := Lib.hid HY.out.2.2.2
      have ⟨kb6', _⟩ := keep1 HT6.out.box
      have ⟨kr6, fr6⟩ := keep1 HT6.out.res
      have HWT := HWS.out r HRR.out
      clear HTA HGA HOA hpw hbl hm4 HMB hu hfz kb6 HMW
      go_wp2_with fail
      have ⟨z0, zx, zs, zo⟩ := HT6.out.fin
      generalize (w6.setCell ⟨b, off + 20 + 4, none⟩ (.slice (some ⟨g', 0, none⟩) (y.members.length + 1) cap')).setCell ⟨w.heap.size, 0, none⟩ (.slice (some ⟨b, off, none⟩) 5 ca) = wf at *
      have ⟨x0, _⟩ := keep1 z0
      exact bodyPost_ret (v := .agg #[.slice (some ⟨b, off, none⟩) 5 ca]) (by simp [results, Try.results30, go_sem, x0]) rfl ⟨⟨_, _, HWT, rfl, zx⟩, zs, zo⟩
end Go.Proofs.Ytcogbmcnljlnaaa.Draws
