/-
  Contract: impl.PurseAsk. Condition: the library's variable errors.errorType holds the handle of the type error; numbers of int64.
-/
import Derived.Test.YtlbjnblbjbdaaaaDoorRows
import Derived.Test.YtlbjnblbjbdaaaaDoorPurJ
import Derived.Deep.RegionHeld3
import Derived.Deep.CutRange
namespace Go.Proofs.YtlbjnblbjbdaaaaDoor.Pur
open Go.RowKit Rw Bnd
set_option linter.unusedVariables false
set_option maxRecDepth 100000

theorem put4_row {W : World} {g : Nat} {x0 x1 x2 x3 : Value} {T : TypeId} (h : W.heap[g]? = some (.cells #[x0, x1, x2, x3] T (0, 0))) (v0 v1 v2 v3 : Value) :
    ((((W.setCell ⟨g, 0, none⟩ v0).setCell ⟨g, 1, none⟩ v1).setCell ⟨g, 2, none⟩ v2).setCell ⟨g, 3, none⟩ v3).heap[g]? = some (.cells #[v0, v1, v2, v3] T (0, 0)) := by
  rw [heap_setCell_same _ _ _ _ _ _ (heap_setCell_same _ _ _ _ _ _ (heap_setCell_same _ _ _ _ _ _ (heap_setCell_same _ _ _ _ _ _ h)))]
  simp
theorem givO_zero {x : BP} {c t k : Int} (h : (givO x c t).2 = some (.fault k)) : (givO x c t).1 = ⟨0, 0, 0, 0⟩ := by
  unfold givO at h ⊢
  by_cases h1 : c < 0
  · rw [if_pos h1]
  · rw [if_neg h1] at h ⊢
    by_cases h2 : faultT x t = 0
    · rw [if_pos h2] at h ⊢
      by_cases h3 : atN x t < c
      · rw [if_pos h3]
      · rw [if_neg h3] at h; cases h
    · rw [if_neg h2]

set_option maxHeartbeats 4000000 in
theorem implPurseAsk (w : World) (x : BP) (hx : x.ok) (c : Int) (hc : OkI c) (t : Int) (ht : OkI t) (hg : ErrVar w) :
    Calls Tryd.prog 6 #[x.val, .int .i64 c, .int .i64 t] w fun e w' => e = .returned (askT x c t).val ∧ Below w.heap.size w w' := by
  have CS : Hid (∀ W, Calls Tryd.prog 25 #[.int .i64 t] W fun e w' => e = .returned (clockV W.heap.size) ∧ Below W.heap.size W w' ∧ w'.cell? ⟨W.heap.size, 0, none⟩ = some (.int .i64 t)) := Lib.hid fun W => (implStopped t W).mono fun e w' ⟨h1, h2⟩ => ⟨h1, by rw [h2]; exact (Below.refl _ _).alloc (Nat.le_refl _) _, by rw [h2]; simp⟩
  have CR : Hid (∀ W g, W.cell? ⟨g, 0, none⟩ = some (.int .i64 t) → Calls Tryd.prog 24 #[x.val, .int .i64 c, clockV g] W fun e w' => e = .returned (.tuple #[(givO x c t).1.val, eVal (givO x c t).2]) ∧ Below W.heap.size W w') := Lib.hid fun W g h => implGiven W x hx c hc t ht g h
  have HG := Lib.hid hg
  have HO := Lib.hid (show askT x c t = askO (givO x c t) from rfl)
  have HZ := Lib.hid (fun k (h : (givO x c t).2 = some (.fault k)) => givO_zero h)
  generalize askT x c t = O at *
  generalize givO x c t = G at *
  clear hx hc ht hg
  obtain ⟨⟨q0, q1, q2, q3⟩, er⟩ := G
  obtain ⟨r, b, l, s⟩ := x
  obtain ⟨ev, hev⟩ : ∃ y, eVal er = y := ⟨_, rfl⟩
  have HEV := Lib.hid hev
  simp only [BP.val] at *
  rw [hev] at CR
  clear hev
  simp only [clockV] at *
  have HA : Hid (Below w.heap.size w ((w.alloc (.cells #[.int .i64 r, .int .i64 b, .int .i64 l, .int .i64 s] 24)).alloc (.cells #[.int .i64 0, .int .i64 0, .int .i64 0, .int .i64 0, .bool false, .int .i64 0] 28))) := Lib.hid (((Below.refl _ _).alloc (Nat.le_refl _) _).alloc (by simp) _)
  have HKK := Lib.hid (kept2 (Below.refl _ ((w.alloc (.cells #[.int .i64 r, .int .i64 b, .int .i64 l, .int .i64 s] 24)).alloc (.cells #[.int .i64 0, .int .i64 0, .int .i64 0, .int .i64 0, .bool false, .int .i64 0] 28))))
  obtain ⟨g0, hg0⟩ : ∃ g, w.heap.size = g := ⟨_, rfl⟩
  have HG0 := Lib.hid hg0
  go_enter Tryd.func6, Tryd.ntmps6
  go_upto_region 1 with fail
  rw [hg0] at HKK
  first | rw [hg0] | skip
  obtain ⟨W0, hW0⟩ : ∃ x, (w.alloc (.cells #[.int .i64 r, .int .i64 b, .int .i64 l, .int .i64 s] 24)).alloc (.cells #[.int .i64 0, .int .i64 0, .int .i64 0, .int .i64 0, .bool false, .int .i64 0] 28) = x := ⟨_, rfl⟩
  rw [hW0] at HA HKK ⊢
  have HRL : Hid (g0 + 1 < W0.heap.size) := Lib.hid (lt_of_get HKK.out.2)
  clear hW0 hg0
  have HSS : Hid (∀ W', Below W0.heap.size W0 W' → W'.cell? ⟨g0, 0, none⟩ = some (.int .i64 r) ∧ W'.cell? ⟨g0, 1, none⟩ = some (.int .i64 b) ∧ W'.cell? ⟨g0, 2, none⟩ = some (.int .i64 l) ∧ W'.cell? ⟨g0, 3, none⟩ = some (.int .i64 s)) := Lib.hid fun W' h => (keep4 ((h.block _ (lt_of_get HKK.out.1)).trans HKK.out.1)).1
  have HW0 : Hid (Below W0.heap.size W0 W0.drew) := Lib.hid (Below.refl _ _).drew
  have HWA : Hid (∀ o, Below W0.heap.size W0 (W0.drew.alloc o)) := Lib.hid fun o => HW0.out.alloc (Nat.le_refl _) o
  go_cut [7, 8] from 10 to 17 (fun v7 v8 wx => ∃ gv, v7 = .pointer (some ⟨gv, 0, none⟩) ∧ v8 = ev ∧ Hid (wx.heap[gv]? = some (.cells #[.int .i64 q0, .int .i64 q1, .int .i64 q2, .int .i64 q3] 24 (0, 0)) ∧ W0.heap.size ≤ gv) ∧ Hid (Below W0.heap.size W0 wx))
  case first =>
    go_region_held3 (fun w' => w'.cell? ⟨g0, 0, none⟩ = some (.int .i64 r) ∧ w'.cell? ⟨g0, 1, none⟩ = some (.int .i64 b) ∧ w'.cell? ⟨g0, 2, none⟩ = some (.int .i64 l) ∧ w'.cell? ⟨g0, 3, none⟩ = some (.int .i64 s))
      (first | exact HSS.out _ HW0.out | exact HSS.out _ (HWA.out _) | exact HSS.out _ HB3.out | exact HSS.out _ (HB3.out.alloc HB3.out.size _) | exact HSS.out _ HB2.out | exact HSS.out _ (HB2.out.alloc HB2.out.size _) | exact HSS.out _ (Below.put4 HB3.out (Nat.le_refl _) _ _ _ _) | exact HSS.out _ (Below.put4 HB3.out HB2.out.size _ _ _ _))
      (first
        | (go_at_call 24
           refine (CR.out _ _ (by first | exact HC2.out | (rw [World.cell?_alloc_lt _ _ _ (by have := HL2.out; simp at this ⊢ <;> omega)]; exact HC2.out))).mono ?_
           rintro e w3 ⟨rfl, hb3⟩
           first
             | (have HB3 := Lib.hid (HB2.out.trans (hb3.mono HB2.out.size))
                first | (have HZ3 := Lib.hid ((hb3.block _ (lt_of_get HZ2.out)).trans HZ2.out); have ⟨⟨z0, z1, z2, z3⟩, y0, y1, y2, y3⟩ := keep4 HZ3.out) | skip)
             | (have HB3 := Lib.hid ((HB2.out.alloc HB2.out.size _).trans (hb3.mono (HB2.out.alloc HB2.out.size _).size))
                have HZ3 := Lib.hid ((hb3.block w2.heap.size (by simp)).trans (heap_alloc_new w2 _))
                have ⟨⟨z0, z1, z2, z3⟩, y0, y1, y2, y3⟩ := keep4 HZ3.out)
           clear hb3)
        | (go_at_call 25
           refine (CS.out _).mono ?_
           rintro e w2 ⟨rfl, hb2, hc2⟩
           have hc3 := by simpa using hc2
           have HC2 := Lib.hid hc3
           have HL2 := Lib.hid (lt_of_cell hc3)
           first
             | (have HB2 := Lib.hid (HW0.out.trans (hb2.mono HW0.out.size)))
             | (have HB2 := Lib.hid ((HWA.out _).trans (hb2.mono (HWA.out _).size))
                have HZ2 := Lib.hid ((hb2.block W0.heap.size (by simp)).trans (heap_alloc_new W0 _)))
           clear hb2 hc2 hc3))
    all_goals
      go_wp2_with fail
      go_meet
      first
        | (have tk := HZ2.out
           exact ⟨W0.heap.size, rfl, rfl, Lib.hid ⟨put4_row HZ3.out _ _ _ _, Nat.le_refl _⟩, Lib.hid (Below.put4 HB3.out (Nat.le_refl _) _ _ _ _)⟩)
        | (have tk := HZ3.out
           exact ⟨w2.heap.size, rfl, rfl, Lib.hid ⟨put4_row HZ3.out _ _ _ _, HB2.out.size⟩, Lib.hid (Below.put4 HB3.out HB2.out.size _ _ _ _)⟩)
        | exact ⟨w3.heap.size, rfl, rfl, Lib.hid ⟨heap_alloc_new w3 _, HB3.out.size⟩, Lib.hid (HB3.out.alloc HB3.out.size _)⟩
  case rest =>
    obtain ⟨gv, rfl, he8, HV, HB⟩ := hcut
    rw [he8]
    clear he8
    have HBK : Hid (Below w.heap.size w (wc.alloc (.cells #[.int .i64 0, .int .i64 0, .int .i64 0, .int .i64 0] 55))) := Lib.hid ((HA.out.trans (HB.out.mono HA.out.size)).alloc (Nat.le_trans HA.out.size HB.out.size) _)
    have HGK : Hid (ErrVar (wc.alloc (.cells #[.int .i64 0, .int .i64 0, .int .i64 0, .int .i64 0] 55))) := Lib.hid (HG.out.below HBK.out)
    have HLK : Hid (LBlk (wc.alloc (.cells #[.int .i64 0, .int .i64 0, .int .i64 0, .int .i64 0] 55)) wc.heap.size ⟨0, 0, 0, 0⟩) := Lib.hid (heap_alloc_new wc _)
    have HR2 : Hid (wc.heap[g0 + 1]? = some (.cells #[.int .i64 0, .int .i64 0, .int .i64 0, .int .i64 0, .bool false, .int .i64 0] 28 (0, 0))) := Lib.hid ((HB.out.block _ HRL.out).trans HKK.out.2)
    have hgl : gv < wc.heap.size := lt_of_get HV.out.1
    have hrl : g0 + 1 < wc.heap.size := lt_of_get HR2.out
    have hgv : g0 + 1 < gv := Nat.lt_of_lt_of_le HRL.out HV.out.2
    have HLT := Lib.hid (And.intro hgl (And.intro hrl hgv))
    cases er with
    | none =>
      obtain rfl : ev = .nilIface := HEV.out.symm
      have HF := Lib.hid (show O = ⟨⟨q0, q1, q2, q3⟩, true, 0⟩ from HO.out)
      have ⟨⟨c0, c1, c2, c3⟩, _⟩ := keep4 HV.out.1
      have ⟨⟨d0, d1, d2, d3, d4, d5⟩, f0, f1, f2, f3, f4, f5⟩ := keep6 HR2.out
      have CN := Lib.hid codeNil
      go_wp2_with (go_at_call 26; refine (asNil _ _).mono ?_; rintro e w' ⟨rfl, rfl⟩)
      go_region_with (go_at_call 27; refine (CN.out _).mono ?_; rintro e w4 ⟨rfl, hb4⟩; have HB4 := Lib.hid ((HBK.out.drew).trans (hb4.mono HBK.out.size)); have k4 := (hb4.block (g0 + 1) (by have := HLT.out.2.1; simp; omega)).trans ((Go.Deep.blk_alloc_lt wc _ _ HLT.out.2.1).trans HR2.out); have k5 := (hb4.block gv (by have := HLT.out.1; simp; omega)).trans ((Go.Deep.blk_alloc_lt wc _ _ HLT.out.1).trans HV.out.1); have ⟨⟨m0, m1, m2, m3, m4, m5⟩, n0, n1, n2, n3, n4, n5⟩ := keep6 k4; have ⟨⟨i0, i1, i2, i3⟩, _⟩ := keep4 k5; clear k4 k5 hb4)
      all_goals
        go_wp2_with fail
        rw [HF.out]
        exact bodyPost_ret (v := Pval q0 q1 q2 q3 true 0) (by simp [results, Pval, Tryd.results6, go_sem, m0, m1, m2, m3, m4, m5]) rfl ⟨rfl, Below.put6 HB4.out (by have := HG0.out; omega) _ _ _ _ _ _⟩
    | some e =>
      have CK := Lib.hid (fun (W : World) (h : ErrVar W) (h2 : LBlk W wc.heap.size ⟨0, 0, 0, 0⟩) => asKept e wc.heap.size wc.heap.size W h h2 (Nat.le_refl _))
      have HBW : Hid (w.heap.size ≤ wc.heap.size) := Lib.hid (Nat.le_trans HA.out.size HB.out.size)
      have HKR : Hid (∀ W, Below wc.heap.size (wc.alloc (.cells #[.int .i64 0, .int .i64 0, .int .i64 0, .int .i64 0] 55)) W → Below w.heap.size w W ∧ ErrVar W ∧ W.heap[g0 + 1]? = some (.cells #[.int .i64 0, .int .i64 0, .int .i64 0, .int .i64 0, .bool false, .int .i64 0] 28 (0, 0)) ∧ W.heap[gv]? = some (.cells #[.int .i64 q0, .int .i64 q1, .int .i64 q2, .int .i64 q3] 24 (0, 0))) := Lib.hid fun W h =>
        have hB := HBK.out.trans (h.mono HBW.out)
        ⟨hB, HG.out.below hB, (h.block _ HLT.out.2.1).trans ((Go.Deep.blk_alloc_lt wc _ _ HLT.out.2.1).trans HR2.out), (h.block _ HLT.out.1).trans ((Go.Deep.blk_alloc_lt wc _ _ HLT.out.1).trans HV.out.1)⟩
      rw [show eVal (some e) = e.val from rfl] at HEV
      rw [← HEV.out]
      by_cases hh : e.has = true
      · obtain ⟨rm, hrm⟩ : ∃ y, e.rem = y := ⟨_, rfl⟩
        have HF : Hid (O = ⟨rm, false, 0⟩) := Lib.hid (by rw [HO.out, ← hrm]; cases e <;> first | rfl | (simp [PErr.has] at hh))
        have CK2 : Hid (∀ W, ErrVar W → LBlk W wc.heap.size ⟨0, 0, 0, 0⟩ → Calls Tryd.prog 26 #[e.val, .iface 57 (.pointer (some ⟨wc.heap.size, 0, none⟩))] W fun en w' => en = .returned (.bool true) ∧ Below wc.heap.size W w' ∧ LBlk w' wc.heap.size rm) := Lib.hid fun W h h2 => by have := CK.out W h h2; rw [hh, hrm] at this; exact this
        obtain ⟨r0, r1, r2, r3⟩ := rm
        generalize e.val = evv at *
        clear hrm hh CK HO HZ HEV
        go_wp2_with fail
        refine (CK2.out _ HGK.out HLK.out).mono ?_
        rintro en w4 ⟨rfl, hb4, hl4⟩
        have HW4 := Lib.hid (HKR.out _ hb4)
        have ⟨⟨d0, d1, d2, d3, d4, d5⟩, f0, f1, f2, f3, f4, f5⟩ := keep6 HW4.out.2.2.1
        have ⟨⟨l0, l1, l2, l3⟩, _⟩ := keep4 hl4
        clear hb4 hl4
        go_wp2_with fail
        rw [HF.out]
        exact bodyPost_ret (v := Pval r0 r1 r2 r3 false 0) (by simp [results, Pval, Tryd.results6, go_sem, d0, d1, d2, d3, d4, d5]) rfl ⟨rfl, Below.put6 HW4.out.1 (by have := HG0.out; omega) _ _ _ _ _ _⟩
      · cases e with
        | left p => exact absurd rfl hh
        | refused a p => exact absurd rfl hh
        | fault k =>
          have hz := HZ.out k rfl
          have HF : Hid (O = codeO k) := HO
          cases hz
          clear hh HO HZ
          simp only [PErr.val, PErr.pay, PErr.typ] at CK HEV ⊢
          have CN : Hid (∀ W, ErrVar W → _) := Lib.hid (fun W h => codeFault k W h)
          go_wp2_with fail
          refine (CK.out _ HGK.out HLK.out).mono ?_
          rintro en w5 ⟨rfl, hb5, hl5⟩
          have HW5 := Lib.hid (HKR.out _ hb5)
          have hgv5 : gv < w5.heap.size := lt_of_get HW5.out.2.2.2
          have hrl5 : g0 + 1 < w5.heap.size := lt_of_get HW5.out.2.2.1
          have HLT5 := Lib.hid (And.intro hgv5 hrl5)
          have HG5 : Hid (ErrVar w5.drew) := Lib.hid (HG.out.below HW5.out.1.drew)
          have ⟨⟨c0, c1, c2, c3⟩, _⟩ := keep4 HW5.out.2.2.2
          have ⟨⟨d0, d1, d2, d3, d4, d5⟩, f0, f1, f2, f3, f4, f5⟩ := keep6 HW5.out.2.2.1
          clear hb5 hl5
          go_wp2_with fail
          go_region_with (go_at_call 27; refine (CN.out _ HG5.out).mono ?_; rintro e w4 ⟨rfl, hb4⟩; have HB4 := Lib.hid ((HW5.out.1.drew).trans (hb4.mono HW5.out.1.size)); have k4 := (hb4.block (g0 + 1) HLT5.out.2).trans HW5.out.2.2.1; have k5 := (hb4.block gv HLT5.out.1).trans HW5.out.2.2.2; have ⟨⟨m0, m1, m2, m3, m4, m5⟩, n0, n1, n2, n3, n4, n5⟩ := keep6 k4; have ⟨⟨i0, i1, i2, i3⟩, _⟩ := keep4 k5; clear k4 k5 hb4)
          all_goals
            go_wp2_with fail
            rw [HF.out]
            exact bodyPost_ret (v := Pval 0 0 0 0 false k) (by simp [results, Pval, Tryd.results6, go_sem, m0, m1, m2, m3, m4, m5]) rfl ⟨rfl, Below.put6 HB4.out (by have := HG0.out; omega) _ _ _ _ _ _⟩
end Go.Proofs.YtlbjnblbjbdaaaaDoor.Pur
