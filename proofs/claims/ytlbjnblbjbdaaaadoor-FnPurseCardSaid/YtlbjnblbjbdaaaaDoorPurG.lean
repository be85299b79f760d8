/-
  Contract: impl.PurseAt; of what was there nothing is changed. Conditions: numbers of int64.
-/
import Derived.Test.YtlbjnblbjbdaaaaDoorRows
import Derived.Test.YtlbjnblbjbdaaaaDoorPurF
import Derived.Deep.RegionHeld3
import Derived.Deep.CutRange
namespace Go.Proofs.YtlbjnblbjbdaaaaDoor.Pur
open Go.RowKit Rw Bnd
set_option linter.unusedVariables false
set_option maxRecDepth 100000

theorem put4_row {W : World} {g : Nat} {x0 x1 x2 x3 : Value} {T : TypeId} (h : W.heap[g]? = some (.cells #[x0, x1, x2, x3] T (0, 0))) (v0 v1 v2 v3 : Value) :
    ((((W.setCell ⟨g, 0, none⟩ v0).setCell ⟨g, 1, none⟩ v1).setCell ⟨g, 2, none⟩ v2).setCell ⟨g, 3, none⟩ v3).heap[g]? = some (.cells #[v0, v1, v2, v3] T (0, 0)) := by
  rw [heap_setCell_same _ _ _ _ _ _ (heap_setCell_same _ _ _ _ _ _ (heap_setCell_same _ _ _ _ _ _ (heap_setCell_same _ _ _ _ _ _ h)))]
  simp
theorem atT_fault {x : BP} {t : Int} : atT x t = if faultT x t = 0 then atN x t else -1 := by
  unfold atT
  by_cases h : faultT x t = 0
  · rw [if_pos h, if_pos (fault_time.1 h)]
  · rw [if_neg h, if_neg (fun g => h (fault_time.2 g))]

set_option maxHeartbeats 4000000 in
theorem implPurseAt (w : World) (x : BP) (hx : x.ok) (t : Int) (ht : OkI t) :
    Calls Tryd.prog 12 #[x.val, .int .i64 t] w fun e w' => e = .returned (.int .i64 (atT x t)) ∧ Below w.heap.size w w' := by
  have CS : Hid (∀ W, Calls Tryd.prog 25 #[.int .i64 t] W fun e w' => e = .returned (clockV W.heap.size) ∧ Below W.heap.size W w' ∧ w'.cell? ⟨W.heap.size, 0, none⟩ = some (.int .i64 t)) := Lib.hid fun W => (implStopped t W).mono fun e w' ⟨h1, h2⟩ => ⟨h1, by rw [h2]; exact (Below.refl _ _).alloc (Nat.le_refl _) _, by rw [h2]; simp⟩
  have CR : Hid (∀ W g, W.cell? ⟨g, 0, none⟩ = some (.int .i64 t) → Calls Tryd.prog 30 #[x.val, clockV g] W fun e w' => e = .returned (tup (fillP x t) (faultT x t)) ∧ Below W.heap.size W w') := Lib.hid fun W g h => implRefilled W x hx t ht g h
  have HX := Lib.hid (atT_fault (x := x) (t := t))
  have HF := Lib.hid (show fillP x t = if faultT x t = 0 then ⟨x.d, x.c, atN x t, t⟩ else ⟨0, 0, 0, 0⟩ from rfl)
  generalize atT x t = O at *
  generalize faultT x t = K at *
  generalize fillP x t = FP at *
  generalize atN x t = N at *
  clear hx ht
  obtain ⟨r, b, l, s⟩ := x
  have HQ := Lib.hid (fun (h : K = 0) => show FP.n = N by rw [HF.out, if_pos h])
  clear HF
  obtain ⟨q0, q1, q2, q3⟩ := FP
  obtain ⟨ev, hev⟩ : ∃ y, errV K = y := ⟨_, rfl⟩
  have HEV := Lib.hid hev
  simp only [BP.val, tup] at *
  rw [hev] at CR
  clear hev
  simp only [clockV] at *
  have HA : Hid (Below w.heap.size w (w.alloc (.cells #[.int .i64 r, .int .i64 b, .int .i64 l, .int .i64 s] 24))) := Lib.hid ((Below.refl _ _).alloc (Nat.le_refl _) _)
  have HK0 : Hid ((w.alloc (.cells #[.int .i64 r, .int .i64 b, .int .i64 l, .int .i64 s] 24)).heap[w.heap.size]? = some (.cells #[.int .i64 r, .int .i64 b, .int .i64 l, .int .i64 s] 24 (0, 0))) := Lib.hid (heap_alloc_new w _)
  obtain ⟨g0, hg0⟩ : ∃ g, w.heap.size = g := ⟨_, rfl⟩
  have HG0 := Lib.hid hg0
  go_enter Tryd.func12, Tryd.ntmps12
  go_upto_region 1 with fail
  rw [hg0] at HK0
  first | rw [hg0] | skip
  obtain ⟨W0, hW0⟩ : ∃ x, w.alloc (.cells #[.int .i64 r, .int .i64 b, .int .i64 l, .int .i64 s] 24) = x := ⟨_, rfl⟩
  rw [hW0] at HA HK0 ⊢
  clear hW0 hg0
  have HSS : Hid (∀ W', Below W0.heap.size W0 W' → W'.cell? ⟨g0, 0, none⟩ = some (.int .i64 r) ∧ W'.cell? ⟨g0, 1, none⟩ = some (.int .i64 b) ∧ W'.cell? ⟨g0, 2, none⟩ = some (.int .i64 l) ∧ W'.cell? ⟨g0, 3, none⟩ = some (.int .i64 s)) := Lib.hid fun W' h => (keep4 ((h.block _ (lt_of_get HK0.out)).trans HK0.out)).1
  have HW0 : Hid (Below W0.heap.size W0 W0.drew) := Lib.hid (Below.refl _ _).drew
  have HWA : Hid (∀ o, Below W0.heap.size W0 (W0.drew.alloc o)) := Lib.hid fun o => HW0.out.alloc (Nat.le_refl _) o
  go_cut [5, 6] from 7 to 13 (fun v5 v6 wx => ∃ gv, v5 = .pointer (some ⟨gv, 0, none⟩) ∧ v6 = ev ∧ Hid (wx.heap[gv]? = some (.cells #[.int .i64 q0, .int .i64 q1, .int .i64 q2, .int .i64 q3] 24 (0, 0))) ∧ Hid (Below W0.heap.size W0 wx))
  case first =>
    go_region_held3 (fun w' => w'.cell? ⟨g0, 0, none⟩ = some (.int .i64 r) ∧ w'.cell? ⟨g0, 1, none⟩ = some (.int .i64 b) ∧ w'.cell? ⟨g0, 2, none⟩ = some (.int .i64 l) ∧ w'.cell? ⟨g0, 3, none⟩ = some (.int .i64 s))
      (first | exact HSS.out _ HW0.out | exact HSS.out _ (HWA.out _) | exact HSS.out _ HB3.out | exact HSS.out _ (HB3.out.alloc HB3.out.size _) | exact HSS.out _ HB2.out | exact HSS.out _ (HB2.out.alloc HB2.out.size _) | exact HSS.out _ (Below.put4 HB3.out (Nat.le_refl _) _ _ _ _) | exact HSS.out _ (Below.put4 HB3.out HB2.out.size _ _ _ _))
      (first
        | (go_at_call 30
           refine (CR.out _ _ (by first | exact HC2.out | (rw [World.cell?_alloc_lt _ _ _ (by have := HL2.out; simp at this ⊢ <;> omega)]; exact HC2.out))).mono ?_
           rintro e w3 ⟨rfl, hb3⟩
           first
             | (have HB3 := Lib.hid (HB2.out.trans (hb3.mono HB2.out.size))
                first | (have HZ3 := Lib.hid ((hb3.block _ (lt_of_get HZ2.out)).trans HZ2.out); have ⟨⟨z0, z1, z2, z3⟩, y0, y1, y2, y3⟩ := keep4 HZ3.out) | skip)
             | (have HB3 := Lib.hid ((HB2.out.alloc HB2.out.size _).trans (hb3.mono (HB2.out.alloc HB2.out.size _).size))
                have HZ3 := Lib.hid ((hb3.block w2.heap.size (by simp)).trans (heap_alloc_new w2 _))
                have ⟨⟨z0, z1, z2, z3⟩, y0, y1, y2, y3⟩ := keep4 HZ3.out)
           clear hb3)
        | (go_at_call 25
           refine (CS.out _).mono ?_
           rintro e w2 ⟨rfl, hb2, hc2⟩
           have hc3 := by simpa using hc2
           have HC2 := Lib.hid hc3
           have HL2 := Lib.hid (lt_of_cell hc3)
           first
             | (have HB2 := Lib.hid (HW0.out.trans (hb2.mono HW0.out.size)))
             | (have HB2 := Lib.hid ((HWA.out _).trans (hb2.mono (HWA.out _).size))
                have HZ2 := Lib.hid ((hb2.block W0.heap.size (by simp)).trans (heap_alloc_new W0 _)))
           clear hb2 hc2 hc3))
    all_goals
      go_wp2_with fail
      go_meet
      first
        | (have tk := HZ2.out
           exact ⟨W0.heap.size, rfl, rfl, Lib.hid (put4_row HZ3.out _ _ _ _), Lib.hid (Below.put4 HB3.out (Nat.le_refl _) _ _ _ _)⟩)
        | (have tk := HZ3.out
           exact ⟨w2.heap.size, rfl, rfl, Lib.hid (put4_row HZ3.out _ _ _ _), Lib.hid (Below.put4 HB3.out HB2.out.size _ _ _ _)⟩)
        | exact ⟨w3.heap.size, rfl, rfl, Lib.hid (heap_alloc_new w3 _), Lib.hid (HB3.out.alloc HB3.out.size _)⟩
  case rest =>
    obtain ⟨gv, rfl, he6, HV, HB⟩ := hcut
    rw [he6]
    clear he6
    have ⟨⟨c0, c1, c2, c3⟩, _⟩ := keep4 HV.out
    have HBF := Lib.hid (HA.out.trans (HB.out.mono HA.out.size))
    by_cases hK : K = 0
    · obtain rfl : ev = .nilIface := by rw [← HEV.out, hK]; rfl
      have HF := Lib.hid (show O = q2 by rw [HX.out, if_pos hK, ← HQ.out hK])
      clear hK
      go_wp2_with fail
      go_ret
      exact ⟨by rw [HF.out]; rfl, HBF.out⟩
    · obtain rfl : ev = .iface 68 (.agg #[.int .i64 K]) := by rw [← HEV.out]; unfold errV; rw [if_neg hK]
      have HF := Lib.hid (show O = -1 by rw [HX.out, if_neg hK])
      clear hK
      go_wp2_with fail
      go_ret
      exact ⟨by rw [HF.out]; rfl, HBF.out⟩
end Go.Proofs.YtlbjnblbjbdaaaaDoor.Pur
