/-
  The walk of laws.FnExactValidate: it answers true, and of what was there nothing is changed. Conditions: in memory; the library variable errors.errorType holds the handle of the type error.
-/
import Derived.Test.YtceabbbmgfeofaaGreatDoorRows
import Derived.Test.YtceabbbmgfeofaaGreatDoorErrY
import Derived.ProofKit
import Derived.OpenShut
import Derived.ShutString
import Derived.ChangeOld
import Derived.LaidLaws
import Derived.LaidHandle
import Derived.Deep.DeepHandedRow
import Derived.Test.YtceabbbmgfeofaaGreatDoorValT
namespace Go.Proofs.YtceabbbmgfeofaaGreatDoor.Doors
open Go.ChangeShapes Go.WideShapes Go.ChangeAt Go.RowKit ErrW
set_option linter.unusedVariables false
set_option maxRecDepth 100000
theorem own : ownKnob Tryz.prog.godebug = none := by kernel_rfl
theorem laidOut : laidOutB Tryz.prog = true := by kernel_rfl
theorem et : Tryz.prog.globalNamed "errors.errorType" = some 0 := by kernel_rfl
theorem rt : (Tryz.prog.cutTypes.find? (·.1 == "internal/reflectlite.rtype")).map (·.2) = some 264 := by kernel_rfl
theorem oneRow : ((List.range 375).filter fun t => Tryz.prog.rowNamed t [101, 114, 114, 111, 114]) = [79] := by kernel_rfl
theorem size : Tryz.prog.types.size = 375 := by kernel_rfl
abbrev listed : List (String × DataW Unit) := [("errors.errorType", Rows.laid_errors_errorType)]
theorem errVar {W : World} (h : laidMetH Tryz.prog listed W) : ErrVar W := by
  have h' : laidMet Tryz.prog [] W ∧ handlesMet Tryz.prog listed W := h
  obtain ⟨name, u, ty, e1, e2, e3, e4, e5⟩ := h'.2 _ (List.mem_singleton.2 rfl)
  have en : name = [101, 114, 114, 111, 114] := (Option.some.inj e1).symm
  subst en
  obtain rfl := Option.some.inj (rt.symm.trans e2)
  have hm : ty ∈ (List.range 375).filter fun t => Tryz.prog.rowNamed t [101, 114, 114, 111, 114] := List.mem_filter.2 ⟨List.mem_range.2 (by rw [← size]; exact e3), e4⟩
  rw [oneRow] at hm
  obtain rfl := List.mem_singleton.1 hm
  have hh : typeHandle Tryz.prog 79 = .pointer (some ⟨9, 79, none⟩) := by kernel_rfl
  rw [hh] at e5
  simpa [ErrVar] using World.var?_cell et e5 0
noncomputable def laidWorld (os : Os) : World :=
  { World.holding Tryz.prog os ⟨#[], #[], []⟩ with heap := (World.holding Tryz.prog os ⟨#[], #[], []⟩).heap.modify 0 fun
      | .cells _ t frozen => .cells #[.iface 264 (.agg #[.pointer (some ⟨9, 79, none⟩)])] t frozen
      | o => o }
theorem laid_met (os : Os) (args : Array Value) : laidMetH Tryz.prog listed ((laidWorld os).forCall (fun _ _ => 0) ⟨#[], args, []⟩).memory :=
  laidMetH_of_parts (laidMet_nil _ _) (by kernel_rfl)
end Go.Proofs.YtceabbbmgfeofaaGreatDoor.Doors
namespace Go.Proofs.YtceabbbmgfeofaaGreatDoor.fnExactValidate
open Go.ChangeShapes Go.WideShapes Go.ChangeAt Go.RowKit Doors
open Go.ChangeMaps (open_string shut_string)
open Selss
set_option linter.unusedVariables false
set_option maxRecDepth 100000 in
set_option maxHeartbeats 8000000 in
/-- The walk. -/
theorem walk (v0 : Value) (x0 : List Rw.TypeP) (v1 : Value) (x1 : Selss.DocP) (w : World) (w0 : Rw.SchemaAt w 0 w.heap.size v0 x0) (w1 : Selss.DocAt w 0 w.heap.size v1 x1) (h0 : ErrW.ErrVar w) :
    Calls Tryz.prog 5 #[v0, v1] w fun e w' => e = .returned (.bool true) ∧ Below w.heap.size w w' := by
  have HG := Lib.hid h0
  have HS := Lib.hid w0
  have HDO := Lib.hid w1
  clear h0
  obtain ⟨sa, sca, rfl, _, _⟩ := w0
  obtain ⟨da, dca, db, dcb, rfl, _, _, _⟩ := w1
  have CSZ : Hid (∀ W, Bx w W (.slice sa x0.length sca) (.slice da x1.sels.len dca) (.slice db x1.frags.length dcb) → Calls Tryz.prog 26 #[.agg #[.slice sa x0.length sca], .int .i64 1048576] W fun e w' => e = .returned (.int .i64 (Rw.leftOf 1048576 (Rw.schWt x0))) ∧ Below W.heap.size W w') := Lib.hid fun W h => Rw.szSchema W 0 w.heap.size _ x0 (HS.out.below (Nat.le_refl _) h.bel) h.bel.size 1048576 (by omega) (by omega)
  have CDZ : Hid (∀ W m, 0 ≤ m → m ≤ 1048576 → Bx w W (.slice sa x0.length sca) (.slice da x1.sels.len dca) (.slice db x1.frags.length dcb) → Calls Tryz.prog 27 #[.agg #[.slice da x1.sels.len dca, .slice db x1.frags.length dcb], .int .i64 m] W fun e w' => e = .returned (.int .i64 (Selss.leftOf m x1.wt)) ∧ Below W.heap.size W w') := Lib.hid fun W m h0 h1 h => szDoc W 0 w.heap.size _ x1 m (HDO.out.below (Nat.le_refl _) h.bel) h.bel.size h0 h1
  have CTS : Hid (Rw.schWt x0 ≤ 1048576 → ∀ W, Bx w W (.slice sa x0.length sca) (.slice da x1.sels.len dca) (.slice db x1.frags.length dcb) → Calls Tryz.prog 28 #[.agg #[.slice sa x0.length sca]] W fun e w' => (∃ a, e = .returned (.agg #[.slice a x0.length x0.length]) ∧ Rw.SchemaX w' W.heap.size w'.heap.size (.agg #[.slice a x0.length x0.length]) x0) ∧ Below W.heap.size W w') := Lib.hid fun hw W h => Rw.toSchema W 0 w.heap.size _ x0 (HS.out.below (Nat.le_refl _) h.bel) h.bel.size hw
  have CTD : Hid (x1.wt ≤ 1048576 → ∀ W, Bx w W (.slice sa x0.length sca) (.slice da x1.sels.len dca) (.slice db x1.frags.length dcb) → Calls Tryz.prog 29 #[.agg #[.slice da x1.sels.len dca, .slice db x1.frags.length dcb]] W fun e w' => (∃ v', e = .returned v' ∧ DocAt w' W.heap.size w'.heap.size v' x1) ∧ Below W.heap.size W w') := Lib.hid fun hw W h => toDoc W 0 w.heap.size _ x1 (HDO.out.below (Nat.le_refl _) h.bel) h.bel.size hw
  have BX0 := Lib.hid (Bx.make w (.slice sa x0.length sca) (.slice da x1.sels.len dca) (.slice db x1.frags.length dcb))
  go_enter Tryz.func5, Tryz.ntmps5
  go_wp2_with fail
  refine (CSZ.out _ BX0.out).mono ?_
  rintro e w1 ⟨rfl, hb1⟩
  have BX1 := Lib.hid (BX0.out.next hb1)
  have ⟨c0, c1, c2⟩ := BX1.out.cells
  clear hb1
  by_cases hbig : 1048576 < Rw.schWt x0
  · have e1 : Rw.leftOf 1048576 (Rw.schWt x0) = -1 := if_neg (by omega)
    rw [e1]
    clear hbig e1
    go_wp2_with fail
    go_ret
    exact ⟨rfl, BX1.out.bel⟩
  have hwt0 : Rw.schWt x0 ≤ 1048576 := by omega
  have TS := Lib.hid (CTS.out hwt0)
  obtain ⟨m, hm0, hm1, hmE⟩ : ∃ m : Int, 0 ≤ m ∧ m ≤ 1048576 ∧ Rw.leftOf 1048576 (Rw.schWt x0) = m := ⟨_, by unfold Rw.leftOf; rw [if_pos (by omega)]; omega, by unfold Rw.leftOf; rw [if_pos (by omega)]; omega, rfl⟩
  rw [hmE]
  have CDZ1 := Lib.hid (CDZ.out w1 m hm0 hm1 BX1.out)
  clear hbig hwt0 hmE CTS CSZ CDZ
  go_wp2_with fail
  refine CDZ1.out.mono ?_
  rintro e w2 ⟨rfl, hb2⟩
  have BX2 := Lib.hid (BX1.out.next hb2)
  clear hb2 c0 c1 c2
  by_cases hbig : m < x1.wt
  · have e1 : Selss.leftOf m x1.wt = -1 := if_neg (by omega)
    rw [e1]
    clear hbig e1
    go_wp2_with fail
    go_ret
    exact ⟨rfl, BX2.out.bel⟩
  have hwt1 : x1.wt ≤ 1048576 := by omega
  have TD := Lib.hid (CTD.out hwt1)
  obtain ⟨m2, hm2⟩ : ∃ m2 : Int, Selss.leftOf m x1.wt = m2 ∧ 0 ≤ m2 := ⟨_, rfl, by unfold Selss.leftOf; rw [if_pos (by omega)]; omega⟩
  obtain ⟨hm2, hm20⟩ := hm2
  rw [hm2]
  clear hbig hwt1 hm2 CTD hm0 hm1 CDZ1
  obtain ⟨zt, hzt⟩ : ∃ x, whatW (validW x0 x1) = x := ⟨_, rfl⟩
  obtain ⟨zc, hzc⟩ : ∃ x, codeW (validW x0 x1) = x := ⟨_, rfl⟩
  have CV : Hid (∀ (W : World) (v dv : Value), SX W v x0 → DX W dv x1 → Calls Tryz.prog 14 #[v, dv] W fun e w' => e = .returned (.agg #[.string zt, .int .i64 zc]) ∧ Below W.heap.size W w') := Lib.hid fun W v dv h1 h2 => by rw [← hzt, ← hzc]; exact specValidate W W.heap.size v dv x0 x1 h1 h2 (Nat.le_refl _)
  have CI : Hid (∀ (W : World) (v dv : Value), SX W v x0 → DX W dv x1 → ErrW.ErrVar W → Calls Tryz.prog 7 #[v, dv] W fun e w' => e = .returned (.agg #[.string zt, .int .i64 zc]) ∧ Below W.heap.size W w') := Lib.hid fun W v dv h1 h2 h3 => by rw [← hzt, ← hzc]; exact implValidate W W.heap.size v dv x0 x1 h1 h2 (Nat.le_refl _) h3
  clear hzt hzc
  have BXd := Lib.hid BX2.out.drew
  have BXa := Lib.hid (BX2.out.alloc (.cells #[.string ⟨#[]⟩, .int .i64 0] 33)).drew
  have HDA : Hid ((w2.alloc (.cells #[.string ⟨#[]⟩, .int .i64 0] 33)).drew.heap[w2.heap.size]? = some (.cells #[.string ⟨#[]⟩, .int .i64 0] 33 (0, 0))) := Lib.hid (heap_alloc_new w2 _)
  have hl2 := BX2.out.lt
  go_upto_region 8 with fail
  go_cut [6] from 20 to 24 (fun v6 wx => ∃ yb, v6 = .pointer (some ⟨yb, 0, none⟩) ∧ w.heap.size + 1 < yb ∧ wx.heap[yb]? = some (.cells #[.string zt, .int .i64 zc] 33 (0, 0)) ∧ Bx w wx (.slice sa x0.length sca) (.slice da x1.sels.len dca) (.slice db x1.frags.length dcb))
  case first =>
    go_region_held3 (fun w' => w'.cell? ⟨w.heap.size, 0, none⟩ = some (.slice sa x0.length sca) ∧ w'.cell? ⟨w.heap.size + 1, 0, none⟩ = some (.slice da x1.sels.len dca) ∧ w'.cell? ⟨w.heap.size + 1, 1, none⟩ = some (.slice db x1.frags.length dcb))
      (first | exact BXd.out.cells | exact BXa.out.cells | exact B7.out.cells | exact (B7.out.alloc _).cells | exact (B7.out.put hy7 _ _).cells | exact B6.out.cells | exact (B6.out.alloc _).cells | exact B5.out.cells | exact (B5.out.alloc _).cells | go_keep)
      (first
      | (go_at_call 14; refine (CV.out _ _ _ (by first | exact S6.out | exact S6.out.alloc _) (by first | exact D6.out | exact D6.out.alloc _)).mono ?_; rintro e w7 ⟨rfl, hb7⟩; have B7 := Lib.hid (Bx.next (by first | exact B6.out | exact B6.out.alloc _) hb7); first | (have E7 := Lib.hid ((hb7.block _ (Rw.lt_of_get E6.out)).trans E6.out); have hy7 := hy6; have hk := Rw.keep2 E7.out; have y0 := hk.1.1; have y1 := hk.1.2; have y2 := hk.2.1; have y3 := hk.2.2; clear hk) | (have E7 := Lib.hid ((hb7.block w6.heap.size (by simp)).trans (heap_alloc_new w6 (.cells #[.string ⟨#[]⟩, .int .i64 0] 33))); have hy7 := B6.out.lt; have hk := Rw.keep2 E7.out; have y0 := hk.1.1; have y1 := hk.1.2; have y2 := hk.2.1; have y3 := hk.2.2; clear hk) | skip)
      | (go_at_call 29; have tok := S5; refine (TD.out _ (by first | exact B5.out | exact B5.out.alloc _)).mono ?_; rintro e w6 ⟨⟨v6, rfl, d6⟩, hb6⟩; have B6 := Lib.hid (Bx.next (by first | exact B5.out | exact B5.out.alloc _) hb6); have S6 := Lib.hid (SX.next (by first | exact S5.out | exact S5.out.alloc _) hb6); have D6 := Lib.hid (DX.of d6); first | (have E6 := Lib.hid ((hb6.block _ (Rw.lt_of_get E5.out)).trans E5.out); have hy6 := hy5; have hk := Rw.keep2 E6.out; have y0 := hk.1.1; have y1 := hk.1.2; have y2 := hk.2.1; have y3 := hk.2.2; clear hk) | (have E6 := Lib.hid ((hb6.block w5.heap.size (by simp)).trans (heap_alloc_new w5 (.cells #[.string ⟨#[]⟩, .int .i64 0] 33))); have hy6 := B5.out.lt; have hk := Rw.keep2 E6.out; have y0 := hk.1.1; have y1 := hk.1.2; have y2 := hk.2.1; have y3 := hk.2.2; clear hk) | skip)
      | (go_at_call 28; have tok := D5; refine (TS.out _ (by first | exact B5.out | exact B5.out.alloc _)).mono ?_; rintro e w6 ⟨⟨a6, rfl, d6⟩, hb6⟩; have B6 := Lib.hid (Bx.next (by first | exact B5.out | exact B5.out.alloc _) hb6); have D6 := Lib.hid (DX.next (by first | exact D5.out | exact D5.out.alloc _) hb6); have S6 := Lib.hid (SX.of d6); first | (have E6 := Lib.hid ((hb6.block _ (Rw.lt_of_get E5.out)).trans E5.out); have hy6 := hy5; have hk := Rw.keep2 E6.out; have y0 := hk.1.1; have y1 := hk.1.2; have y2 := hk.2.1; have y3 := hk.2.2; clear hk) | (have E6 := Lib.hid ((hb6.block w5.heap.size (by simp)).trans (heap_alloc_new w5 (.cells #[.string ⟨#[]⟩, .int .i64 0] 33))); have hy6 := B5.out.lt; have hk := Rw.keep2 E6.out; have y0 := hk.1.1; have y1 := hk.1.2; have y2 := hk.2.1; have y3 := hk.2.2; clear hk) | skip)
      | (go_at_call 28; refine (TS.out _ (by first | exact BXd.out | exact BXa.out)).mono ?_; rintro e w5 ⟨⟨a5, rfl, d5⟩, hb5⟩; have B5 := Lib.hid (Bx.next (by first | exact BXd.out | exact BXa.out) hb5); have S5 := Lib.hid (SX.of d5); first | (have E5 := Lib.hid ((hb5.block _ (Rw.lt_of_get HDA.out)).trans HDA.out); have hy5 := hl2; have hk := Rw.keep2 E5.out; have y0 := hk.1.1; have y1 := hk.1.2; have y2 := hk.2.1; have y3 := hk.2.2; clear hk) | skip)
      | (go_at_call 29; refine (TD.out _ (by first | exact BXd.out | exact BXa.out)).mono ?_; rintro e w5 ⟨⟨v5, rfl, d5⟩, hb5⟩; have B5 := Lib.hid (Bx.next (by first | exact BXd.out | exact BXa.out) hb5); have D5 := Lib.hid (DX.of d5); first | (have E5 := Lib.hid ((hb5.block _ (Rw.lt_of_get HDA.out)).trans HDA.out); have hy5 := hl2; have hk := Rw.keep2 E5.out; have y0 := hk.1.1; have y1 := hk.1.2; have y2 := hk.2.1; have y3 := hk.2.2; clear hk) | skip))
    all_goals
      go_wp2_with fail
      go_meet
      first
        | exact ⟨w7.heap.size, rfl, B7.out.lt, heap_alloc_new w7 _, B7.out.alloc _⟩
        | exact ⟨_, rfl, hy7, putL2_block E7.out _ _, B7.out.put hy7 _ _⟩
  case rest =>
    obtain ⟨yb, rfl, hyb, hy, hbx⟩ := hcut
    have B8 := Lib.hid hbx
    have Y8 := Lib.hid hy
    have ⟨c0, c1, c2⟩ := B8.out.cells
    clear hbx hy BXa HDA BXd
    go_wp2_with fail
    refine (TS.out _ B8.out).mono ?_
    rintro e w9 ⟨⟨a9, rfl, d9⟩, hb9⟩
    have S9 := Lib.hid ((SX.of d9).alloc (.cells #[.slice a9 x0.length x0.length] 25))
    have B9 := Lib.hid ((B8.out.next hb9).alloc (.cells #[.slice a9 x0.length x0.length] 25))
    have Y9 := Lib.hid ((blk2 ((hb9.block yb (Rw.lt_of_get Y8.out)).trans Y8.out) (.cells #[.slice a9 x0.length x0.length] 25) (.cells #[.slice a9 x0.length x0.length] 25)).1)
    have X9 := Lib.hid (heap_alloc_new w9 (.cells #[.slice a9 x0.length x0.length] 25))
    have HX9 : Hid (yb < w9.heap.size) := Lib.hid (Nat.lt_of_lt_of_le (Rw.lt_of_get Y8.out) hb9.size)
    clear hb9 d9 c0 c1 c2
    have ⟨c0, c1, c2⟩ := B9.out.cells
    go_wp2_with fail
    refine (TD.out _ B9.out).mono ?_
    rintro e w10 ⟨⟨v10, rfl, d10⟩, hb10⟩
    have D10 := Lib.hid ((DX.of d10))
    obtain ⟨qa, qca, qb, qcb, rfl, _, _, _⟩ := d10
    have S10 := Lib.hid ((S9.out.next hb10).alloc (.cells #[.slice qa x1.sels.len qca, .slice qb x1.frags.length qcb] 29))
    have B10 := Lib.hid ((B9.out.next hb10).alloc (.cells #[.slice qa x1.sels.len qca, .slice qb x1.frags.length qcb] 29))
    have D10a := Lib.hid (D10.out.alloc (.cells #[.slice qa x1.sels.len qca, .slice qb x1.frags.length qcb] 29))
    have Y10 := Lib.hid ((blk2 ((hb10.block yb (Rw.lt_of_get Y9.out)).trans Y9.out) (.cells #[.slice qa x1.sels.len qca, .slice qb x1.frags.length qcb] 29) (.cells #[.slice qa x1.sels.len qca, .slice qb x1.frags.length qcb] 29)).1)
    have X10 := Lib.hid ((blk2 ((hb10.block w9.heap.size (Rw.lt_of_get X9.out)).trans X9.out) (.cells #[.slice qa x1.sels.len qca, .slice qb x1.frags.length qcb] 29) (.cells #[.slice qa x1.sels.len qca, .slice qb x1.frags.length qcb] 29)).1)
    have Z10 := Lib.hid (heap_alloc_new w10 (.cells #[.slice qa x1.sels.len qca, .slice qb x1.frags.length qcb] 29))
    clear hb10 c0 c1 c2
    have ⟨e0, _⟩ := Rw.keep1 X10.out
    have C11 := Lib.hid (CI.out _ _ _ S10.out D10a.out (HG.out.below B10.out.bel))
    go_wp2_with fail
    refine C11.out.mono ?_
    rintro e w11 ⟨rfl, hb11⟩
    have S11 := Lib.hid ((S10.out.next hb11))
    have D11 := Lib.hid ((D10a.out.next hb11))
    have B11 := Lib.hid ((B10.out.next hb11))
    have Y11 := Lib.hid ((hb11.block yb (Rw.lt_of_get Y10.out)).trans Y10.out)
    have X11 := Lib.hid ((hb11.block w9.heap.size (Rw.lt_of_get X10.out)).trans X10.out)
    have Z11 := Lib.hid ((hb11.block w10.heap.size (Rw.lt_of_get Z10.out)).trans Z10.out)
    clear hb11 e0 C11
    have ⟨⟨y0, y1⟩, _⟩ := Rw.keep2 (blk2 Y11.out (.cells #[.string zt, .int .i64 zc] 33) (.cells #[.string zt, .int .i64 zc] 33)).1
    go_wp2_with fail
    refine (eqV zt zc _).mono ?_
    rintro e w12 ⟨rfl, hb12⟩
    have S12 := Lib.hid ((S11.out.alloc _).next hb12)
    have D12 := Lib.hid ((D11.out.alloc _).next hb12)
    have B12 := Lib.hid ((B11.out.alloc _).next hb12)
    have X12 := Lib.hid ((hb12.block w9.heap.size (by have := Rw.lt_of_get X11.out; simp; omega)).trans (blk2 X11.out (.cells #[.string zt, .int .i64 zc] 33) (.cells #[.string zt, .int .i64 zc] 33)).1)
    have Z12 := Lib.hid ((hb12.block w10.heap.size (by have := Rw.lt_of_get Z11.out; simp; omega)).trans (blk2 Z11.out (.cells #[.string zt, .int .i64 zc] 33) (.cells #[.string zt, .int .i64 zc] 33)).1)
    have B12d := Lib.hid B12.out.drew
    have S12d := Lib.hid S12.out.drew
    have X12d : Hid (w12.drew.heap[w9.heap.size]? = some (.cells #[.slice a9 x0.length x0.length] 25 (0, 0))) := Lib.hid X12.out
    have ⟨x0c, _⟩ := Rw.keep1 X12d.out
    have ⟨c0, c1, c2⟩ := B12d.out.cells
    clear y0 y1 hb12
    go_upto_region 14 with fail
    go_cut [40] from 36 to 40 (fun v wx => v = .bool false ∧ Below w12.heap.size w12 wx)
    case first =>
      go_region_with (first
        | (go_at_call 31; refine (Rw.eqSchema _ 0 _ _ _ x0 T13.out S13.out (Nat.le_refl _)).mono ?_; rintro e w14 ⟨rfl, hb14⟩)
        | (go_at_call 28; refine (TS.out _ B12d.out).mono ?_; rintro e w13 ⟨⟨a13, rfl, d13⟩, hb13⟩; have S13 := Lib.hid (SX.of d13); have T13 := Lib.hid (S12d.out.next hb13); have HB13 := Lib.hid ((Below.refl w12.heap.size w12).drew.trans hb13); have x13c := (Rw.keep1 ((hb13.block w9.heap.size (Rw.lt_of_get X12d.out)).trans X12d.out)).1))
      all_goals
        go_wp2_with fail
        go_meet
        exact ⟨rfl, HB13.out.trans (hb14.mono HB13.out.size)⟩
    case rest =>
      obtain ⟨rfl, hbr⟩ := hcut
      have B15 := Lib.hid (B12.out.next hbr)
      have D15 := Lib.hid (D12.out.next hbr)
      have Z15 := Lib.hid ((hbr.block w10.heap.size (Rw.lt_of_get Z12.out)).trans Z12.out)
      have B15d := Lib.hid B15.out.drew
      have D15d := Lib.hid D15.out.drew
      have Z15d : Hid (wc.drew.heap[w10.heap.size]? = some (.cells #[.slice qa x1.sels.len qca, .slice qb x1.frags.length qcb] 29 (0, 0))) := Lib.hid Z15.out
      clear c0 c1 c2 x0c
      have ⟨⟨z0, z1⟩, _⟩ := Rw.keep2 Z15d.out
      have ⟨c0, c1, c2⟩ := B15d.out.cells
      clear hbr
      go_wp2_with fail
      go_region_with (first
        | (go_at_call 32; refine (eqDoc _ 0 _ _ _ x1 T13.out D13.out (Nat.le_refl _)).mono ?_; rintro e w14 ⟨rfl, hb14⟩)
        | (go_at_call 29; refine (TD.out _ B15d.out).mono ?_; rintro e w13 ⟨⟨v13, rfl, d13⟩, hb13⟩; have D13 := Lib.hid (DX.of d13); have T13 := Lib.hid (D15d.out.next hb13); have B13 := Lib.hid (B15d.out.next hb13); have q13 := Rw.keep2 ((hb13.block w10.heap.size (Rw.lt_of_get Z15d.out)).trans Z15d.out); have z13 := q13.1.1; have z14 := q13.1.2))
      all_goals
        have BF := Lib.hid (B13.out.next hb14).bel
        clear hb13 hb14
        go_wp2_with fail
        go_ret
        exact ⟨rfl, BF.out⟩
end Go.Proofs.YtceabbbmgfeofaaGreatDoor.fnExactValidate
