/-
  For every Doc, laws.FnExactLoops answers true: impl.Loops and spec.Loops answer alike, and the Doc stays as it was. Conditions: none beyond the row's own.
-/
import Derived.Test.YthdncjdopejkkaaDoorCards
import Derived.Test.YthdncjdopejkkaaDoorTie
import Derived.Test.YthdncjdopejkkaaDoorDoorW
import Derived.Test.YthdncjdopejkkaaDoorOpen
import Derived.Test.YthdncjdopejkkaaDoorSz
import Derived.Test.YthdncjdopejkkaaDoorEqDoc
import Derived.Test.YthdncjdopejkkaaDoorToDoc
import Derived.Test.YthdncjdopejkkaaDoorLoops
import Derived.Test.YthdncjdopejkkaaDoorLoopS
import Derived.SevenTiedAt
namespace Go.Proofs.YthdncjdopejkkaaDoor.fnExactLoops
open Go.ChangeShapes Go.WideShapes Go.ChangeAt Go.RowKit Doors
open Go.ChangeMaps (open_string shut_string)
open Selss
set_option linter.unusedVariables false

set_option maxRecDepth 100000 in
set_option maxHeartbeats 1000000 in
/-- The walk. -/
theorem walk (v0 : Value) (x0 : Selss.DocP) (w : World) (w0 : Selss.DocAt w 0 w.heap.size v0 x0) (h0 : ErrW.ErrVar w) :
    Calls Tryd.prog 3 #[v0] w fun e w' => e = .returned (.bool true) ∧ Below w.heap.size w w' := by
  have HG := Lib.hid h0
  clear h0
  have HS := Lib.hid w0
  obtain ⟨a, ca, b, cb, rfl, _, _⟩ := w0
  have HA : Hid (∀ o, Below w.heap.size w (w.alloc o)) := Lib.hid fun o => (Below.refl _ _).alloc (Nat.le_refl _) o
  by_cases hbig : 1048576 < x0.wt
  · have e1 : Selss.leftOf 1048576 x0.wt = -1 := if_neg (by omega)
    go_enter Tryd.func3, Tryd.ntmps3
    go_wp2_with fail
    refine (szDoc _ 0 w.heap.size _ x0 1048576 (HS.out.below (Nat.le_refl _) (HA.out _)) (HA.out _).size (by omega) (by omega)).mono ?_
    rintro e w1 ⟨rfl, hb1⟩
    rw [e1]
    have HB1 := Lib.hid ((HA.out _).trans (hb1.mono (HA.out _).size))
    clear hb1 hbig e1
    go_wp2_with fail
    go_ret
    exact ⟨rfl, HB1.out⟩
  have hwt : x0.wt ≤ 1048576 := by omega
  have hm0 : 0 ≤ Selss.leftOf 1048576 x0.wt := by unfold Selss.leftOf; rw [if_pos (by omega)]; omega
  clear hbig
  go_enter Tryd.func3, Tryd.ntmps3
  go_wp2_with fail
  refine (szDoc _ 0 w.heap.size _ x0 1048576 (HS.out.below (Nat.le_refl _) (HA.out _)) (HA.out _).size (by omega) (by omega)).mono ?_
  rintro e w1 ⟨rfl, hb1⟩
  generalize Selss.leftOf 1048576 x0.wt = m at hm0 ⊢
  obtain ⟨B1, z1, k1, j1⟩ := Selss.kstep (HA.out _) (by simp) (by simp; rfl) (by simp; rfl) hb1
  have HB1 := Lib.hid B1
  clear hb1 B1
  go_wp2_with fail
  refine (toDoc _ 0 w.heap.size _ x0 (HS.out.below (Nat.le_refl _) HB1.out) HB1.out.size hwt).mono ?_
  rintro e w2 ⟨⟨v2, rfl, d2⟩, hb2⟩
  obtain ⟨B2, z2, k2, j2⟩ := Selss.kstep HB1.out z1 k1 j1 hb2
  have HB2 := Lib.hid B2
  have D2 := Lib.hid d2
  clear hb2 B2 d2 k1 j1
  go_wp2_with fail
  refine (specLoops _ _ _ v2 x0 D2.out (Nat.le_refl _)).mono ?_
  rintro e w3 ⟨rfl, hb3⟩
  obtain ⟨B3, z3, k3, j3⟩ := Selss.kstep HB2.out z2 k2 j2 hb3
  have HB3 := Lib.hid B3
  clear hb3 B3 k2 j2
  go_wp2_with fail
  refine (toDoc _ 0 w.heap.size _ x0 (HS.out.below (Nat.le_refl _) HB3.out) HB3.out.size hwt).mono ?_
  rintro e w4 ⟨⟨v4, rfl, d4⟩, hb4⟩
  obtain ⟨B4, z4, k4, j4⟩ := Selss.kstep HB3.out z3 k3 j3 hb4
  have HB4 := Lib.hid B4
  have D4 := Lib.hid d4
  obtain ⟨c, cc, e4, ce, rfl, _, _⟩ := d4
  clear hb4 B4 k3 j3
  go_wp2_with fail
  have HX : ∀ o, Below w4.heap.size w4 (w4.alloc o) := fun o => (Below.refl _ _).alloc (Nat.le_refl _) o
  refine (implLoops _ _ _ _ x0 (D4.out.below (Nat.le_refl _) (HX _)) (HX _).size (HG.out.below (HB4.out.trans ((HX _).mono HB4.out.size)))).mono ?_
  rintro e w5 ⟨rfl, hb5⟩
  have HX5 := (HX _).trans (hb5.mono (HX _).size)
  have g0 := hb5.cell (p := ⟨w4.heap.size, 0, none⟩) (by simp)
  have g1 := hb5.cell (p := ⟨w4.heap.size, 1, none⟩) (by simp)
  simp at g0 g1
  have hg5 : w4.heap.size < w5.heap.size := by have := hb5.size; simp at this; omega
  obtain ⟨B5, z5, k5, j5⟩ := Selss.kstep HB4.out z4 k4 j4 HX5
  have HB5 := Lib.hid B5
  have D45 := Lib.hid ((D4.out.below (Nat.le_refl _) HX5).wide (Nat.zero_le _) HX5.size)
  clear hb5 HX5 B5 k4 j4
  go_wp2_with fail
  have HB5d := Lib.hid HB5.out.drew
  have D45d := Lib.hid (D45.out.below (Nat.le_refl _) ((Below.refl _ w5).drew))
  have k5d : w5.drew.cell? ⟨w.heap.size, 0, none⟩ = _ := k5
  have j5d : w5.drew.cell? ⟨w.heap.size, 1, none⟩ = _ := j5
  have g0d : w5.drew.cell? ⟨w4.heap.size, 0, none⟩ = _ := g0
  have g1d : w5.drew.cell? ⟨w4.heap.size, 1, none⟩ = _ := g1
  have hg5d : w4.heap.size < w5.drew.heap.size := hg5
  go_region_with (first
    | (go_at_call 7; refine (toDoc _ 0 w.heap.size _ x0 (HS.out.below (Nat.le_refl _) HB5d.out) HB5d.out.size hwt).mono ?_; rintro e w6 ⟨⟨v6, rfl, d6⟩, hb6⟩; have g06 := kcell hb6 hg5d g0d; have g16 := kcell hb6 hg5d g1d)
    | (go_at_call 9; refine (eqDoc _ 0 _ _ _ x0 ((D45d.out.below (Nat.le_refl _) hb6).wide (Nat.le_refl _) hb6.size) (d6.wide (Nat.zero_le _) (Nat.le_refl _)) (Nat.le_refl _)).mono ?_; rintro e w7 ⟨rfl, hb7⟩))
  all_goals
    have HB6 := HB5d.out.trans (hb6.mono HB5d.out.size)
    have HB7 := Lib.hid (HB6.trans (hb7.mono HB6.size))
    clear hb6 hb7 HB6
    go_wp2_with fail
    go_ret
    exact ⟨rfl, HB7.out⟩

set_option maxRecDepth 100000 in
theorem reads (os : Os) {H : Type} (enc : TypeId × Value → H) : ∃ places, DataW.whole enc Tryd.prog ((laidWorld os).forCall (fun _ _ => 0) ⟨#[], #[.agg #[.slice none 0 0, .slice none 0 0]], []⟩).memory Tryd.f3.params.toList Rows.fnExactLoopsSpec.vars false #[.agg #[.slice none 0 0, .slice none 0 0]].toList 8 = some ([.agg [.nil, .nil]], [], places) :=
  ⟨[], by kernel_rfl⟩
set_option maxRecDepth 100000 in
theorem contract (H : Type) (enc : TypeId × Value → H) (W : World) (base : Nat) (args : Array Value) (ds gs : List (DataW H)) (before : List MemPlace)
    (hval0 : ∀ (j : Nat) t v, Tryd.f3.params[j]? = some t → args[j]? = some v → Value.okWide Tryd.prog W .any base t v)
    (hW : DataW.Whole enc Tryd.prog Tryd.f3.params.toList Rows.fnExactLoopsSpec.vars false W args.toList ds gs before) (hL : laidMetH Tryd.prog Rows.fnExactLoopsRow.laid W) (hSh : W.ShapedOpen Tryd.prog) :
    Calls Tryd.prog 3 args W fun e W' => ∃ v, e = .returned v ∧ Rows.fnExactLoopsSpec.post enc Tryd.prog Tryd.f3 false true false false W args v W' := by
  have hval : ∀ (j : Nat) t v, Tryd.f3.params[j]? = some t → args[j]? = some v → Value.okWide Tryd.prog W .any base t v := hval0
  have hW' := hW
  obtain ⟨p, q, hA0, hV, rfl, hfz, hnd⟩ := hW
  have hA : DataW.TrodAll enc Tryd.prog W 0 (fun _ => true) true Tryd.f3.params.toList args.toList ds p := hA0
  rw [Tryd.params3] at hA hval
  obtain ⟨v0, vs0, d0, ds0, p0, q0, hargs, rfl, rfl, h0, r0⟩ := trodAll_cons hA
  obtain ⟨rfl, rfl, rfl⟩ := trodAll_nil r0
  obtain rfl : args = #[v0] := by cases args; simp_all
  obtain ⟨rfl, rfl⟩ := trodVars_none hV
  have k0 := h0
  have lt0 : ∀ x ∈ p0, x.block < W.heap.size := by obtain ⟨m, hm⟩ := k0; exact DataW.trod_lt m _ _ _ hm
  obtain ⟨x0, w0⟩ := Selss.openDoc (hval 0 25 v0 rfl rfl) h0
  clear hA0 hval0
  refine (walk v0 x0 W w0 (Doors.errVar hL)).mono fun e W' ⟨he, bel⟩ => ?_
  subst he
  exact ⟨_, rfl, _, _, _, [], _, [], hW', trodAll_mk1 (shut_bool Tryd.underlying4 _), (trodAll_cons_mk (Below.trod laidOut (by kernel_rfl) (of_decide_eq_true (by kernel_rfl)) k0 bel lt0) trodAll_mk0), rfl, bel.frame _, fun h => by cases h⟩

set_option maxRecDepth 100000 in
theorem lifted (os : Os) (started : os.Started) (H : Type) (enc : TypeId × Value → H) (F : Stop.Interp) :
    ReturnsInHanded {} Tryd.checked os 3 .any ((OpenSpec.ofChange Rows.fnExactLoopsSpec).preRow enc Tryd.prog Tryd.f3 Rows.fnExactLoopsRow.domain false Rows.fnExactLoopsRow.laid) (((OpenSpec.ofChange Rows.fnExactLoopsSpec).at F).post enc Tryd.prog Tryd.f3 false true false false) := by
  obtain ⟨places, hx⟩ := reads os enc
  refine returnsInHanded_of_row (C := Tryd.checked) (s := OpenSpec.ofChange Rows.fnExactLoopsSpec) own started (by kernel_rfl) Tryd.func3
    (witness_row_at (enc := enc) (C := Tryd.checked) false (laidWorld os) #[.agg #[.slice none 0 0, .slice none 0 0]] rfl (by kernel_rfl) (by kernel_rfl) (by kernel_rfl)
      (OpenSpec.preRow_of_cond 8 hx (by kernel_rfl) (fun k hk => by cases hk) (by kernel_rfl) (laid_met os _))) ?_
  intro W base args ds gs before hval hW _ _ _ hL hSh _
  exact contract H enc W base args ds gs before hval hW hL hSh

theorem said : Rows.FnExactLoopsSaid :=
  OpenClaim.holds_of_cond 3 Tryd.f3 rfl rfl rfl rfl rfl rfl rfl ⟨rfl, rfl, rfl, rfl, rfl⟩ rfl rfl rfl rfl rfl (by kernel_rfl) Tryd.func3 (by kernel_rfl)
    (of_decide_eq_true (by kernel_rfl)) (by unfold Func.isWrapper; first | (rw [if_pos (by decide +kernel)]; kernel_rfl) | (rw [if_neg (by decide +kernel)]; exact ⟨rfl, rfl⟩))
    (fun os started H enc _ F => by rw [OpenClaim.pre_eq_preRow]; exact lifted os started H enc F)

theorem plain (f : FuncId) (fn : Func) (hf : Tryd.pinned.checked.prog.funcNamed "loop.example/g00836/laws.FnExactLoops" = some f) (hfn : Tryd.pinned.checked.prog.funcs[f]? = some fn) :
    true = Tryd.pinned.checked.prog.looks [] ∧ ∀ (j : Nat) t, fn.params[j]? = some t → Tryd.pinned.checked.prog.wantsStandIn t = false := by
  obtain rfl : f = 3 := Option.some.inj ((show Tryd.prog.funcNamed "loop.example/g00836/laws.FnExactLoops" = some 3 by kernel_rfl).symm.trans hf) |>.symm
  obtain rfl : fn = Tryd.f3 := (Option.some.inj (Tryd.func3.symm.trans hfn)).symm
  refine ⟨by kernel_rfl, fun j t ht => ?_⟩
  rw [Tryd.params3] at ht
  have hm := Array.mem_of_getElem? ht
  simp only [List.mem_toArray, List.mem_cons, List.not_mem_nil, or_false] at hm
  subst hm
  · exact (show Tryd.prog.wantsStandIn 25 = false by kernel_rfl)

/-- The given statement. -/
theorem proved : Rows.FnExactLoopsCardSaid :=
  Claim7.holds_tied_plain_at .later [] _ _ _ _ said (fun _ h => by cases h) (by kernel_rfl) (fun _ h => by cases h) fnExactLoops_row_tie rfl ⟨rfl, rfl⟩ (by kernel_rfl) rfl plain (by kernel_rfl)
#print axioms proved
end Go.Proofs.YthdncjdopejkkaaDoor.fnExactLoops
