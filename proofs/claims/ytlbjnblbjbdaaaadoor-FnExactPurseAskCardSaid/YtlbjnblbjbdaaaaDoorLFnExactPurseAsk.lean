/-
  For every Purse, cost and time, laws.FnExactPurseAsk answers true: impl.PurseAsk and spec.PurseAsk answer alike in every field (the card, tied to the program's text). Conditions: none beyond the row's own.
-/
import Derived.Test.YtlbjnblbjbdaaaaDoorCards
import Derived.Test.YtlbjnblbjbdaaaaDoorTie
import Derived.Test.YtlbjnblbjbdaaaaDoorDoorP
import Derived.Test.YtlbjnblbjbdaaaaDoorPurK
import Derived.Test.YtlbjnblbjbdaaaaDoorPurL
import Derived.SevenTiedAt
namespace Go.Proofs.YtlbjnblbjbdaaaaDoor.fnExactPurseAsk
open Go.ChangeShapes Go.WideShapes Go.ChangeAt Go.RowKit Doors
open Go.ChangeMaps (open_string shut_string)
open Bnd Pur Rw
set_option linter.unusedVariables false

set_option maxRecDepth 100000 in
set_option maxHeartbeats 4000000 in
/-- The walk. -/
theorem walk (v0 : Value) (x0 : Bnd.BP) (a1 : Int) (a2 : Int) (w : World) (w0 : v0 = x0.val ∧ x0.ok) (w1 : (Lit.int .i64 a1).wf = true) (w2 : (Lit.int .i64 a2).wf = true) (h0 : Pur.ErrVar w) :
    Calls Tryd.prog 4 #[v0, .int .i64 a1, .int .i64 a2] w fun e w' => e = .returned (.bool true) ∧ Below w.heap.size w w' := by
  obtain ⟨rfl, hx⟩ := w0
  have CS0 := Lib.hid fun w => specPurseAsk w x0 hx a1 (bounds_i64 w1) a2 (bounds_i64 w2)
  have CI0 := Lib.hid fun w h => implPurseAsk w x0 hx a1 (bounds_i64 w1) a2 (bounds_i64 w2) h
  have CT0 := Lib.hid fun w => toPurse w x0 hx
  have CE0 := Lib.hid fun w => eqPurseOut w (askT x0 a1 a2)
  have HG := Lib.hid h0
  generalize askT x0 a1 a2 = T at *
  obtain ⟨⟨r, b, l, t⟩, y, k⟩ := T
  obtain ⟨r0, b0, l0, t0⟩ := x0
  simp only [PO.val, BP.val] at *
  clear hx w1 w2 h0
  have HA : Hid (∀ o1, Below w.heap.size w (w.alloc o1) ∧ (w.alloc o1).heap[w.heap.size]? = some o1) := Lib.hid fun o1 => ⟨(Below.refl _ _).alloc (Nat.le_refl _) o1, Go.Deep.blk_alloc_new _ _⟩
  go_enter Tryd.func4, Tryd.ntmps4
  go_wp2_with fail
  refine (CT0.out _).mono ?_
  rintro e w1 ⟨rfl, b1⟩
  go_wp2_with fail
  refine (CS0.out _).mono ?_
  rintro e w2 ⟨rfl, b2⟩
  have B2 : Hid (Below w.heap.size w w2 ∧ w2.heap[w.heap.size]? = some (.cells #[.int .i64 r0, .int .i64 b0, .int .i64 l0, .int .i64 t0] 39 (0, 0))) := Lib.hid (by
    obtain ⟨h1, h2⟩ := HA.out (.cells #[.int .i64 r0, .int .i64 b0, .int .i64 l0, .int .i64 t0] 39)
    have hl := lt_of_get h2
    have hl1 := Nat.lt_of_lt_of_le hl b1.size
    exact ⟨(h1.trans (b1.mono h1.size)).trans (b2.mono (Nat.le_trans h1.size b1.size)), (b2.block _ hl1).trans ((b1.block _ hl).trans h2)⟩)
  have hl2 : w.heap.size < w2.heap.size := lt_of_get B2.out.2
  have ⟨⟨p0, p1, p2, p3⟩, _⟩ := keep4 B2.out.2
  have HK2 : Hid ((w2.alloc (.cells #[.int .i64 r, .int .i64 b, .int .i64 l, .int .i64 t, .bool y, .int .i64 k] 28)).heap[w2.heap.size]? = some (.cells #[.int .i64 r, .int .i64 b, .int .i64 l, .int .i64 t, .bool y, .int .i64 k] 28 (0, 0))) := Lib.hid (heap_alloc_new w2 _)
  have HB3 : Hid (Below w.heap.size w (w2.alloc (.cells #[.int .i64 r, .int .i64 b, .int .i64 l, .int .i64 t, .bool y, .int .i64 k] 28))) := Lib.hid (B2.out.1.alloc B2.out.1.size _)
  clear b1 b2 HA
  go_wp2_with fail
  refine (CT0.out _).mono ?_
  rintro e w3 ⟨rfl, b3⟩
  have HB4 := Lib.hid (HB3.out.trans (b3.mono HB3.out.size))
  have HK3 := Lib.hid ((b3.block _ (lt_of_get HK2.out)).trans HK2.out)
  have HG4 := Lib.hid (HG.out.below HB4.out)
  clear b3
  go_wp2_with fail
  refine (CI0.out _ HG4.out).mono ?_
  rintro e w4 ⟨rfl, b4⟩
  have HB5 := Lib.hid (HB4.out.trans (b4.mono HB4.out.size))
  have HK4 := Lib.hid ((b4.block _ (lt_of_get HK3.out)).trans HK3.out)
  have hl4 : w2.heap.size < w4.heap.size := lt_of_get HK4.out
  have ⟨⟨c0, c1, c2, c3, c4, c5⟩, _⟩ := keep6 HK4.out
  have HB6 : Hid (Below w.heap.size w (w4.alloc (.cells #[.int .i64 r, .int .i64 b, .int .i64 l, .int .i64 t, .bool y, .int .i64 k] 28))) := Lib.hid (HB5.out.alloc HB5.out.size _)
  clear b4 p0 p1 p2 p3
  go_wp2_with fail
  refine (CE0.out _).mono ?_
  rintro e w6 ⟨rfl, hb6⟩
  have HB7 := Lib.hid (HB6.out.trans (hb6.mono HB6.out.size))
  clear hb6
  go_wp2_with fail
  go_ret
  exact ⟨rfl, HB7.out⟩

set_option maxRecDepth 100000 in
theorem reads (os : Os) {H : Type} (enc : TypeId × Value → H) : ∃ places, DataW.whole enc Tryd.prog ((laidWorld os).forCall (fun _ _ => 0) ⟨#[], #[.agg #[.int .i64 0, .int .i64 0, .int .i64 0, .int .i64 0], .int .i64 0, .int .i64 0], []⟩).memory Tryd.f4.params.toList Rows.fnExactPurseAskSpec.vars false #[.agg #[.int .i64 0, .int .i64 0, .int .i64 0, .int .i64 0], .int .i64 0, .int .i64 0].toList 8 = some ([.agg [.lit (.int .i64 0), .lit (.int .i64 0), .lit (.int .i64 0), .lit (.int .i64 0)], .lit (.int .i64 0), .lit (.int .i64 0)], [], places) :=
  ⟨[], by kernel_rfl⟩
set_option maxRecDepth 100000 in
theorem contract (H : Type) (enc : TypeId × Value → H) (W : World) (base : Nat) (args : Array Value) (ds gs : List (DataW H)) (before : List MemPlace)
    (hval0 : ∀ (j : Nat) t v, Tryd.f4.params[j]? = some t → args[j]? = some v → Value.okWide Tryd.prog W .any base t v)
    (hW : DataW.Whole enc Tryd.prog Tryd.f4.params.toList Rows.fnExactPurseAskSpec.vars false W args.toList ds gs before) (hL : laidMetH Tryd.prog Rows.fnExactPurseAskRow.laid W) (hSh : W.ShapedOpen Tryd.prog) :
    Calls Tryd.prog 4 args W fun e W' => ∃ v, e = .returned v ∧ Rows.fnExactPurseAskSpec.post enc Tryd.prog Tryd.f4 false true false false W args v W' := by
  have hval : ∀ (j : Nat) t v, Tryd.f4.params[j]? = some t → args[j]? = some v → Value.okWide Tryd.prog W .any base t v := hval0
  have hW' := hW
  obtain ⟨p, q, hA0, hV, rfl, hfz, hnd⟩ := hW
  have hA : DataW.TrodAll enc Tryd.prog W 0 (fun _ => true) true Tryd.f4.params.toList args.toList ds p := hA0
  rw [Tryd.params4] at hA hval
  obtain ⟨v0, vs0, d0, ds0, p0, q0, hargs, rfl, rfl, h0, r0⟩ := trodAll_cons hA
  obtain ⟨v1, vs1, d1, ds1, p1, q1, rfl, rfl, rfl, h1, r1⟩ := trodAll_cons r0
  obtain ⟨v2, vs2, d2, ds2, p2, q2, rfl, rfl, rfl, h2, r2⟩ := trodAll_cons r1
  obtain ⟨rfl, rfl, rfl⟩ := trodAll_nil r2
  obtain rfl : args = #[v0, v1, v2] := by cases args; simp_all
  obtain ⟨rfl, rfl⟩ := trodVars_none hV
  have k0 := h0
  have lt0 : ∀ x ∈ p0, x.block < W.heap.size := by obtain ⟨m, hm⟩ := k0; exact DataW.trod_lt m _ _ _ hm
  have k1 := h1
  have lt1 : ∀ x ∈ p1, x.block < W.heap.size := by obtain ⟨m, hm⟩ := k1; exact DataW.trod_lt m _ _ _ hm
  have k2 := h2
  have lt2 : ∀ x ∈ p2, x.block < W.heap.size := by obtain ⟨m, hm⟩ := k2; exact DataW.trod_lt m _ _ _ hm
  obtain ⟨x0, w0⟩ := Pur.openPurse (hval 0 39 v0 rfl rfl) h0
  obtain ⟨a1, rfl, _, _, w1⟩ := open_int Tryd.underlying2 (hval 1 2 v1 rfl rfl) h1
  obtain ⟨a2, rfl, _, _, w2⟩ := open_int Tryd.underlying2 (hval 2 2 v2 rfl rfl) h2
  clear hA0 hval0
  refine (walk v0 x0 a1 a2 W w0 w1 w2 (Doors.errVar hL)).mono fun e W' ⟨he, bel⟩ => ?_
  subst he
  exact ⟨_, rfl, _, _, _, [], _, [], hW', trodAll_mk1 (shut_bool Tryd.underlying4 _), (trodAll_cons_mk (Below.trod laidOut (by kernel_rfl) (of_decide_eq_true (by kernel_rfl)) k0 bel lt0) (trodAll_cons_mk (Below.trod laidOut (by kernel_rfl) (of_decide_eq_true (by kernel_rfl)) k1 bel lt1) (trodAll_cons_mk (Below.trod laidOut (by kernel_rfl) (of_decide_eq_true (by kernel_rfl)) k2 bel lt2) trodAll_mk0))), rfl, bel.frame _, fun h => by cases h⟩

set_option maxRecDepth 100000 in
theorem lifted (os : Os) (started : os.Started) (H : Type) (enc : TypeId × Value → H) (F : Stop.Interp) :
    ReturnsInHanded {} Tryd.checked os 4 .any ((OpenSpec.ofChange Rows.fnExactPurseAskSpec).preRow enc Tryd.prog Tryd.f4 Rows.fnExactPurseAskRow.domain false Rows.fnExactPurseAskRow.laid) (((OpenSpec.ofChange Rows.fnExactPurseAskSpec).at F).post enc Tryd.prog Tryd.f4 false true false false) := by
  obtain ⟨places, hx⟩ := reads os enc
  refine returnsInHanded_of_row (C := Tryd.checked) (s := OpenSpec.ofChange Rows.fnExactPurseAskSpec) own started (by kernel_rfl) Tryd.func4
    (witness_row_at (enc := enc) (C := Tryd.checked) false (laidWorld os) #[.agg #[.int .i64 0, .int .i64 0, .int .i64 0, .int .i64 0], .int .i64 0, .int .i64 0] rfl (by kernel_rfl) (by kernel_rfl) (by kernel_rfl)
      (OpenSpec.preRow_of_cond 8 hx (by kernel_rfl) (fun k hk => by cases hk) (by kernel_rfl) (laid_met os _))) ?_
  intro W base args ds gs before hval hW _ _ _ hL hSh _
  exact contract H enc W base args ds gs before hval hW hL hSh

theorem said : Rows.FnExactPurseAskSaid :=
  OpenClaim.holds_of_cond 4 Tryd.f4 rfl rfl rfl rfl rfl rfl rfl ⟨rfl, rfl, rfl, rfl, rfl⟩ rfl rfl rfl rfl rfl (by kernel_rfl) Tryd.func4 (by kernel_rfl)
    (of_decide_eq_true (by kernel_rfl)) (by unfold Func.isWrapper; first | (rw [if_pos (by decide +kernel)]; kernel_rfl) | (rw [if_neg (by decide +kernel)]; exact ⟨rfl, rfl⟩))
    (fun os started H enc _ F => by rw [OpenClaim.pre_eq_preRow]; exact lifted os started H enc F)

theorem plain (f : FuncId) (fn : Func) (hf : Tryd.pinned.checked.prog.funcNamed "loop.example/g00836/laws.FnExactPurseAsk" = some f) (hfn : Tryd.pinned.checked.prog.funcs[f]? = some fn) :
    true = Tryd.pinned.checked.prog.looks [] ∧ ∀ (j : Nat) t, fn.params[j]? = some t → Tryd.pinned.checked.prog.wantsStandIn t = false := by
  obtain rfl : f = 4 := Option.some.inj ((show Tryd.prog.funcNamed "loop.example/g00836/laws.FnExactPurseAsk" = some 4 by kernel_rfl).symm.trans hf) |>.symm
  obtain rfl : fn = Tryd.f4 := (Option.some.inj (Tryd.func4.symm.trans hfn)).symm
  refine ⟨by kernel_rfl, fun j t ht => ?_⟩
  rw [Tryd.params4] at ht
  have hm := Array.mem_of_getElem? ht
  simp only [List.mem_toArray, List.mem_cons, List.not_mem_nil, or_false] at hm
  rcases hm with rfl | rfl | rfl
  · exact (show Tryd.prog.wantsStandIn 39 = false by kernel_rfl)
  · exact (show Tryd.prog.wantsStandIn 2 = false by kernel_rfl)
  · exact (show Tryd.prog.wantsStandIn 2 = false by kernel_rfl)

/-- The given statement. -/
theorem proved : Rows.FnExactPurseAskCardSaid :=
  Claim7.holds_tied_plain_at .later [] _ _ _ _ said (fun _ h => by cases h) (by kernel_rfl) (fun _ h => by cases h) fnExactPurseAsk_row_tie rfl ⟨rfl, rfl⟩ (by kernel_rfl) rfl plain (by kernel_rfl)
#print axioms proved
end Go.Proofs.YtlbjnblbjbdaaaaDoor.fnExactPurseAsk
