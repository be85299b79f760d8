/-
  For every three numbers, laws.FnExactPurseNew answers true: impl.PurseNew and spec.PurseNew answer alike in every field. Conditions: none beyond the row's own.
-/
import Derived.Test.YtlbjnblbjbdaaaaRows
import Derived.WalkKit
import Derived.ProofKit
import Derived.OpenShut
import Derived.ShutString
import Derived.ChangeOld
import Derived.Below
import Derived.Test.YtlbjnblbjbdaaaaPurN
namespace Go.Proofs.Ytlbjnblbjbdaaaa.fnExactPurseNew
open Go.ChangeShapes Go.WideShapes Go.ChangeAt Go.RowKit
open Go.ChangeMaps (open_string shut_string)
open Bnd Pur Rw
set_option linter.unusedVariables false

theorem own : ownKnob Try.prog.godebug = none := by kernel_rfl
theorem laidOut : laidOutB Try.prog = true := by kernel_rfl

set_option maxRecDepth 100000 in
set_option maxHeartbeats 4000000 in
theorem walk (a0 : Int) (a1 : Int) (a2 : Int) (w : World) (w0 : (Lit.int .i64 a0).wf = true) (w1 : (Lit.int .i64 a1).wf = true) (w2 : (Lit.int .i64 a2).wf = true) :
    Calls Try.prog 4 #[.int .i64 a0, .int .i64 a1, .int .i64 a2] w fun e w' => e = .returned (.bool true) ∧ Below w.heap.size w w' := by
  have CS0 := Lib.hid fun w => specPurseNew w a0 a1 a2 (bounds_i64 w0) (bounds_i64 w1) (bounds_i64 w2)
  have CI0 := Lib.hid fun w => implPurseNew w a0 a1 a2 (bounds_i64 w0) (bounds_i64 w1) (bounds_i64 w2)
  have CE0 := Lib.hid fun w => eqPurseOut w (newO a0 a1 a2)
  generalize newO a0 a1 a2 = T at *
  obtain ⟨⟨r, b, l, t⟩, y, k⟩ := T
  simp only [PO.val] at *
  clear w0 w1 w2
  go_enter Try.func4, Try.ntmps4
  go_wp2_with fail
  refine (CS0.out _).mono ?_
  rintro e w3 ⟨rfl, hb3⟩
  have k3 := heap_alloc_new w3 (.cells #[.int .i64 r, .int .i64 b, .int .i64 l, .int .i64 t, .bool y, .int .i64 k] 29)
  have HB3 : Hid (Below w.heap.size w (w3.alloc (.cells #[.int .i64 r, .int .i64 b, .int .i64 l, .int .i64 t, .bool y, .int .i64 k] 29))) := Lib.hid (hb3.alloc hb3.size _)
  have HK3 := Lib.hid k3
  clear hb3 k3
  go_wp2_with fail
  refine (CI0.out _).mono ?_
  rintro e w4 ⟨rfl, hb4⟩
  have HB4 := Lib.hid (HB3.out.trans (hb4.mono HB3.out.size))
  have HK4 := Lib.hid ((hb4.block _ (lt_of_get HK3.out)).trans HK3.out)
  have HL4 := Lib.hid (lt_of_get HK4.out)
  have HB5 : Hid (Below w.heap.size w (w4.alloc (.cells #[.int .i64 r, .int .i64 b, .int .i64 l, .int .i64 t, .bool y, .int .i64 k] 29))) := Lib.hid (HB4.out.alloc HB4.out.size _)
  have HK5 : Hid ((w4.alloc (.cells #[.int .i64 r, .int .i64 b, .int .i64 l, .int .i64 t, .bool y, .int .i64 k] 29)).heap[w3.heap.size]? = some (.cells #[.int .i64 r, .int .i64 b, .int .i64 l, .int .i64 t, .bool y, .int .i64 k] 29 (0, 0))) := Lib.hid ((Go.Deep.blk_alloc_lt _ _ _ HL4.out).trans HK4.out)
  clear hb4
  have ⟨⟨c0, c1, c2, c3, c4, c5⟩, _⟩ := keep6 HK4.out
  have hl4 := HL4.out
  go_wp2_with fail
  refine (CE0.out _).mono ?_
  rintro e w6 ⟨rfl, hb6⟩
  have HB6 := Lib.hid (HB5.out.trans (hb6.mono HB5.out.size))
  clear hb6 hl4
  go_wp2_with fail
  go_ret
  exact ⟨rfl, HB6.out⟩

set_option maxRecDepth 100000 in
theorem lifted (os : Os) (started : os.Started) (H : Type) (enc : TypeId × Value → H) :
    ReturnsInHanded {} Try.checked os 4 .any (Rows.fnExactPurseNewSpec.pre6 enc Try.prog Try.f4 Rows.fnExactPurseNewRow.domain false) (Rows.fnExactPurseNewSpec.post enc Try.prog Try.f4 false true false false) := by
  refine returnsInHanded_of_change (C := Try.checked) own started (by kernel_rfl) Try.func4
    (ChangeSpec.witness6 (enc := enc) (C := Try.checked) false ⟨#[], #[.int .i64 0, .int .i64 0, .int .i64 0], []⟩ 8 (by kernel_rfl) (by kernel_rfl) (by kernel_rfl) (by kernel_rfl)) ?_
  intro W base args ds gs before hval0 hW hcnd _
  have hval : ∀ (j : Nat) t v, Try.f4.params[j]? = some t → args[j]? = some v → Value.okWide Try.prog W .any base t v := hval0
  have hW' := hW
  obtain ⟨p, q, hA0, hV, rfl, hfz, hnd⟩ := hW
  have hA : DataW.TrodAll enc Try.prog W 0 (fun _ => true) true Try.f4.params.toList args.toList ds p := hA0
  rw [Try.params4] at hA hval
  obtain ⟨v0, vs0, d0, ds0, p0, q0, hargs, rfl, rfl, h0, r0⟩ := trodAll_cons hA
  obtain ⟨v1, vs1, d1, ds1, p1, q1, rfl, rfl, rfl, h1, r1⟩ := trodAll_cons r0
  obtain ⟨v2, vs2, d2, ds2, p2, q2, rfl, rfl, rfl, h2, r2⟩ := trodAll_cons r1
  obtain ⟨rfl, rfl, rfl⟩ := trodAll_nil r2
  obtain rfl : args = #[v0, v1, v2] := by cases args; simp_all
  obtain ⟨rfl, rfl⟩ := trodVars_none hV
  have k0 := h0
  have lt0 : ∀ x ∈ p0, x.block < W.heap.size := by obtain ⟨m, hm⟩ := k0; exact DataW.trod_lt m _ _ _ hm
  have k1 := h1
  have lt1 : ∀ x ∈ p1, x.block < W.heap.size := by obtain ⟨m, hm⟩ := k1; exact DataW.trod_lt m _ _ _ hm
  have k2 := h2
  have lt2 : ∀ x ∈ p2, x.block < W.heap.size := by obtain ⟨m, hm⟩ := k2; exact DataW.trod_lt m _ _ _ hm
  obtain ⟨a0, rfl, _, _, w0⟩ := open_int Try.underlying2 (hval 0 2 v0 rfl rfl) h0
  obtain ⟨a1, rfl, _, _, w1⟩ := open_int Try.underlying2 (hval 1 2 v1 rfl rfl) h1
  obtain ⟨a2, rfl, _, _, w2⟩ := open_int Try.underlying2 (hval 2 2 v2 rfl rfl) h2
  clear hA0 hval0
  refine (walk a0 a1 a2 W w0 w1 w2).mono fun e W' ⟨he, bel⟩ => ?_
  subst he
  exact ⟨_, rfl, _, _, _, [], _, [], hW', trodAll_mk1 (shut_bool Try.underlying4 _), (trodAll_cons_mk (Below.trod laidOut (by kernel_rfl) (of_decide_eq_true (by kernel_rfl)) k0 bel lt0) (trodAll_cons_mk (Below.trod laidOut (by kernel_rfl) (of_decide_eq_true (by kernel_rfl)) k1 bel lt1) (trodAll_cons_mk (Below.trod laidOut (by kernel_rfl) (of_decide_eq_true (by kernel_rfl)) k2 bel lt2) trodAll_mk0))), rfl, bel.frame _, fun h => by cases h⟩

theorem over : Rows.fnExactPurseNewRow.holds Try.pinned (OpenSpec.ofChange Rows.fnExactPurseNewSpec) :=
  OpenClaim.holds_of_wide 4 Try.f4 rfl rfl rfl rfl rfl rfl rfl ⟨rfl, rfl, rfl, rfl, rfl⟩ rfl rfl rfl rfl rfl (by kernel_rfl) Try.func4 (by kernel_rfl)
    (of_decide_eq_true (by kernel_rfl)) (by unfold Func.isWrapper; first | (rw [if_pos (by decide +kernel)]; kernel_rfl) | (rw [if_neg (by decide +kernel)]; exact ⟨rfl, rfl⟩))
    (fun os started H enc _ => lifted os started H enc)

/-- The given statement. -/
theorem proved : Rows.FnExactPurseNewSaid := over
#print axioms proved
end Go.Proofs.Ytlbjnblbjbdaaaa.fnExactPurseNew
