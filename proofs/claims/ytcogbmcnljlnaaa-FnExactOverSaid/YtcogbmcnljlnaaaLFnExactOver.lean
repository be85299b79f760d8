/-
  For every two Bounds, laws.FnExactOver answers true: impl.Over and spec.Over answer alike. Conditions: none beyond the row's own.
-/
import Derived.Test.YtcogbmcnljlnaaaRows
import Derived.WalkKit
import Derived.ProofKit
import Derived.OpenShut
import Derived.ShutString
import Derived.ChangeOld
import Derived.Below
import Derived.Test.YtcogbmcnljlnaaaOver
namespace Go.Proofs.Ytcogbmcnljlnaaa.fnExactOver
open Go.ChangeShapes Go.WideShapes Go.ChangeAt Go.RowKit
open Go.ChangeMaps (open_string shut_string)
open Bnd
set_option linter.unusedVariables false

theorem own : ownKnob Try.prog.godebug = none := by kernel_rfl
theorem laidOut : laidOutB Try.prog = true := by kernel_rfl

set_option maxRecDepth 100000 in
set_option maxHeartbeats 4000000 in
theorem walk (v0 : Value) (x0 : Bnd.BP) (v1 : Value) (x1 : Bnd.BP) (w : World) (w0 : v0 = x0.val ∧ x0.ok) (w1 : v1 = x1.val ∧ x1.ok) :
    Calls Try.prog 6 #[v0, v1] w fun e w' => e = .returned (.bool true) ∧ Below w.heap.size w w' := by
  obtain ⟨rfl, hx⟩ := w0
  obtain ⟨rfl, hy⟩ := w1
  have CS0 := Lib.hid fun w => specOver w x0 x1 hx hy
  have CI0 := Lib.hid fun w => implOver w x0 x1 hx hy
  have CT0 := Lib.hid fun w => toBounds w x0 hx
  have CT1 := Lib.hid fun w => toBounds w x1 hy
  generalize overT x0 x1 = T at *
  obtain ⟨d, c, n, b⟩ := x0
  obtain ⟨d', c', n', b'⟩ := x1
  simp only [BP.val] at *
  clear hx hy
  have two : ∀ W w' : World, TwoB w W d c n b d' c' n' b' → Below W.heap.size W w' → TwoB w w' d c n b d' c' n' b' := fun W w' h g => h.below g
  have CX : Hid (∀ W, TwoB w W d c n b d' c' n' b' → Calls Try.prog 26 #[.agg #[.int .i64 d, .int .i64 c, .int .i64 n, .int .i64 b]] W fun e w' => e = .returned (.agg #[.int .i64 d, .int .i64 c, .int .i64 n, .int .i64 b]) ∧ TwoB w w' d c n b d' c' n' b') := Lib.hid fun W h => (CT0.out W).mono fun e w' g => ⟨g.1, h.below g.2⟩
  have CY : Hid (∀ W, TwoB w W d c n b d' c' n' b' → Calls Try.prog 26 #[.agg #[.int .i64 d', .int .i64 c', .int .i64 n', .int .i64 b']] W fun e w' => e = .returned (.agg #[.int .i64 d', .int .i64 c', .int .i64 n', .int .i64 b']) ∧ TwoB w w' d c n b d' c' n' b') := Lib.hid fun W h => (CT1.out W).mono fun e w' g => ⟨g.1, h.below g.2⟩
  have CS : Hid (∀ W, TwoB w W d c n b d' c' n' b' → Calls Try.prog 25 #[.agg #[.int .i64 d, .int .i64 c, .int .i64 n, .int .i64 b], .agg #[.int .i64 d', .int .i64 c', .int .i64 n', .int .i64 b']] W fun e w' => e = .returned (.string T) ∧ TwoB w w' d c n b d' c' n' b') := Lib.hid fun W h => (CS0.out W).mono fun e w' g => ⟨g.1, h.below g.2⟩
  have CI : Hid (∀ W, TwoB w W d c n b d' c' n' b' → Calls Try.prog 27 #[.agg #[.int .i64 d, .int .i64 c, .int .i64 n, .int .i64 b], .agg #[.int .i64 d', .int .i64 c', .int .i64 n', .int .i64 b']] W fun e w' => e = .returned (.string T) ∧ TwoB w w' d c n b d' c' n' b') := Lib.hid fun W h => (CI0.out W).mono fun e w' g => ⟨g.1, h.below g.2⟩
  have HT0 : Hid (TwoB w ((w.alloc (.cells #[.int .i64 d, .int .i64 c, .int .i64 n, .int .i64 b] 57)).alloc (.cells #[.int .i64 d', .int .i64 c', .int .i64 n', .int .i64 b'] 57)).drew d c n b d' c' n' b') := Lib.hid (TwoB.made w d c n b d' c' n' b')
  clear CS0 CI0 CT0 CT1 two
  go_enter Try.func6, Try.ntmps6
  go_wp2_with fail
  go_region_with (first
    | (go_at_call 25; with_reducible refine (CS.out _ HT2.out).mono ?_; rintro e w3 ⟨rfl, ht3⟩; have HT3 := Lib.hid ht3.drew; have ⟨⟨p0, p1, p2, p3⟩, _⟩ := keep4 ht3.x; have ⟨⟨q0, q1, q2, q3⟩, _⟩ := keep4 ht3.y; have r1 := ht3.lt1; have r2 := ht3.lt2; clear ht3)
    | (go_at_call 26; with_reducible refine (CX.out _ HT1.out).mono ?_; rintro e w2 ⟨rfl, ht2⟩; have HT2 := Lib.hid ht2; have ⟨⟨p0, p1, p2, p3⟩, _⟩ := keep4 ht2.x; have ⟨⟨q0, q1, q2, q3⟩, _⟩ := keep4 ht2.y; clear ht2)
    | (go_at_call 26; with_reducible refine (CY.out _ HT1.out).mono ?_; rintro e w2 ⟨rfl, ht2⟩; have HT2 := Lib.hid ht2; have ⟨⟨p0, p1, p2, p3⟩, _⟩ := keep4 ht2.x; have ⟨⟨q0, q1, q2, q3⟩, _⟩ := keep4 ht2.y; clear ht2)
    | (go_at_call 26; with_reducible refine (CX.out _ HT0.out).mono ?_; rintro e w1 ⟨rfl, ht1⟩; have HT1 := Lib.hid ht1; have ⟨⟨p0, p1, p2, p3⟩, _⟩ := keep4 ht1.x; have ⟨⟨q0, q1, q2, q3⟩, _⟩ := keep4 ht1.y; clear ht1)
    | (go_at_call 26; with_reducible refine (CY.out _ HT0.out).mono ?_; rintro e w1 ⟨rfl, ht1⟩; have HT1 := Lib.hid ht1; have ⟨⟨p0, p1, p2, p3⟩, _⟩ := keep4 ht1.x; have ⟨⟨q0, q1, q2, q3⟩, _⟩ := keep4 ht1.y; clear ht1))
  all_goals
    clear HT0 HT1 HT2 r1 r2
    have HT0 := HT3
    clear HT3
    go_wp2_with fail
    go_region_with (first
      | (go_at_call 27; with_reducible refine (CI.out _ HT2.out).mono ?_; rintro e w6 ⟨rfl, ht3⟩; have HT3 := Lib.hid ht3; clear ht3)
      | (go_at_call 26; with_reducible refine (CX.out _ HT1.out).mono ?_; rintro e w5 ⟨rfl, ht2⟩; have HT2 := Lib.hid ht2; have ⟨⟨p0, p1, p2, p3⟩, _⟩ := keep4 ht2.x; have ⟨⟨q0, q1, q2, q3⟩, _⟩ := keep4 ht2.y; clear ht2)
      | (go_at_call 26; with_reducible refine (CY.out _ HT1.out).mono ?_; rintro e w5 ⟨rfl, ht2⟩; have HT2 := Lib.hid ht2; have ⟨⟨p0, p1, p2, p3⟩, _⟩ := keep4 ht2.x; have ⟨⟨q0, q1, q2, q3⟩, _⟩ := keep4 ht2.y; clear ht2)
      | (go_at_call 26; with_reducible refine (CX.out _ HT0.out).mono ?_; rintro e w4 ⟨rfl, ht1⟩; have HT1 := Lib.hid ht1; have ⟨⟨p0, p1, p2, p3⟩, _⟩ := keep4 ht1.x; have ⟨⟨q0, q1, q2, q3⟩, _⟩ := keep4 ht1.y; clear ht1)
      | (go_at_call 26; with_reducible refine (CY.out _ HT0.out).mono ?_; rintro e w4 ⟨rfl, ht1⟩; have HT1 := Lib.hid ht1; have ⟨⟨p0, p1, p2, p3⟩, _⟩ := keep4 ht1.x; have ⟨⟨q0, q1, q2, q3⟩, _⟩ := keep4 ht1.y; clear ht1))
    all_goals
      go_wp2_with fail
      go_ret
      exact ⟨rfl, HT3.out.bel⟩

set_option maxRecDepth 100000 in
theorem lifted (os : Os) (started : os.Started) (H : Type) (enc : TypeId × Value → H) :
    ReturnsInHanded {} Try.checked os 6 .any (Rows.fnExactOverSpec.pre6 enc Try.prog Try.f6 Rows.fnExactOverRow.domain false) (Rows.fnExactOverSpec.post enc Try.prog Try.f6 false true false false) := by
  refine returnsInHanded_of_change (C := Try.checked) own started (by kernel_rfl) Try.func6
    (ChangeSpec.witness6 (enc := enc) (C := Try.checked) false ⟨#[], #[.agg #[.int .i64 0, .int .i64 0, .int .i64 0, .int .i64 0], .agg #[.int .i64 0, .int .i64 0, .int .i64 0, .int .i64 0]], []⟩ 8 (by kernel_rfl) (by kernel_rfl) (by kernel_rfl) (by kernel_rfl)) ?_
  intro W base args ds gs before hval0 hW hcnd _
  have hval : ∀ (j : Nat) t v, Try.f6.params[j]? = some t → args[j]? = some v → Value.okWide Try.prog W .any base t v := hval0
  have hW' := hW
  obtain ⟨p, q, hA0, hV, rfl, hfz, hnd⟩ := hW
  have hA : DataW.TrodAll enc Try.prog W 0 (fun _ => true) true Try.f6.params.toList args.toList ds p := hA0
  rw [Try.params6] at hA hval
  obtain ⟨v0, vs0, d0, ds0, p0, q0, hargs, rfl, rfl, h0, r0⟩ := trodAll_cons hA
  obtain ⟨v1, vs1, d1, ds1, p1, q1, rfl, rfl, rfl, h1, r1⟩ := trodAll_cons r0
  obtain ⟨rfl, rfl, rfl⟩ := trodAll_nil r1
  obtain rfl : args = #[v0, v1] := by cases args; simp_all
  obtain ⟨rfl, rfl⟩ := trodVars_none hV
  have k0 := h0
  have lt0 : ∀ x ∈ p0, x.block < W.heap.size := by obtain ⟨m, hm⟩ := k0; exact DataW.trod_lt m _ _ _ hm
  have k1 := h1
  have lt1 : ∀ x ∈ p1, x.block < W.heap.size := by obtain ⟨m, hm⟩ := k1; exact DataW.trod_lt m _ _ _ hm
  obtain ⟨x0, w0⟩ := Bnd.openBounds (hval 0 57 v0 rfl rfl) h0
  obtain ⟨x1, w1⟩ := Bnd.openBounds (hval 1 57 v1 rfl rfl) h1
  clear hA0 hval0
  refine (walk v0 x0 v1 x1 W w0 w1).mono fun e W' ⟨he, bel⟩ => ?_
  subst he
  exact ⟨_, rfl, _, _, _, [], _, [], hW', trodAll_mk1 (shut_bool Try.underlying4 _), (trodAll_cons_mk (Below.trod laidOut (by kernel_rfl) (of_decide_eq_true (by kernel_rfl)) k0 bel lt0) (trodAll_cons_mk (Below.trod laidOut (by kernel_rfl) (of_decide_eq_true (by kernel_rfl)) k1 bel lt1) trodAll_mk0)), rfl, bel.frame _, fun h => by cases h⟩

theorem over : Rows.fnExactOverRow.holds Try.pinned (OpenSpec.ofChange Rows.fnExactOverSpec) :=
  OpenClaim.holds_of_wide 6 Try.f6 rfl rfl rfl rfl rfl rfl rfl ⟨rfl, rfl, rfl, rfl, rfl⟩ rfl rfl rfl rfl rfl (by kernel_rfl) Try.func6 (by kernel_rfl)
    (of_decide_eq_true (by kernel_rfl)) (by unfold Func.isWrapper; first | (rw [if_pos (by decide +kernel)]; kernel_rfl) | (rw [if_neg (by decide +kernel)]; exact ⟨rfl, rfl⟩))
    (fun os started H enc _ => lifted os started H enc)

/-- The given statement. -/
theorem proved : Rows.FnExactOverSaid := over
#print axioms proved
end Go.Proofs.Ytcogbmcnljlnaaa.fnExactOver
