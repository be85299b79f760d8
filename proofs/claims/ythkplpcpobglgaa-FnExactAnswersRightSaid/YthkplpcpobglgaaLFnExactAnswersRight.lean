/-
  For every list of Answers, laws.FnExactAnswersRight answers true: impl.AnswersRight and spec.AnswersRight answer alike, and the list stays as it was. Conditions: none beyond the row's own.
-/
import Derived.Test.YthkplpcpobglgaaRows
import Derived.WalkKit
import Derived.ProofKit
import Derived.OpenShut
import Derived.ShutString
import Derived.ChangeOld
import Derived.Below
import Derived.Test.YthkplpcpobglgaaAnsI
namespace Go.Proofs.Ythkplpcpobglgaa.fnExactAnswersRight
open Go.ChangeShapes Go.WideShapes Go.ChangeAt Go.RowKit
open Go.ChangeMaps (open_string shut_string)
open Rw
set_option linter.unusedVariables false

theorem own : ownKnob Try.prog.godebug = none := by kernel_rfl
theorem laidOut : laidOutB Try.prog = true := by kernel_rfl

set_option maxHeartbeats 1000000 in
theorem walk (v0 : Value) (x0 : List Rw.AnswerP) (w : World) (w0 : Rw.AnsAt w 0 w.heap.size v0 x0) :
    Calls Try.prog 3 #[v0] w fun e w' => e = .returned (.bool true) ∧ Below w.heap.size w w' := by
  obtain ⟨a, ca, rfl, hs, _⟩ := w0
  have HS := Lib.hid hs
  have hlen := hs.2.1
  clear hs
  by_cases hbig : 1048576 < x0.length + sumOf AnswerP.wt x0
  · have e1 : Rw.leftOf 1048576 (x0.length + sumOf AnswerP.wt x0) = -1 := if_neg (by omega)
    go_enter Try.func3, Try.ntmps3
    go_wp2_with fail
    refine (szAnswerS _ 0 w.heap.size a _ ca x0 1048576 HS.out (Nat.le_refl _) (by omega) (by omega)).mono ?_
    rintro e w1 ⟨rfl, hb1⟩
    rw [e1]
    have HB1 := Lib.hid hb1
    clear hb1 hbig e1
    go_wp2_with fail
    go_ret
    exact ⟨rfl, HB1.out⟩
  have hlm : x0.length ≤ 1048576 := by omega
  have hm0 : 0 ≤ Rw.leftOf 1048576 (x0.length + sumOf AnswerP.wt x0) := by unfold Rw.leftOf; rw [if_pos (by omega)]; omega
  clear hbig
  go_enter Try.func3, Try.ntmps3
  go_wp2_with fail
  refine (szAnswerS _ 0 w.heap.size a _ ca x0 1048576 HS.out (Nat.le_refl _) (by omega) (by omega)).mono ?_
  rintro e w1 ⟨rfl, hb1⟩
  generalize Rw.leftOf 1048576 (x0.length + sumOf AnswerP.wt x0) = m at hm0 ⊢
  have HB1 := Lib.hid hb1
  clear hb1
  go_wp2_with fail
  refine (toAnswerS _ 0 w.heap.size a _ ca x0 (HS.out.below answerLies (Nat.le_refl _) HB1.out) HB1.out.size hlm).mono ?_
  rintro e w2 ⟨⟨a2, rfl, d2⟩, hb2⟩
  have HB2 := Lib.hid (HB1.out.trans (hb2.mono HB1.out.size))
  have D2 := Lib.hid (d2.at_ answerLies id)
  clear hb2 d2
  go_wp2_with fail
  refine (specAnswersRight _ _ _ a2 _ _ x0 D2.out (Nat.le_refl _)).mono ?_
  rintro e w3 ⟨rfl, hb3⟩
  have HB3 := Lib.hid (HB2.out.trans (hb3.mono HB2.out.size))
  clear hb3
  generalize hpb : answersB x0 = p
  have HPB := Lib.hid hpb
  clear hpb
  go_wp2_with fail
  refine (toAnswerS _ 0 w.heap.size a _ ca x0 (HS.out.below answerLies (Nat.le_refl _) HB3.out) HB3.out.size hlm).mono ?_
  rintro e w4 ⟨⟨a4, rfl, d4⟩, hb4⟩
  have HB4 := Lib.hid (HB3.out.trans (hb4.mono HB3.out.size))
  have D4 := Lib.hid (d4.at_ answerLies id)
  clear hb4 d4
  go_wp2_with fail
  refine (implAnswersRight _ _ _ a4 _ _ x0 D4.out (Nat.le_refl _)).mono ?_
  rintro e w5 ⟨rfl, hb5⟩
  rw [HPB.out]
  have HB5 := Lib.hid (HB4.out.trans (hb5.mono HB4.out.size))
  have D5 := Lib.hid (((D4.out.wide answerLies (Nat.zero_le _) (Nat.le_refl _)).below answerLies (Nat.le_refl _) hb5).wide answerLies (Nat.le_refl _) hb5.size)
  clear hb5
  go_wp2_with fail
  refine (toAnswerS _ 0 w.heap.size a _ ca x0 (HS.out.below answerLies (Nat.le_refl _) HB5.out) HB5.out.size hlm).mono ?_
  rintro e w6 ⟨⟨a6, rfl, d6⟩, hb6⟩
  have HB6 := Lib.hid (HB5.out.trans (hb6.mono HB5.out.size))
  have D6 := Lib.hid ((d6.at_ answerLies id).wide answerLies (Nat.zero_le _) (Nat.le_refl _))
  have D56 := Lib.hid ((D5.out.below answerLies (Nat.le_refl _) hb6).wide answerLies (Nat.le_refl _) hb6.size)
  clear hb6 d6
  go_wp2_with fail
  refine (eqAnswerS _ 0 _ a4 a6 _ _ _ x0 D56.out D6.out (Nat.le_refl _)).mono ?_
  rintro e w7 ⟨rfl, hb7⟩
  have HB7 := Lib.hid (HB6.out.trans (hb7.mono HB6.out.size))
  clear hb7
  go_wp2_with fail
  go_ret
  exact ⟨rfl, HB7.out⟩

set_option maxRecDepth 100000 in
theorem lifted (os : Os) (started : os.Started) (H : Type) (enc : TypeId × Value → H) :
    ReturnsInHanded {} Try.checked os 3 .any (Rows.fnExactAnswersRightSpec.pre6 enc Try.prog Try.f3 Rows.fnExactAnswersRightRow.domain false) (Rows.fnExactAnswersRightSpec.post enc Try.prog Try.f3 false true false false) := by
  refine returnsInHanded_of_change (C := Try.checked) own started (by kernel_rfl) Try.func3
    (ChangeSpec.witness6 (enc := enc) (C := Try.checked) false ⟨#[], #[.slice none 0 0], []⟩ 8 (by kernel_rfl) (by kernel_rfl) (by kernel_rfl) (by kernel_rfl)) ?_
  intro W base args ds gs before hval0 hW hcnd _
  have hval : ∀ (j : Nat) t v, Try.f3.params[j]? = some t → args[j]? = some v → Value.okWide Try.prog W .any base t v := hval0
  have hW' := hW
  obtain ⟨p, q, hA0, hV, rfl, hfz, hnd⟩ := hW
  have hA : DataW.TrodAll enc Try.prog W 0 (fun _ => true) true Try.f3.params.toList args.toList ds p := hA0
  rw [Try.params3] at hA hval
  obtain ⟨v0, vs0, d0, ds0, p0, q0, hargs, rfl, rfl, h0, r0⟩ := trodAll_cons hA
  obtain ⟨rfl, rfl, rfl⟩ := trodAll_nil r0
  obtain rfl : args = #[v0] := by cases args; simp_all
  obtain ⟨rfl, rfl⟩ := trodVars_none hV
  have k0 := h0
  have lt0 : ∀ x ∈ p0, x.block < W.heap.size := by obtain ⟨m, hm⟩ := k0; exact DataW.trod_lt m _ _ _ hm
  obtain ⟨x0, w0⟩ := Rw.openAns (hval 0 22 v0 rfl rfl) h0
  clear hA0 hval0
  refine (walk v0 x0 W w0).mono fun e W' ⟨he, bel⟩ => ?_
  subst he
  exact ⟨_, rfl, _, _, _, [], _, [], hW', trodAll_mk1 (shut_bool Try.underlying4 _), (trodAll_cons_mk (Below.trod laidOut (by kernel_rfl) (of_decide_eq_true (by kernel_rfl)) k0 bel lt0) trodAll_mk0), rfl, bel.frame _, fun h => by cases h⟩

theorem over : Rows.fnExactAnswersRightRow.holds Try.pinned (OpenSpec.ofChange Rows.fnExactAnswersRightSpec) :=
  OpenClaim.holds_of_wide 3 Try.f3 rfl rfl rfl rfl rfl rfl rfl ⟨rfl, rfl, rfl, rfl, rfl⟩ rfl rfl rfl rfl rfl (by kernel_rfl) Try.func3 (by kernel_rfl)
    (of_decide_eq_true (by kernel_rfl)) (by unfold Func.isWrapper; first | (rw [if_pos (by decide +kernel)]; kernel_rfl) | (rw [if_neg (by decide +kernel)]; exact ⟨rfl, rfl⟩))
    (fun os started H enc _ => lifted os started H enc)

/-- The given statement. -/
theorem proved : Rows.FnExactAnswersRightSaid := over
#print axioms proved
end Go.Proofs.Ythkplpcpobglgaa.fnExactAnswersRight
