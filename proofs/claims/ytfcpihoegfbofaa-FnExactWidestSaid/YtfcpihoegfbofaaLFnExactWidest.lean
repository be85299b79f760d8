/-
  For every Schema, laws.FnExactWidest answers true: impl.Widest and spec.Widest answer alike, and the Schema stays as it was. Conditions: none beyond the row's own.
-/
import Derived.Test.YtfcpihoegfbofaaRows
import Derived.WalkKit
import Derived.ProofKit
import Derived.OpenShut
import Derived.ShutString
import Derived.ChangeOld
import Derived.Below
import Derived.Test.YtfcpihoegfbofaaOpenS
import Derived.Test.YtfcpihoegfbofaaSzS
import Derived.Test.YtfcpihoegfbofaaEqS
import Derived.Test.YtfcpihoegfbofaaToT
import Derived.Test.YtfcpihoegfbofaaWidest
namespace Go.Proofs.Ytfcpihoegfbofaa.fnExactWidest
open Go.ChangeShapes Go.WideShapes Go.ChangeAt Go.RowKit
open Go.ChangeMaps (open_string shut_string)
open Rw
set_option linter.unusedVariables false

theorem own : ownKnob Try.prog.godebug = none := by kernel_rfl
theorem laidOut : laidOutB Try.prog = true := by kernel_rfl

set_option maxHeartbeats 1000000 in
theorem walk (v0 : Value) (x0 : List Rw.TypeP) (w : World) (w0 : Rw.SchemaAt w 0 w.heap.size v0 x0) :
    Calls Try.prog 4 #[v0] w fun e w' => e = .returned (.bool true) ∧ Below w.heap.size w w' := by
  have HS := Lib.hid w0
  obtain ⟨a, ca, rfl, _, _⟩ := w0
  have HA : Hid (∀ o, Below w.heap.size w (w.alloc o)) := Lib.hid fun o => (Below.refl _ _).alloc (Nat.le_refl _) o
  by_cases hbig : 1048576 < schWt x0
  · have e1 : Rw.leftOf 1048576 (schWt x0) = -1 := if_neg (by omega)
    go_enter Try.func4, Try.ntmps4
    go_wp2_with fail
    refine (szSchema _ 0 w.heap.size _ x0 (HS.out.below (Nat.le_refl _) (HA.out _)) (HA.out _).size 1048576 (by omega) (by omega)).mono ?_
    rintro e w1 ⟨rfl, hb1⟩
    rw [e1]
    have HB1 := Lib.hid ((HA.out _).trans (hb1.mono (HA.out _).size))
    clear hb1 hbig e1
    go_wp2_with fail
    go_ret
    exact ⟨rfl, HB1.out⟩
  have hwt : schWt x0 ≤ 1048576 := by omega
  have hm0 : 0 ≤ Rw.leftOf 1048576 (schWt x0) := by unfold Rw.leftOf; rw [if_pos (by omega)]; omega
  clear hbig
  go_enter Try.func4, Try.ntmps4
  go_wp2_with fail
  refine (szSchema _ 0 w.heap.size _ x0 (HS.out.below (Nat.le_refl _) (HA.out _)) (HA.out _).size 1048576 (by omega) (by omega)).mono ?_
  rintro e w1 ⟨rfl, hb1⟩
  generalize Rw.leftOf 1048576 (schWt x0) = m at hm0 ⊢
  obtain ⟨B1, z1, k1⟩ := kst1 (HA.out _) (by simp) (by simp; rfl) hb1
  have HB1 := Lib.hid B1
  clear hb1 B1
  go_wp2_with fail
  refine (toSchema _ 0 w.heap.size _ x0 (HS.out.below (Nat.le_refl _) HB1.out) HB1.out.size hwt).mono ?_
  rintro e w2 ⟨⟨a2, rfl, d2⟩, hb2⟩
  obtain ⟨B2, z2, k2⟩ := kst1 HB1.out z1 k1 hb2
  have HB2 := Lib.hid B2
  have D2 := Lib.hid d2.at_
  clear hb2 B2 d2 k1
  go_wp2_with fail
  refine (specWidest _ _ _ _ x0 D2.out (Nat.le_refl _)).mono ?_
  rintro e w3 ⟨rfl, hb3⟩
  obtain ⟨B3, z3, k3⟩ := kst1 HB2.out z2 k2 hb3
  have HB3 := Lib.hid B3
  clear hb3 B3 k2
  go_wp2_with fail
  refine (toSchema _ 0 w.heap.size _ x0 (HS.out.below (Nat.le_refl _) HB3.out) HB3.out.size hwt).mono ?_
  rintro e w4 ⟨⟨a4, rfl, d4⟩, hb4⟩
  obtain ⟨B4, z4, k4⟩ := kst1 HB3.out z3 k3 hb4
  have HB4 := Lib.hid B4
  have D4 := Lib.hid d4.at_
  clear hb4 B4 k3
  go_wp2_with fail
  have HX : ∀ o, Below w4.heap.size w4 (w4.alloc o) := fun o => (Below.refl _ _).alloc (Nat.le_refl _) o
  refine (implWidest _ _ _ _ x0 (D4.out.below (Nat.le_refl _) (HX _)) (HX _).size).mono ?_
  rintro e w5 ⟨rfl, hb5⟩
  have HX5 := (HX _).trans (hb5.mono (HX _).size)
  have g0 := hb5.cell (p := ⟨w4.heap.size, 0, none⟩) (by simp)
  simp at g0
  have hg5 : w4.heap.size < w5.heap.size := by have := hb5.size; simp at this; omega
  obtain ⟨B5, z5, k5⟩ := kst1 HB4.out z4 k4 HX5
  have HB5 := Lib.hid B5
  have D45 := Lib.hid ((D4.out.below (Nat.le_refl _) HX5).wide (Nat.zero_le _) HX5.size)
  clear hb5 HX5 B5 k4
  go_wp2_with fail
  have HB5d := Lib.hid HB5.out.drew
  have D45d := Lib.hid (D45.out.below (Nat.le_refl _) ((Below.refl _ w5).drew))
  have k5d : w5.drew.cell? ⟨w.heap.size, 0, none⟩ = _ := k5
  have g0d : w5.drew.cell? ⟨w4.heap.size, 0, none⟩ = _ := g0
  have hg5d : w4.heap.size < w5.drew.heap.size := hg5
  go_region_with (first
    | (go_at_call 7; refine (toSchema _ 0 w.heap.size _ x0 (HS.out.below (Nat.le_refl _) HB5d.out) HB5d.out.size hwt).mono ?_; rintro e w6 ⟨⟨a6, rfl, d6⟩, hb6⟩; have g06 := kcell hb6 hg5d g0d)
    | (go_at_call 9; refine (eqSchema _ 0 _ _ _ x0 ((D45d.out.below (Nat.le_refl _) hb6).wide (Nat.le_refl _) hb6.size) (d6.at_.wide (Nat.zero_le _) (Nat.le_refl _)) (Nat.le_refl _)).mono ?_; rintro e w7 ⟨rfl, hb7⟩))
  all_goals
    have HB6 := HB5d.out.trans (hb6.mono HB5d.out.size)
    have HB7 := Lib.hid (HB6.trans (hb7.mono HB6.size))
    clear hb6 hb7 HB6
    go_wp2_with fail
    go_ret
    exact ⟨rfl, HB7.out⟩

set_option maxRecDepth 100000 in
theorem lifted (os : Os) (started : os.Started) (H : Type) (enc : TypeId × Value → H) :
    ReturnsInHanded {} Try.checked os 4 .any (Rows.fnExactWidestSpec.pre6 enc Try.prog Try.f4 Rows.fnExactWidestRow.domain false) (Rows.fnExactWidestSpec.post enc Try.prog Try.f4 false true false false) := by
  refine returnsInHanded_of_change (C := Try.checked) own started (by kernel_rfl) Try.func4
    (ChangeSpec.witness6 (enc := enc) (C := Try.checked) false ⟨#[], #[.agg #[.slice none 0 0]], []⟩ 8 (by kernel_rfl) (by kernel_rfl) (by kernel_rfl) (by kernel_rfl)) ?_
  intro W base args ds gs before hval0 hW hcnd _
  have hval : ∀ (j : Nat) t v, Try.f4.params[j]? = some t → args[j]? = some v → Value.okWide Try.prog W .any base t v := hval0
  have hW' := hW
  obtain ⟨p, q, hA0, hV, rfl, hfz, hnd⟩ := hW
  have hA : DataW.TrodAll enc Try.prog W 0 (fun _ => true) true Try.f4.params.toList args.toList ds p := hA0
  rw [Try.params4] at hA hval
  obtain ⟨v0, vs0, d0, ds0, p0, q0, hargs, rfl, rfl, h0, r0⟩ := trodAll_cons hA
  obtain ⟨rfl, rfl, rfl⟩ := trodAll_nil r0
  obtain rfl : args = #[v0] := by cases args; simp_all
  obtain ⟨rfl, rfl⟩ := trodVars_none hV
  have k0 := h0
  have lt0 : ∀ x ∈ p0, x.block < W.heap.size := by obtain ⟨m, hm⟩ := k0; exact DataW.trod_lt m _ _ _ hm
  obtain ⟨x0, w0⟩ := Rw.openSchema (hval 0 24 v0 rfl rfl) h0
  clear hA0 hval0
  refine (walk v0 x0 W w0).mono fun e W' ⟨he, bel⟩ => ?_
  subst he
  exact ⟨_, rfl, _, _, _, [], _, [], hW', trodAll_mk1 (shut_bool Try.underlying4 _), (trodAll_cons_mk (Below.trod laidOut (by kernel_rfl) (of_decide_eq_true (by kernel_rfl)) k0 bel lt0) trodAll_mk0), rfl, bel.frame _, fun h => by cases h⟩

theorem over : Rows.fnExactWidestRow.holds Try.pinned (OpenSpec.ofChange Rows.fnExactWidestSpec) :=
  OpenClaim.holds_of_wide 4 Try.f4 rfl rfl rfl rfl rfl rfl rfl ⟨rfl, rfl, rfl, rfl, rfl⟩ rfl rfl rfl rfl rfl (by kernel_rfl) Try.func4 (by kernel_rfl)
    (of_decide_eq_true (by kernel_rfl)) (by unfold Func.isWrapper; first | (rw [if_pos (by decide +kernel)]; kernel_rfl) | (rw [if_neg (by decide +kernel)]; exact ⟨rfl, rfl⟩))
    (fun os started H enc _ => lifted os started H enc)

/-- The given statement. -/
theorem proved : Rows.FnExactWidestSaid := over
#print axioms proved
end Go.Proofs.Ytfcpihoegfbofaa.fnExactWidest
