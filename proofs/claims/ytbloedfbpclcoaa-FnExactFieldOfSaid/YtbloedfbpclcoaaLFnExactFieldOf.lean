/-
  For every Schema and any two texts, laws.FnExactFieldOf answers true: impl.FieldOf and spec.FieldOf answer alike, and the Schema stays as it was. Conditions: none beyond the row's own.
-/
import Derived.Test.YtbloedfbpclcoaaRows
import Derived.WalkKit
import Derived.ProofKit
import Derived.OpenShut
import Derived.ShutString
import Derived.ChangeOld
import Derived.Below
import Derived.Test.YtbloedfbpclcoaaOpenS
import Derived.Test.YtbloedfbpclcoaaSzS
import Derived.Test.YtbloedfbpclcoaaEqS
import Derived.Test.YtbloedfbpclcoaaToT
import Derived.Test.YtbloedfbpclcoaaKindJ
namespace Go.Proofs.Ytbloedfbpclcoaa.fnExactFieldOf
open Go.ChangeShapes Go.WideShapes Go.ChangeAt Go.RowKit
open Go.ChangeMaps (open_string shut_string)
open Rw
set_option linter.unusedVariables false

theorem own : ownKnob Try.prog.godebug = none := by kernel_rfl
theorem laidOut : laidOutB Try.prog = true := by kernel_rfl

set_option maxHeartbeats 1000000 in
theorem walk (v0 : Value) (x0 : List Rw.TypeP) (a1 : ByteArray) (a2 : ByteArray) (w : World) (w0 : Rw.SchemaAt w 0 w.heap.size v0 x0) (w1 : a1.size ≤ maxLen) (w2 : a2.size ≤ maxLen) :
    Calls Try.prog 6 #[v0, .string a1, .string a2] w fun e w' => e = .returned (.bool true) ∧ Below w.heap.size w w' := by
  have HS := Lib.hid w0
  unfold maxLen at w1 w2
  have OT : Hid (OkS a1) := Lib.hid w1
  have ON : Hid (OkS a2) := Lib.hid w2
  by_cases ht : 1048576 < a1.size
  · go_enter Try.func6, Try.ntmps6
    obtain ⟨a, ca, rfl, _, _⟩ := w0
    have hti : (1048576 : Int) < (a1.size : Int) := by omega
    go_wp2_with fail
    go_ret
    exact ⟨rfl, (Below.refl _ _).alloc (Nat.le_refl _) _⟩
  have hti : ¬ (1048576 : Int) < (a1.size : Int) := by omega
  by_cases hn : 1048576 < a2.size
  · go_enter Try.func6, Try.ntmps6
    obtain ⟨a, ca, rfl, _, _⟩ := w0
    have hni : (1048576 : Int) < (a2.size : Int) := by omega
    go_wp2_with fail
    go_ret
    exact ⟨rfl, (Below.refl _ _).alloc (Nat.le_refl _) _⟩
  have hni : ¬ (1048576 : Int) < (a2.size : Int) := by omega
  clear ht hn
  have hfo := fieldOfP_ok w0 a1 a2
  have HFO := Lib.hid hfo
  clear hfo
  obtain ⟨a, ca, rfl, _, _⟩ := w0
  have HA : Hid (∀ o, Below w.heap.size w (w.alloc o)) := Lib.hid fun o => (Below.refl _ _).alloc (Nat.le_refl _) o
  by_cases hbig : 1048576 < schWt x0
  · have e1 : Rw.leftOf 1048576 (schWt x0) = -1 := if_neg (by omega)
    go_enter Try.func6, Try.ntmps6
    go_wp2_with fail
    refine (szSchema _ 0 w.heap.size _ x0 (HS.out.below (Nat.le_refl _) (HA.out _)) (HA.out _).size 1048576 (by omega) (by omega)).mono ?_
    rintro e w1 ⟨rfl, hb1⟩
    rw [e1]
    have HB1 := Lib.hid ((HA.out _).trans (hb1.mono (HA.out _).size))
    clear hb1 hbig e1
    go_wp2_with fail
    go_ret
    exact ⟨rfl, HB1.out⟩
  have hwt : schWt x0 ≤ 1048576 := by omega
  have hm0 : 0 ≤ Rw.leftOf 1048576 (schWt x0) := by unfold Rw.leftOf; rw [if_pos (by omega)]; omega
  clear hbig
  go_enter Try.func6, Try.ntmps6
  go_wp2_with fail
  refine (szSchema _ 0 w.heap.size _ x0 (HS.out.below (Nat.le_refl _) (HA.out _)) (HA.out _).size 1048576 (by omega) (by omega)).mono ?_
  rintro e w1 ⟨rfl, hb1⟩
  generalize Rw.leftOf 1048576 (schWt x0) = m at hm0 ⊢
  obtain ⟨B1, z1, k1⟩ := kst1 (HA.out _) (by simp) (by simp; rfl) hb1
  have HB1 := Lib.hid B1
  clear hb1 B1
  go_wp2_with fail
  refine (toSchema _ 0 w.heap.size _ x0 (HS.out.below (Nat.le_refl _) HB1.out) HB1.out.size hwt).mono ?_
  rintro e w2 ⟨⟨sa2, rfl, d2⟩, hb2⟩
  obtain ⟨B2, z2, k2⟩ := kst1 HB1.out z1 k1 hb2
  have HB2 := Lib.hid B2
  have D2 := Lib.hid d2.at_
  clear hb2 B2 d2 k1
  go_wp2_with fail
  refine (specFieldOf _ _ _ _ x0 a1 a2 OT.out ON.out D2.out (Nat.le_refl _)).mono ?_
  rintro e w3 ⟨rfl, hb3⟩
  obtain ⟨B3, z3, k3⟩ := kst1 HB2.out z2 k2 hb3
  have HB3 := Lib.hid B3
  clear hb3 B3 k2
  have EF : Hid (∀ w, Calls Try.prog 29 #[.agg (fieldOfP x0 a1 a2).cells.toArray, .agg (fieldOfP x0 a1 a2).cells.toArray] w fun e w' => e = .returned (.bool true) ∧ Below w.heap.size w w') := Lib.hid fun w => eqField w _ HFO.out
  have CI : Hid (∀ (w' : World) (v : Value), SchemaAt w' 0 w'.heap.size v x0 → Calls Try.prog 12 #[v, .string a1, .string a2] w' fun e w'' => e = .returned (.agg (fieldOfP x0 a1 a2).cells.toArray) ∧ Below w'.heap.size w' w'') := Lib.hid fun w' v h => implFieldOf w' 0 _ v x0 a1 a2 OT.out ON.out h (Nat.le_refl _) hwt
  generalize fieldOfP x0 a1 a2 = fp at *
  obtain ⟨fn, ft, fl, fm, fz, fc⟩ := fp
  simp only [FieldP.cells] at EF CI ⊢
  go_wp2_with fail
  have HW : Hid (∀ o, Below w.heap.size w (w3.alloc o)) := Lib.hid fun o => HB3.out.alloc HB3.out.size o
  refine (toSchema _ 0 w.heap.size _ x0 (HS.out.below (Nat.le_refl _) (HW.out _)) (HW.out _).size hwt).mono ?_
  rintro e w4 ⟨⟨a4, rfl, d4⟩, hb4⟩
  have hb34 := ((Below.refl w3.heap.size w3).alloc (Nat.le_refl _) _).trans (hb4.mono (by simp))
  obtain ⟨B4, z4, k4⟩ := kst1 HB3.out z3 k3 hb34
  have HB4 := Lib.hid B4
  have D4 := Lib.hid d4.at_
  have F4 := Lib.hid ((hb4.block w3.heap.size (by simp)).trans (heap_alloc_new w3 _))
  clear hb4 hb34 B4 k3
  go_wp2_with fail
  have HX : Hid (∀ o, Below w4.heap.size w4 (w4.alloc o)) := Lib.hid fun o => (Below.refl _ _).alloc (Nat.le_refl _) o
  refine (CI.out _ _ ((D4.out.below (Nat.le_refl _) (HX.out _)).wide (Nat.zero_le _) (HX.out _).size)).mono ?_
  rintro e w5 ⟨rfl, hb5⟩
  have HX5 := (HX.out _).trans (hb5.mono (HX.out _).size)
  have X5 := Lib.hid ((hb5.block w4.heap.size (by simp)).trans (heap_alloc_new w4 _))
  have F5 := Lib.hid ((HX5.block w3.heap.size (lt_of_get F4.out)).trans F4.out)
  obtain ⟨B5, z5, k5⟩ := kst1 HB4.out z4 k4 HX5
  have HB5 := Lib.hid B5
  have D45 := Lib.hid ((D4.out.below (Nat.le_refl _) HX5).wide (Nat.zero_le _) HX5.size)
  have ⟨f0, f1, f2, f3, f4, f5⟩ := (keep6 F5.out).1
  have hlf := lt_of_get F5.out
  clear hb5 HX5 B5 k4
  go_wp2_with fail
  refine (EF.out _).mono ?_
  rintro e w6 ⟨rfl, hb6⟩
  have HX6 := ((Below.refl w5.heap.size w5).alloc (Nat.le_refl _) _).trans (hb6.mono (by simp))
  have X6 := Lib.hid ((HX6.block w4.heap.size (lt_of_get X5.out)).trans X5.out)
  obtain ⟨B6, z6, k6⟩ := kst1 HB5.out z5 k5 HX6
  have HB6 := Lib.hid B6
  have D6 := Lib.hid ((D45.out.below (Nat.le_refl _) HX6).wide (Nat.zero_le _) HX6.size)
  clear hb6 HX6 B6 k5 f0 f1 f2 f3 f4 f5 hlf
  have ⟨g0, _⟩ := keep1 X6.out
  have hg6 := lt_of_get X6.out
  go_wp2_with fail
  have HB6d := Lib.hid HB6.out.drew
  have D6d := Lib.hid (D6.out.below (Nat.le_refl _) ((Below.refl _ w6).drew))
  have k6d : w6.drew.cell? ⟨w.heap.size, 0, none⟩ = _ := k6
  have g0d : w6.drew.cell? ⟨w4.heap.size, 0, none⟩ = _ := g0
  have hg6d : w4.heap.size < w6.drew.heap.size := hg6
  go_region_with (first
    | (go_at_call 22; refine (toSchema _ 0 w.heap.size _ x0 (HS.out.below (Nat.le_refl _) HB6d.out) HB6d.out.size hwt).mono ?_; rintro e w7 ⟨⟨a7, rfl, d7⟩, hb7⟩; have g07 := kcell hb7 hg6d g0d)
    | (go_at_call 24; refine (eqSchema _ 0 _ _ _ x0 ((D6d.out.below (Nat.le_refl _) hb7).wide (Nat.le_refl _) hb7.size) (d7.at_.wide (Nat.zero_le _) (Nat.le_refl _)) (Nat.le_refl _)).mono ?_; rintro e w8 ⟨rfl, hb8⟩))
  all_goals
    have HB7 := HB6d.out.trans (hb7.mono HB6d.out.size)
    have HB8 := Lib.hid (HB7.trans (hb8.mono HB7.size))
    clear hb7 hb8 HB7
    go_wp2_with fail
    go_ret
    exact ⟨rfl, HB8.out⟩

set_option maxRecDepth 100000 in
theorem lifted (os : Os) (started : os.Started) (H : Type) (enc : TypeId × Value → H) :
    ReturnsInHanded {} Try.checked os 6 .any (Rows.fnExactFieldOfSpec.pre6 enc Try.prog Try.f6 Rows.fnExactFieldOfRow.domain false) (Rows.fnExactFieldOfSpec.post enc Try.prog Try.f6 false true false false) := by
  refine returnsInHanded_of_change (C := Try.checked) own started (by kernel_rfl) Try.func6
    (ChangeSpec.witness6 (enc := enc) (C := Try.checked) false ⟨#[], #[.agg #[.slice none 0 0], .string ByteArray.empty, .string ByteArray.empty], []⟩ 8 (by kernel_rfl) (by kernel_rfl) (by kernel_rfl) (by kernel_rfl)) ?_
  intro W base args ds gs before hval0 hW hcnd _
  have hval : ∀ (j : Nat) t v, Try.f6.params[j]? = some t → args[j]? = some v → Value.okWide Try.prog W .any base t v := hval0
  have hW' := hW
  obtain ⟨p, q, hA0, hV, rfl, hfz, hnd⟩ := hW
  have hA : DataW.TrodAll enc Try.prog W 0 (fun _ => true) true Try.f6.params.toList args.toList ds p := hA0
  rw [Try.params6] at hA hval
  obtain ⟨v0, vs0, d0, ds0, p0, q0, hargs, rfl, rfl, h0, r0⟩ := trodAll_cons hA
  obtain ⟨v1, vs1, d1, ds1, p1, q1, rfl, rfl, rfl, h1, r1⟩ := trodAll_cons r0
  obtain ⟨v2, vs2, d2, ds2, p2, q2, rfl, rfl, rfl, h2, r2⟩ := trodAll_cons r1
  obtain ⟨rfl, rfl, rfl⟩ := trodAll_nil r2
  obtain rfl : args = #[v0, v1, v2] := by cases args; simp_all
  obtain ⟨rfl, rfl⟩ := trodVars_none hV
  have k0 := h0
  have lt0 : ∀ x ∈ p0, x.block < W.heap.size := by obtain ⟨m, hm⟩ := k0; exact DataW.trod_lt m _ _ _ hm
  have k1 := h1
  have lt1 : ∀ x ∈ p1, x.block < W.heap.size := by obtain ⟨m, hm⟩ := k1; exact DataW.trod_lt m _ _ _ hm
  have k2 := h2
  have lt2 : ∀ x ∈ p2, x.block < W.heap.size := by obtain ⟨m, hm⟩ := k2; exact DataW.trod_lt m _ _ _ hm
  obtain ⟨x0, w0⟩ := Rw.openSchema (hval 0 44 v0 rfl rfl) h0
  obtain ⟨a1, rfl, _, _, w1⟩ := open_string Try.underlying9 (hval 1 9 v1 rfl rfl) h1
  obtain ⟨a2, rfl, _, _, w2⟩ := open_string Try.underlying9 (hval 2 9 v2 rfl rfl) h2
  clear hA0 hval0
  refine (walk v0 x0 a1 a2 W w0 w1 w2).mono fun e W' ⟨he, bel⟩ => ?_
  subst he
  exact ⟨_, rfl, _, _, _, [], _, [], hW', trodAll_mk1 (shut_bool Try.underlying4 _), (trodAll_cons_mk (Below.trod laidOut (by kernel_rfl) (of_decide_eq_true (by kernel_rfl)) k0 bel lt0) (trodAll_cons_mk (Below.trod laidOut (by kernel_rfl) (of_decide_eq_true (by kernel_rfl)) k1 bel lt1) (trodAll_cons_mk (Below.trod laidOut (by kernel_rfl) (of_decide_eq_true (by kernel_rfl)) k2 bel lt2) trodAll_mk0))), rfl, bel.frame _, fun h => by cases h⟩

theorem over : Rows.fnExactFieldOfRow.holds Try.pinned (OpenSpec.ofChange Rows.fnExactFieldOfSpec) :=
  OpenClaim.holds_of_wide 6 Try.f6 rfl rfl rfl rfl rfl rfl rfl ⟨rfl, rfl, rfl, rfl, rfl⟩ rfl rfl rfl rfl rfl (by kernel_rfl) Try.func6 (by kernel_rfl)
    (of_decide_eq_true (by kernel_rfl)) (by unfold Func.isWrapper; first | (rw [if_pos (by decide +kernel)]; kernel_rfl) | (rw [if_neg (by decide +kernel)]; exact ⟨rfl, rfl⟩))
    (fun os started H enc _ => lifted os started H enc)

/-- The given statement. -/
theorem proved : Rows.FnExactFieldOfSaid := over
#print axioms proved
end Go.Proofs.Ytbloedfbpclcoaa.fnExactFieldOf
