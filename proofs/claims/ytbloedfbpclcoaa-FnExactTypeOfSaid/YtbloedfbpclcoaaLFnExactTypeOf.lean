/-
  For every Schema and any text, laws.FnExactTypeOf answers true: impl.TypeOf and spec.TypeOf answer alike, the answer is new memory, and the Schema stays as it was. Conditions: none beyond the row's own.
-/
import Derived.Test.YtbloedfbpclcoaaRows
import Derived.WalkKit
import Derived.ProofKit
import Derived.OpenShut
import Derived.ShutString
import Derived.ChangeOld
import Derived.Below
import Derived.Test.YtbloedfbpclcoaaOpenS
import Derived.Test.YtbloedfbpclcoaaSzS
import Derived.Test.YtbloedfbpclcoaaEqS
import Derived.Test.YtbloedfbpclcoaaToT
import Derived.Test.YtbloedfbpclcoaaKindR
import Derived.Test.YtbloedfbpclcoaaMarkO
namespace Go.Proofs.Ytbloedfbpclcoaa.fnExactTypeOf
open Go.ChangeShapes Go.WideShapes Go.ChangeAt Go.RowKit
open Go.ChangeMaps (open_string shut_string)
open Rw
set_option linter.unusedVariables false

theorem own : ownKnob Try.prog.godebug = none := by kernel_rfl
theorem laidOut : laidOutB Try.prog = true := by kernel_rfl

set_option maxHeartbeats 4000000 in
theorem walk (v0 : Value) (x0 : List Rw.TypeP) (a1 : ByteArray) (w : World) (w0 : Rw.SchemaAt w 0 w.heap.size v0 x0) (w1 : a1.size ≤ maxLen) :
    Calls Try.prog 5 #[v0, .string a1] w fun e w' => e = .returned (.bool true) ∧ Below w.heap.size w w' := by
  have HS := Lib.hid w0
  unfold maxLen at w1
  have OT : Hid (OkS a1) := Lib.hid w1
  by_cases ht : 1048576 < a1.size
  · go_enter Try.func5, Try.ntmps5
    obtain ⟨a, ca, rfl, _, _⟩ := w0
    have hti : (1048576 : Int) < (a1.size : Int) := by omega
    go_wp2_with fail
    go_ret
    exact ⟨rfl, (Below.refl _ _).alloc (Nat.le_refl _) _⟩
  have hti : ¬ (1048576 : Int) < (a1.size : Int) := by omega
  clear ht
  obtain ⟨a, ca, rfl, _, _⟩ := w0
  have HA : Hid (∀ o, Below w.heap.size w (w.alloc o)) := Lib.hid fun o => (Below.refl _ _).alloc (Nat.le_refl _) o
  by_cases hbig : 1048576 < schWt x0
  · have e1 : Rw.leftOf 1048576 (schWt x0) = -1 := if_neg (by omega)
    go_enter Try.func5, Try.ntmps5
    go_wp2_with fail
    refine (szSchema _ 0 w.heap.size _ x0 (HS.out.below (Nat.le_refl _) (HA.out _)) (HA.out _).size 1048576 (by omega) (by omega)).mono ?_
    rintro e w1 ⟨rfl, hb1⟩
    rw [e1]
    have HB1 := Lib.hid ((HA.out _).trans (hb1.mono (HA.out _).size))
    clear hb1 hbig e1
    go_wp2_with fail
    go_ret
    exact ⟨rfl, HB1.out⟩
  have hwt : schWt x0 ≤ 1048576 := by omega
  have hm0 : 0 ≤ Rw.leftOf 1048576 (schWt x0) := by unfold Rw.leftOf; rw [if_pos (by omega)]; omega
  clear hbig
  go_enter Try.func5, Try.ntmps5
  go_wp2_with fail
  refine (szSchema _ 0 w.heap.size _ x0 (HS.out.below (Nat.le_refl _) (HA.out _)) (HA.out _).size 1048576 (by omega) (by omega)).mono ?_
  rintro e w1 ⟨rfl, hb1⟩
  generalize Rw.leftOf 1048576 (schWt x0) = m at hm0 ⊢
  obtain ⟨B1, z1, k1⟩ := kst1 (HA.out _) (by simp) (by simp; rfl) hb1
  have HB1 := Lib.hid B1
  clear hb1 B1
  go_wp2_with fail
  refine (toSchema _ 0 w.heap.size _ x0 (HS.out.below (Nat.le_refl _) HB1.out) HB1.out.size hwt).mono ?_
  rintro e w2 ⟨⟨sa2, rfl, d2⟩, hb2⟩
  obtain ⟨B2, z2, k2⟩ := kst1 HB1.out z1 k1 hb2
  have HB2 := Lib.hid B2
  have D2 := Lib.hid d2.at_
  clear hb2 B2 d2 k1
  go_wp2_with fail
  refine (specTypeOf _ _ _ _ x0 a1 OT.out D2.out (Nat.le_refl _) hwt).mono ?_
  rintro e w3 ⟨⟨b0, c0, d0, e0, rfl, hx0⟩, hb3⟩
  obtain ⟨B3, z3, k3⟩ := kst1 HB2.out z2 k2 hb3
  have HB3 := Lib.hid B3
  have HW0 := Lib.hid hx0
  have L23 : w2.heap.size ≤ w3.heap.size := hb3.size
  have L2 : w.heap.size ≤ w2.heap.size := HB2.out.size
  clear hb3 B3 k2 hx0
  have CI : Hid (∀ (w' : World) (v : Value), SchemaAt w' 0 w'.heap.size v x0 → Calls Try.prog 15 #[v, .string a1] w' fun e w'' => TypeNew w' w'' (typeOfP x0 a1) e ∧ Below w'.heap.size w' w'') := Lib.hid fun w' v h => implTypeOf w' 0 _ v x0 a1 OT.out h (Nat.le_refl _) hwt
  have hml : 1 + withinNum (typeOfP x0 a1) ≤ 9000000 := by
    unfold typeOfP withinNum
    split
    · have := fields_len hwt a1; have := members_len hwt a1; omega
    · simp [zeroType]
  generalize typeOfP x0 a1 = y at *
  have ES : Hid (∀ (w : World) (B : Nat) (v v' : Value), TypeAt w 0 B v y → TypeAt w 0 B v' y → B ≤ w.heap.size → Calls Try.prog 25 #[v, v'] w fun e w' => e = .returned (.bool true) ∧ Below w.heap.size w w') := Lib.hid fun w B v v' h1 h2 h3 => eqType w 0 B v v' y h1 h2 h3
  have HY : Hid (∀ (w : World) (A B : Nat) (v : Value), TypeX w A B v y → B ≤ w.heap.size → Calls Try.prog 27 #[v, .int .i64 1] w fun e w' => e = .returned (.int .i64 ((1 + withinNum y : Nat) : Int)) ∧ TypeX w' A B v (withinMark y 1) ∧ Within A B w w') := Lib.hid fun w A B v h1 h2 => markType w A B v y 1 h1 h2 (Nat.le_refl _) hml
  have CH : Hid (∀ (w : World) (B : Nat) (v : Value), TypeAt w 0 B v (withinMark y 1) → B ≤ w.heap.size → Calls Try.prog 28 #[v, .int .i64 1] w fun e w' => e = .returned (.int .i64 ((1 + withinNum y : Nat) : Int)) ∧ Below w.heap.size w w') := Lib.hid fun w B v h1 h2 => heldType w 0 B v y 1 h1 h2 (Nat.le_refl _) hml
  obtain ⟨mn, hmn2⟩ : ∃ n, 1 + withinNum y = n := ⟨_, rfl⟩
  rw [hmn2] at HY CH
  have hmn : 0 ≤ (mn : Int) := by omega
  have hmnb : (mn : Int) ≤ 9000000 := by omega
  have HYM : Hid (∀ {w A B v}, TypeX w A B v (withinMark y 1) → TypeAt w A B v (withinMark y 1)) := Lib.hid fun h => h.at_
  clear hml hmn2
  generalize withinMark y 1 = ym1 at *
  obtain ⟨yn, yk, yb, yf, ym⟩ := y
  simp only [TypeP.cells] at HW0 ⊢
  go_wp2_with fail
  have HWA : Hid (∀ o, Below w.heap.size w (w3.alloc o)) := Lib.hid fun o => HB3.out.alloc HB3.out.size o
  refine (toSchema _ 0 w.heap.size _ x0 (HS.out.below (Nat.le_refl _) (HWA.out _)) (HWA.out _).size hwt).mono ?_
  rintro e w4 ⟨⟨a4, rfl, d4⟩, hb4⟩
  have hb34 := ((Below.refl w3.heap.size w3).alloc (Nat.le_refl _) _).trans (hb4.mono (by simp))
  have F4 := Lib.hid ((hb4.block w3.heap.size (by simp)).trans (heap_alloc_new w3 _))
  obtain ⟨B4, z4, k4⟩ := kst1 HB3.out z3 k3 hb34
  have HB4 := Lib.hid B4
  have HX4 := Lib.hid (d4.wide (A' := w3.heap.size + 1) (B' := w4.heap.size) (by simp) (Nat.le_refl _))
  have HW4 := Lib.hid (HW0.out.below (Nat.le_refl _) hb34)
  have L34 : w3.heap.size + 1 ≤ w4.heap.size := by have := hb4.size; simpa using this
  clear hb4 hb34 B4 k3 d4
  go_wp2_with fail
  have HXA : Hid (∀ o, Below w4.heap.size w4 (w4.alloc o)) := Lib.hid fun o => (Below.refl _ _).alloc (Nat.le_refl _) o
  refine (CI.out _ _ ((HX4.out.at_.below (Nat.le_refl _) (HXA.out _)).wide (Nat.zero_le _) (HXA.out _).size)).mono ?_
  rintro e w5 ⟨⟨b5, c5, d5, e5, rfl, hg5⟩, hb5⟩
  simp only [TypeP.cells] at hg5 ⊢
  have HX5 := (HXA.out _).trans (hb5.mono (HXA.out _).size)
  have X5 := Lib.hid ((hb5.block w4.heap.size (by simp)).trans (heap_alloc_new w4 _))
  have F5 := Lib.hid ((HX5.block w3.heap.size (lt_of_get F4.out)).trans F4.out)
  obtain ⟨B5, z5, k5⟩ := kst1 HB4.out z4 k4 HX5
  have HB5 := Lib.hid B5
  have HX45 := Lib.hid (HX4.out.below (Nat.le_refl _) HX5)
  have HW5 := Lib.hid (HW4.out.below (C := w4.heap.size) (by omega) HX5)
  have HG5 := Lib.hid (hg5.wide (A' := w4.heap.size + 1) (B' := w5.heap.size) (by simp) (Nat.le_refl _))
  have L45 : w4.heap.size + 1 ≤ w5.heap.size := by have := hb5.size; simpa using this
  have ⟨f0, f1, f2, f3, f4⟩ := (keep5 F5.out).1
  have hlf := lt_of_get F5.out
  clear hb5 HX5 B5 k4 hg5
  go_wp2_with fail
  have HGA : Hid (∀ o, Below w5.heap.size w5 (w5.alloc o)) := Lib.hid fun o => (Below.refl _ _).alloc (Nat.le_refl _) o
  refine (ES.out _ w5.heap.size _ _ ((HG5.out.at_.below (Nat.le_refl _) (HGA.out _)).wide (Nat.zero_le _) (Nat.le_refl _)) ((HW5.out.at_.below (C := w5.heap.size) (by omega) (HGA.out _)).wide (Nat.zero_le _) (by omega)) (HGA.out _).size).mono ?_
  rintro e w6 ⟨rfl, hb6⟩
  have hb56 := (HGA.out _).trans (hb6.mono (HGA.out _).size)
  have G6 := Lib.hid ((hb6.block w5.heap.size (by simp)).trans (heap_alloc_new w5 _))
  have X6 := Lib.hid ((hb56.block w4.heap.size (by omega)).trans X5.out)
  have F6 := Lib.hid ((hb56.block w3.heap.size (by omega)).trans F5.out)
  obtain ⟨B6, z6, k6⟩ := kst1 HB5.out z5 k5 hb56
  have HB6 := Lib.hid B6
  have HX6 := Lib.hid (HX45.out.below (C := w5.heap.size) (by omega) hb56)
  have HW6 := Lib.hid (HW5.out.below (C := w5.heap.size) (by omega) hb56)
  have HG6 := Lib.hid (HG5.out.below (Nat.le_refl _) hb56)
  have L56 : w5.heap.size + 1 ≤ w6.heap.size := by have := hb6.size; simpa using this
  clear hb6 hb56 B6 k5 f0 f1 f2 f3 f4 hlf
  have ⟨g0, _⟩ := keep1 X6.out
  have hg6 := lt_of_get X6.out
  go_wp2_with fail
  have dd : Below w6.heap.size w6 w6.drew := (Below.refl _ w6).drew
  have HB6d := Lib.hid HB6.out.drew
  have HX6d := Lib.hid (HX6.out.below (C := w6.heap.size) (by omega) dd)
  have HW6d := Lib.hid (HW6.out.below (C := w6.heap.size) (by omega) dd)
  have HG6d := Lib.hid (HG6.out.below (C := w6.heap.size) (by omega) dd)
  have k6d : w6.drew.cell? ⟨w.heap.size, 0, none⟩ = _ := k6
  have g0d : w6.drew.cell? ⟨w4.heap.size, 0, none⟩ = _ := g0
  have hg6d : w4.heap.size < w6.drew.heap.size := hg6
  have z6d : w.heap.size < w6.drew.heap.size := z6
  have L5d : w5.heap.size + 1 ≤ w6.drew.heap.size := L56
  have X6d : Hid (w6.drew.heap[w4.heap.size]? = _) := Lib.hid X6.out
  have F6d : Hid (w6.drew.heap[w3.heap.size]? = _) := Lib.hid F6.out
  have G6d : Hid (w6.drew.heap[w5.heap.size]? = _) := Lib.hid G6.out
  clear dd
  go_region_with (first
    | (go_at_call 22; refine (toSchema _ 0 w.heap.size _ x0 (HS.out.below (Nat.le_refl _) HB6d.out) HB6d.out.size hwt).mono ?_; rintro e w7 ⟨⟨a7, rfl, d7⟩, hb7⟩; have g07 := kcell hb7 hg6d g0d)
    | (go_at_call 24; refine (eqSchema _ 0 _ _ _ x0 (((HX6d.out.at_.wide (Nat.zero_le _) (by omega)).below (Nat.le_refl _) hb7).wide (Nat.le_refl _) hb7.size) (d7.at_.wide (Nat.zero_le _) (Nat.le_refl _)) (Nat.le_refl _)).mono ?_; rintro e w8 ⟨rfl, hb8⟩))
  all_goals
    have hb68 := hb7.trans (hb8.mono hb7.size)
    obtain ⟨B8, z8, k8⟩ := kst1 HB6d.out z6d k6d hb68
    have HB8 := Lib.hid B8
    have HX8 := Lib.hid (HX6d.out.below (by omega) hb68)
    have HW8 := Lib.hid (HW6d.out.below (by omega) hb68)
    have HG8 := Lib.hid (HG6d.out.below (by omega) hb68)
    have X8 := Lib.hid ((hb68.block w4.heap.size hg6d).trans X6d.out)
    have F8 := Lib.hid ((hb68.block w3.heap.size (by omega)).trans F6d.out)
    have G8 := Lib.hid ((hb68.block w5.heap.size (by omega)).trans G6d.out)
    have L8 : w5.heap.size + 1 ≤ w8.heap.size := Nat.le_trans L5d hb68.size
    have ⟨g8, _⟩ := keep1 X8.out
    clear hb7 hb8 hb68 B8 g07 d7 k6d g0d
    go_wp2_with fail
    refine (markSchema _ (w3.heap.size + 1) w4.heap.size _ x0 1 HX8.out (by omega) (Nat.le_refl _) (by have := typesNum_le hwt; omega)).mono ?_
    rintro e w9 ⟨rfl, hx9, hw9⟩
    have HB9 := Lib.hid (HB8.out.trans (hw9.below (by omega) HB8.out.size))
    have HW9 := Lib.hid (HW8.out.block fun q q1 q2 => hw9.block q (by omega) (.inl (by omega)))
    have HG9 := Lib.hid (HG8.out.block fun q q1 q2 => hw9.block q (by omega) (.inr (by omega)))
    have F9 := Lib.hid ((hw9.block w3.heap.size (by omega) (.inl (by omega))).trans F8.out)
    have G9 := Lib.hid ((hw9.block w5.heap.size (by omega) (.inr (by omega))).trans G8.out)
    have k9 := (World.cell?_of_block (w := w8) (a := ⟨w.heap.size, 0, none⟩) (hw9.block w.heap.size z8 (.inl (by omega)))).trans k8
    have z9 : w.heap.size < w9.heap.size := Nat.lt_of_lt_of_le z8 hw9.size
    have L9 : w5.heap.size + 1 ≤ w9.heap.size := Nat.le_trans L8 hw9.size
    have hkn : 0 ≤ ((1 + typesNum x0 : Nat) : Int) := by omega
    have hk9 := typesNum_le hwt
    generalize 1 + typesNum x0 = kn at *
    have ⟨f0, f1, f2, f3, f4⟩ := (keep5 F9.out).1
    have ⟨q0, q1, q2, q3, q4⟩ := (keep5 G9.out).1
    clear hx9 hw9 k8 g8
    go_wp2_with fail
    refine (ES.out _ w5.heap.size _ _ (HG9.out.at_.wide (Nat.zero_le _) (Nat.le_refl _)) (HW9.out.at_.wide (Nat.zero_le _) (by omega)) (by omega)).mono ?_
    rintro e w10 ⟨rfl, hb10⟩
    obtain ⟨B10, z10, k10⟩ := kst1 HB9.out z9 k9 hb10
    have HB10 := Lib.hid B10
    have HW10 := Lib.hid (HW9.out.below (by omega) hb10)
    have HG10 := Lib.hid (HG9.out.below (by omega) hb10)
    have F10 := Lib.hid ((hb10.block w3.heap.size (by omega)).trans F9.out)
    have G10 := Lib.hid ((hb10.block w5.heap.size (by omega)).trans G9.out)
    have L10 : w5.heap.size + 1 ≤ w10.heap.size := Nat.le_trans L9 hb10.size
    clear hb10 B10 k9 f0 f1 f2 f3 f4 q0 q1 q2 q3 q4
    have ⟨q0, q1, q2, q3, q4⟩ := (keep5 G10.out).1
    go_wp2_with fail
    refine (HY.out _ (w4.heap.size + 1) w5.heap.size _ HG10.out (by omega)).mono ?_
    rintro e w11 ⟨rfl, hg11, hw11⟩
    have HB11 := Lib.hid (HB10.out.trans (hw11.below (by omega) HB10.out.size))
    have HW11 := Lib.hid (HW10.out.block fun q q1 q2 => hw11.block q (by omega) (.inl (by omega)))
    have HG11 := Lib.hid (HYM.out hg11)
    have F11 := Lib.hid ((hw11.block w3.heap.size (by omega) (.inl (by omega))).trans F10.out)
    have G11 := Lib.hid ((hw11.block w5.heap.size (by omega) (.inr (Nat.le_refl _))).trans G10.out)
    have k11 := (World.cell?_of_block (w := w10) (a := ⟨w.heap.size, 0, none⟩) (hw11.block w.heap.size z10 (.inl (by omega)))).trans k10
    have z11 : w.heap.size < w11.heap.size := Nat.lt_of_lt_of_le z10 hw11.size
    have L11 : w5.heap.size + 1 ≤ w11.heap.size := Nat.le_trans L10 hw11.size
    clear hg11 hw11 k10 q0 q1 q2 q3 q4
    have ⟨q0, q1, q2, q3, q4⟩ := (keep5 G11.out).1
    go_wp2_with fail
    refine (CH.out _ w5.heap.size _ (HG11.out.wide (Nat.zero_le _) (Nat.le_refl _)) (by omega)).mono ?_
    rintro e w12 ⟨rfl, hb12⟩
    obtain ⟨B12, z12, k12⟩ := kst1 HB11.out z11 k11 hb12
    have HB12 := Lib.hid B12
    have HW12 := Lib.hid (HW11.out.below (by omega) hb12)
    have HG12 := Lib.hid (HG11.out.below (by omega) hb12)
    have F12 := Lib.hid ((hb12.block w3.heap.size (by omega)).trans F11.out)
    have G12 := Lib.hid ((hb12.block w5.heap.size (by omega)).trans G11.out)
    have L12 : w5.heap.size + 1 ≤ w12.heap.size := Nat.le_trans L11 hb12.size
    clear hb12 B12 k11 q0 q1 q2 q3 q4
    go_wp2_with fail
    refine (toSchema _ 0 w.heap.size _ x0 (HS.out.below (Nat.le_refl _) HB12.out) HB12.out.size hwt).mono ?_
    rintro e w13 ⟨⟨a13, rfl, d13⟩, hb13⟩
    have HB13 := Lib.hid (HB12.out.trans (hb13.mono HB12.out.size))
    have HW13 := Lib.hid (HW12.out.below (by omega) hb13)
    have HG13 := Lib.hid (HG12.out.below (by omega) hb13)
    have F13 := Lib.hid ((hb13.block w3.heap.size (by omega)).trans F12.out)
    have G13 := Lib.hid ((hb13.block w5.heap.size (by omega)).trans G12.out)
    have D13 := Lib.hid (d13.at_.wide (A' := 0) (B' := w13.heap.size) (Nat.zero_le _) (Nat.le_refl _))
    have L13 : w5.heap.size + 1 ≤ w13.heap.size := Nat.le_trans L12 hb13.size
    clear hb13 d13 k12
    go_wp2_with fail
    refine (CI.out _ _ D13.out).mono ?_
    rintro e w14 ⟨⟨b14, c14, d14, e14, rfl, hg14⟩, hb14⟩
    simp only [TypeP.cells] at hg14 ⊢
    have HB14 := Lib.hid (HB13.out.trans (hb14.mono HB13.out.size))
    have HW14 := Lib.hid (HW13.out.below (by omega) hb14)
    have HG14 := Lib.hid (HG13.out.below (by omega) hb14)
    have F14 := Lib.hid ((hb14.block w3.heap.size (by omega)).trans F13.out)
    have G14 := Lib.hid ((hb14.block w5.heap.size (by omega)).trans G13.out)
    have HH14 := Lib.hid (hg14.at_.wide (A' := 0) (B' := w14.heap.size) (Nat.zero_le _) (Nat.le_refl _))
    have L14 : w5.heap.size + 1 ≤ w14.heap.size := Nat.le_trans L13 hb14.size
    have ⟨f0, f1, f2, f3, f4⟩ := (keep5 F14.out).1
    have hlf := lt_of_get F14.out
    clear hb14 hg14
    go_wp2_with fail
    have HHA : Hid (∀ o, Below w14.heap.size w14 (w14.alloc o)) := Lib.hid fun o => (Below.refl _ _).alloc (Nat.le_refl _) o
    refine (ES.out _ w14.heap.size _ _ (HH14.out.below (Nat.le_refl _) (HHA.out _)) ((HW14.out.at_.below (C := w14.heap.size) (by omega) (HHA.out _)).wide (Nat.zero_le _) (by omega)) (HHA.out _).size).mono ?_
    rintro e w15 ⟨rfl, hb15⟩
    have hb145 := (HHA.out _).trans (hb15.mono (HHA.out _).size)
    have HB15 := Lib.hid (HB14.out.trans (hb145.mono HB14.out.size))
    have HG15 := Lib.hid (HG14.out.below (C := w14.heap.size) (by omega) hb145)
    have G15 := Lib.hid ((hb145.block w5.heap.size (by omega)).trans G14.out)
    have L15 : w5.heap.size + 1 ≤ w15.heap.size := Nat.le_trans L14 hb145.size
    have ⟨q0, q1, q2, q3, q4⟩ := (keep5 G15.out).1
    clear hb15 hb145 f0 f1 f2 f3 f4 hlf
    go_wp2_with fail
    refine (CH.out _ w5.heap.size _ (HG15.out.wide (Nat.zero_le _) (Nat.le_refl _)) (by omega)).mono ?_
    rintro e w16 ⟨rfl, hb16⟩
    have HB16 := Lib.hid (HB15.out.trans (hb16.mono HB15.out.size))
    clear hb16
    go_wp2_with fail
    go_ret
    exact ⟨rfl, HB16.out⟩

set_option maxRecDepth 100000 in
theorem lifted (os : Os) (started : os.Started) (H : Type) (enc : TypeId × Value → H) :
    ReturnsInHanded {} Try.checked os 5 .any (Rows.fnExactTypeOfSpec.pre6 enc Try.prog Try.f5 Rows.fnExactTypeOfRow.domain false) (Rows.fnExactTypeOfSpec.post enc Try.prog Try.f5 false true false false) := by
  refine returnsInHanded_of_change (C := Try.checked) own started (by kernel_rfl) Try.func5
    (ChangeSpec.witness6 (enc := enc) (C := Try.checked) false ⟨#[], #[.agg #[.slice none 0 0], .string ByteArray.empty], []⟩ 8 (by kernel_rfl) (by kernel_rfl) (by kernel_rfl) (by kernel_rfl)) ?_
  intro W base args ds gs before hval0 hW hcnd _
  have hval : ∀ (j : Nat) t v, Try.f5.params[j]? = some t → args[j]? = some v → Value.okWide Try.prog W .any base t v := hval0
  have hW' := hW
  obtain ⟨p, q, hA0, hV, rfl, hfz, hnd⟩ := hW
  have hA : DataW.TrodAll enc Try.prog W 0 (fun _ => true) true Try.f5.params.toList args.toList ds p := hA0
  rw [Try.params5] at hA hval
  obtain ⟨v0, vs0, d0, ds0, p0, q0, hargs, rfl, rfl, h0, r0⟩ := trodAll_cons hA
  obtain ⟨v1, vs1, d1, ds1, p1, q1, rfl, rfl, rfl, h1, r1⟩ := trodAll_cons r0
  obtain ⟨rfl, rfl, rfl⟩ := trodAll_nil r1
  obtain rfl : args = #[v0, v1] := by cases args; simp_all
  obtain ⟨rfl, rfl⟩ := trodVars_none hV
  have k0 := h0
  have lt0 : ∀ x ∈ p0, x.block < W.heap.size := by obtain ⟨m, hm⟩ := k0; exact DataW.trod_lt m _ _ _ hm
  have k1 := h1
  have lt1 : ∀ x ∈ p1, x.block < W.heap.size := by obtain ⟨m, hm⟩ := k1; exact DataW.trod_lt m _ _ _ hm
  obtain ⟨x0, w0⟩ := Rw.openSchema (hval 0 44 v0 rfl rfl) h0
  obtain ⟨a1, rfl, _, _, w1⟩ := open_string Try.underlying9 (hval 1 9 v1 rfl rfl) h1
  clear hA0 hval0
  refine (walk v0 x0 a1 W w0 w1).mono fun e W' ⟨he, bel⟩ => ?_
  subst he
  exact ⟨_, rfl, _, _, _, [], _, [], hW', trodAll_mk1 (shut_bool Try.underlying4 _), (trodAll_cons_mk (Below.trod laidOut (by kernel_rfl) (of_decide_eq_true (by kernel_rfl)) k0 bel lt0) (trodAll_cons_mk (Below.trod laidOut (by kernel_rfl) (of_decide_eq_true (by kernel_rfl)) k1 bel lt1) trodAll_mk0)), rfl, bel.frame _, fun h => by cases h⟩

theorem over : Rows.fnExactTypeOfRow.holds Try.pinned (OpenSpec.ofChange Rows.fnExactTypeOfSpec) :=
  OpenClaim.holds_of_wide 5 Try.f5 rfl rfl rfl rfl rfl rfl rfl ⟨rfl, rfl, rfl, rfl, rfl⟩ rfl rfl rfl rfl rfl (by kernel_rfl) Try.func5 (by kernel_rfl)
    (of_decide_eq_true (by kernel_rfl)) (by unfold Func.isWrapper; first | (rw [if_pos (by decide +kernel)]; kernel_rfl) | (rw [if_neg (by decide +kernel)]; exact ⟨rfl, rfl⟩))
    (fun os started H enc _ => lifted os started H enc)

/-- The given statement. -/
theorem proved : Rows.FnExactTypeOfSaid := over
#print axioms proved
end Go.Proofs.Ytbloedfbpclcoaa.fnExactTypeOf
