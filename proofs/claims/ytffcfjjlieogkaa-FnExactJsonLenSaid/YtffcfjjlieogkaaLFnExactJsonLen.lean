/-
  For every Node, laws.FnExactJsonLen answers true: impl.JsonLen and spec.JsonLen answer alike, and the Node stays as it was. Conditions: none beyond the row's own.
-/
import Derived.Test.YtffcfjjlieogkaaRows
import Derived.WalkKit
import Derived.ProofKit
import Derived.OpenShut
import Derived.ShutString
import Derived.ChangeOld
import Derived.Below
import Derived.Test.YtffcfjjlieogkaaNodeO
import Derived.Test.YtffcfjjlieogkaaNodeZ
import Derived.Test.YtffcfjjlieogkaaNodeT
import Derived.Test.YtffcfjjlieogkaaNodeE
import Derived.Test.YtffcfjjlieogkaaJsL
namespace Go.Proofs.Ytffcfjjlieogkaa.fnExactJsonLen
open Go.ChangeShapes Go.WideShapes Go.ChangeAt Go.RowKit
open Go.ChangeMaps (open_string shut_string)
open Rw
set_option linter.unusedVariables false

theorem own : ownKnob Try.prog.godebug = none := by kernel_rfl
theorem laidOut : laidOutB Try.prog = true := by kernel_rfl

set_option maxHeartbeats 1000000 in
theorem walk (v0 : Value) (x0 : Rw.NodeP) (w : World) (w0 : ∃ n, Rw.NodeV n w 0 w.heap.size v0 x0) :
    Calls Try.prog 4 #[v0] w fun e w' => e = .returned (.bool true) ∧ Below w.heap.size w w' := by
  obtain ⟨n, hs⟩ := w0
  have HS := Lib.hid hs
  have hv : ∃ u0 u1 u2 u3, v0 = .agg #[u0, u1, u2, u3] := by
    cases n with
    | zero => exact hs.elim
    | succ n => obtain ⟨a, ca, c, cc, hv, _⟩ := hs; exact ⟨_, _, _, _, hv⟩
  obtain ⟨u0, u1, u2, u3, rfl⟩ := hv
  clear hs
  have HA : Hid (∀ o, Below w.heap.size w (w.alloc o)) := Lib.hid fun o => (Below.refl _ _).alloc (Nat.le_refl _) o
  have HAZ : Hid (∀ o, w.heap.size < (w.alloc o).heap.size) := Lib.hid fun o => by simp
  by_cases hbig : 1048576 < wtN n x0
  · have e1 : Rw.leftOf 1048576 (wtN n x0) = -1 := if_neg (by omega)
    go_enter Try.func4, Try.ntmps4
    go_wp2_with fail
    refine (szNode _ 0 w.heap.size _ x0 1048576 (HS.out.below (Nat.le_refl _) (HA.out _)) (HA.out _).size (by omega) (by omega)).mono ?_
    rintro e w1 ⟨rfl, hb1⟩
    rw [e1]
    have HB1 := Lib.hid ((HA.out _).trans (hb1.mono (HA.out _).size))
    clear hb1 hbig e1
    go_wp2_with fail
    go_ret
    exact ⟨rfl, HB1.out⟩
  have hwt : Hid (wtN n x0 ≤ 1048576) := Lib.hid (by omega)
  have hm0 : 0 ≤ Rw.leftOf 1048576 (wtN n x0) := by unfold Rw.leftOf; rw [if_pos (by omega)]; omega
  clear hbig
  go_enter Try.func4, Try.ntmps4
  go_wp2_with fail
  refine (szNode _ 0 w.heap.size _ x0 1048576 (HS.out.below (Nat.le_refl _) (HA.out _)) (HA.out _).size (by omega) (by omega)).mono ?_
  rintro e w1 ⟨rfl, hb1⟩
  generalize Rw.leftOf 1048576 (wtN n x0) = m at hm0 ⊢
  have HB1 := Lib.hid ((HA.out _).trans (hb1.mono (HA.out _).size))
  have K1 := (hb1.block w.heap.size (by simp)).trans (Go.Deep.blk_alloc_new _ _)
  have ⟨⟨k0, k1, k2, k3⟩, _⟩ := keep4 K1
  clear hb1
  go_wp2_with fail
  refine (toNode _ 0 w.heap.size _ x0 (HS.out.below (Nat.le_refl _) HB1.out) HB1.out.size hwt.out).mono ?_
  rintro e w2 ⟨⟨a2, c2, rfl, d2⟩, hb2⟩
  have HB2 := Lib.hid (HB1.out.trans (hb2.mono HB1.out.size))
  have D2 := Lib.hid d2.val
  have K2 := (hb2.block w.heap.size (lt_of_get K1)).trans K1
  clear hb2 d2 k0 k1 k2 k3
  go_wp2_with fail
  refine (specJsonLen _ _ _ _ x0 D2.out (Nat.le_refl _)).mono ?_
  rintro e w3 ⟨rfl, hb3⟩
  have HB3 := Lib.hid (HB2.out.trans (hb3.mono HB2.out.size))
  have K3 := (hb3.block w.heap.size (lt_of_get K2)).trans K2
  have ⟨⟨k0, k1, k2, k3⟩, _⟩ := keep4 K3
  clear hb3 K1
  generalize hpb : ((jsT n x0).size : Int) = p
  have HPB := Lib.hid hpb
  clear hpb
  go_wp2_with fail
  refine (toNode _ 0 w.heap.size _ x0 (HS.out.below (Nat.le_refl _) HB3.out) HB3.out.size hwt.out).mono ?_
  rintro e w4 ⟨⟨a4, c4, rfl, d4⟩, hb4⟩
  have HB4 := Lib.hid (HB3.out.trans (hb4.mono HB3.out.size))
  have D4 := Lib.hid d4.val
  have K4 := (hb4.block w.heap.size (lt_of_get K3)).trans K3
  clear hb4 d4 K2 k0 k1 k2 k3
  go_wp2_with fail
  have HX : Hid (∀ o, Below w4.heap.size w4 (w4.alloc o)) := Lib.hid fun o => (Below.refl _ _).alloc (Nat.le_refl _) o
  refine (implJsonLen _ _ _ _ x0 (D4.out.below (Nat.le_refl _) (HX.out _)) (HX.out _).size).mono ?_
  rintro e w5 ⟨rfl, hb5⟩
  rw [HPB.out]
  have HX5 := (HX.out _).trans (hb5.mono (HX.out _).size)
  have HB5 := Lib.hid (HB4.out.trans (HX5.mono HB4.out.size))
  have D5 := Lib.hid (((D4.out.wide (Nat.zero_le _) (Nat.le_refl _)).below (Nat.le_refl _) HX5).wide (Nat.le_refl _) HX5.size)
  have K5 := (HX5.block w.heap.size (lt_of_get K4)).trans K4
  have L5 := (hb5.block w4.heap.size (by simp)).trans (Go.Deep.blk_alloc_new _ _)
  have ⟨⟨k0, k1, k2, k3⟩, _⟩ := keep4 K5
  have ⟨⟨l0, l1, l2, l3⟩, _⟩ := keep4 L5
  have hgK := lt_of_get K5
  have hgL := lt_of_get L5
  clear hb5 HX5 K3 K4
  go_wp2_with fail
  have HB5d := Lib.hid HB5.out.drew
  have D5d := Lib.hid D5.out.drew
  have K5d := Lib.hid (show w5.drew.heap[w.heap.size]? = some (.cells #[u0, u1, u2, u3] 25 (0, 0)) from K5)
  have k0d : w5.drew.cell? ⟨w.heap.size, 0, none⟩ = _ := k0
  have k1d : w5.drew.cell? ⟨w.heap.size, 1, none⟩ = _ := k1
  have k2d : w5.drew.cell? ⟨w.heap.size, 2, none⟩ = _ := k2
  have k3d : w5.drew.cell? ⟨w.heap.size, 3, none⟩ = _ := k3
  have l0d : w5.drew.cell? ⟨w4.heap.size, 0, none⟩ = _ := l0
  have l1d : w5.drew.cell? ⟨w4.heap.size, 1, none⟩ = _ := l1
  have l2d : w5.drew.cell? ⟨w4.heap.size, 2, none⟩ = _ := l2
  have l3d : w5.drew.cell? ⟨w4.heap.size, 3, none⟩ = _ := l3
  have hgKd : w.heap.size < w5.drew.heap.size := hgK
  have hgLd : w4.heap.size < w5.drew.heap.size := hgL
  go_region_with (first
    | (go_at_call 7; refine (toNode _ 0 w.heap.size _ x0 (HS.out.below (Nat.le_refl _) HB5d.out) HB5d.out.size hwt.out).mono ?_; rintro e w6 ⟨⟨a6, c6, rfl, d6⟩, hb6⟩; have m0 := kcell hb6 hgLd l0d; have m1 := kcell hb6 hgLd l1d; have m2 := kcell hb6 hgLd l2d; have m3 := kcell hb6 hgLd l3d)
    | (go_at_call 9; refine (eqNode _ 0 _ _ _ x0 ((D5d.out.below (Nat.le_refl _) hb6).wide (Nat.le_refl _) hb6.size) (d6.val.wide (Nat.zero_le _) (Nat.le_refl _)) (Nat.le_refl _)).mono ?_; rintro e w7 ⟨rfl, hb7⟩))
  all_goals
    have HB6 := HB5d.out.trans (hb6.mono HB5d.out.size)
    have HB7 := Lib.hid (HB6.trans (hb7.mono HB6.size))
    clear hb6 hb7 HB6
    go_wp2_with fail
    go_ret
    exact ⟨rfl, HB7.out⟩

set_option maxRecDepth 100000 in
theorem lifted (os : Os) (started : os.Started) (H : Type) (enc : TypeId × Value → H) :
    ReturnsInHanded {} Try.checked os 4 .any (Rows.fnExactJsonLenSpec.pre6 enc Try.prog Try.f4 Rows.fnExactJsonLenRow.domain false) (Rows.fnExactJsonLenSpec.post enc Try.prog Try.f4 false true false false) := by
  refine returnsInHanded_of_change (C := Try.checked) own started (by kernel_rfl) Try.func4
    (ChangeSpec.witness6 (enc := enc) (C := Try.checked) false ⟨#[], #[.agg #[.int .i64 0, .string ByteArray.empty, .slice none 0 0, .slice none 0 0]], []⟩ 8 (by kernel_rfl) (by kernel_rfl) (by kernel_rfl) (by kernel_rfl)) ?_
  intro W base args ds gs before hval0 hW hcnd _
  have hval : ∀ (j : Nat) t v, Try.f4.params[j]? = some t → args[j]? = some v → Value.okWide Try.prog W .any base t v := hval0
  have hW' := hW
  obtain ⟨p, q, hA0, hV, rfl, hfz, hnd⟩ := hW
  have hA : DataW.TrodAll enc Try.prog W 0 (fun _ => true) true Try.f4.params.toList args.toList ds p := hA0
  rw [Try.params4] at hA hval
  obtain ⟨v0, vs0, d0, ds0, p0, q0, hargs, rfl, rfl, h0, r0⟩ := trodAll_cons hA
  obtain ⟨rfl, rfl, rfl⟩ := trodAll_nil r0
  obtain rfl : args = #[v0] := by cases args; simp_all
  obtain ⟨rfl, rfl⟩ := trodVars_none hV
  have k0 := h0
  have lt0 : ∀ x ∈ p0, x.block < W.heap.size := by obtain ⟨m, hm⟩ := k0; exact DataW.trod_lt m _ _ _ hm
  obtain ⟨x0, w0⟩ := Rw.openNode (hval 0 25 v0 rfl rfl) h0
  clear hA0 hval0
  refine (walk v0 x0 W w0).mono fun e W' ⟨he, bel⟩ => ?_
  subst he
  exact ⟨_, rfl, _, _, _, [], _, [], hW', trodAll_mk1 (shut_bool Try.underlying4 _), (trodAll_cons_mk (Below.trod laidOut (by kernel_rfl) (of_decide_eq_true (by kernel_rfl)) k0 bel lt0) trodAll_mk0), rfl, bel.frame _, fun h => by cases h⟩

theorem over : Rows.fnExactJsonLenRow.holds Try.pinned (OpenSpec.ofChange Rows.fnExactJsonLenSpec) :=
  OpenClaim.holds_of_wide 4 Try.f4 rfl rfl rfl rfl rfl rfl rfl ⟨rfl, rfl, rfl, rfl, rfl⟩ rfl rfl rfl rfl rfl (by kernel_rfl) Try.func4 (by kernel_rfl)
    (of_decide_eq_true (by kernel_rfl)) (by unfold Func.isWrapper; first | (rw [if_pos (by decide +kernel)]; kernel_rfl) | (rw [if_neg (by decide +kernel)]; exact ⟨rfl, rfl⟩))
    (fun os started H enc _ => lifted os started H enc)

/-- The given statement. -/
theorem proved : Rows.FnExactJsonLenSaid := over
#print axioms proved
end Go.Proofs.Ytffcfjjlieogkaa.fnExactJsonLen
