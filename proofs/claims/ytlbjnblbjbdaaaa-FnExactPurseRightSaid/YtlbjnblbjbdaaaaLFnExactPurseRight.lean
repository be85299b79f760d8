/-
  For every Purse, laws.FnExactPurseRight answers true: impl.PurseRight and spec.PurseRight answer alike. Conditions: none beyond the row's own.
-/
import Derived.Test.YtlbjnblbjbdaaaaRows
import Derived.WalkKit
import Derived.ProofKit
import Derived.OpenShut
import Derived.ShutString
import Derived.ChangeOld
import Derived.Below
import Derived.Test.YtlbjnblbjbdaaaaPurP
namespace Go.Proofs.Ytlbjnblbjbdaaaa.fnExactPurseRight
open Go.ChangeShapes Go.WideShapes Go.ChangeAt Go.RowKit
open Go.ChangeMaps (open_string shut_string)
open Bnd Pur Rw
set_option linter.unusedVariables false

theorem own : ownKnob Try.prog.godebug = none := by kernel_rfl
theorem laidOut : laidOutB Try.prog = true := by kernel_rfl

set_option maxRecDepth 100000 in
set_option maxHeartbeats 4000000 in
theorem walk (v0 : Value) (x0 : Bnd.BP) (w : World) (w0 : v0 = x0.val ∧ x0.ok) :
    Calls Try.prog 3 #[v0] w fun e w' => e = .returned (.bool true) ∧ Below w.heap.size w w' := by
  obtain ⟨rfl, hx⟩ := w0
  have CS0 := Lib.hid fun w => specPurseRight w x0 hx
  have CI0 := Lib.hid fun w => implPurseRight w x0 hx
  have CT0 := Lib.hid fun w => toPurse w x0 hx
  generalize purB x0 = T at *
  obtain ⟨d, c, n, b⟩ := x0
  simp only [BP.val] at *
  clear hx
  have HA : Hid (∀ o1, Below w.heap.size w (w.alloc o1) ∧ (w.alloc o1).heap[w.heap.size]? = some o1) := Lib.hid fun o1 => ⟨(Below.refl _ _).alloc (Nat.le_refl _) o1, Go.Deep.blk_alloc_new _ _⟩
  go_enter Try.func3, Try.ntmps3
  go_wp2_with fail
  refine (CT0.out _).mono ?_
  rintro e w1 ⟨rfl, b1⟩
  go_wp2_with fail
  refine (CS0.out _).mono ?_
  rintro e w2 ⟨rfl, b2⟩
  have B2 : Hid (Below w.heap.size w w2 ∧ w2.heap[w.heap.size]? = some (.cells #[.int .i64 d, .int .i64 c, .int .i64 n, .int .i64 b] 23 (0, 0))) := Lib.hid (by
    obtain ⟨h1, h2⟩ := HA.out (.cells #[.int .i64 d, .int .i64 c, .int .i64 n, .int .i64 b] 23)
    have hl := lt_of_get h2
    have hl1 := Nat.lt_of_lt_of_le hl b1.size
    exact ⟨(h1.trans (b1.mono h1.size)).trans (b2.mono (Nat.le_trans h1.size b1.size)), (b2.block _ hl1).trans ((b1.block _ hl).trans h2)⟩)
  have ⟨⟨p0, p1, p2, p3⟩, _⟩ := keep4 B2.out.2
  clear b1 b2 HA
  go_wp2_with fail
  refine (CT0.out _).mono ?_
  rintro e w3 ⟨rfl, b3⟩
  go_wp2_with fail
  refine (CI0.out _).mono ?_
  rintro e w4 ⟨rfl, b4⟩
  have B4 : Hid (Below w.heap.size w w4) := Lib.hid ((B2.out.1.trans (b3.mono B2.out.1.size)).trans (b4.mono (Nat.le_trans B2.out.1.size b3.size)))
  clear b3 b4 B2 p0 p1 p2 p3
  cases T
  all_goals
    go_wp2_with fail
    go_ret
    exact ⟨rfl, B4.out⟩

set_option maxRecDepth 100000 in
theorem lifted (os : Os) (started : os.Started) (H : Type) (enc : TypeId × Value → H) :
    ReturnsInHanded {} Try.checked os 3 .any (Rows.fnExactPurseRightSpec.pre6 enc Try.prog Try.f3 Rows.fnExactPurseRightRow.domain false) (Rows.fnExactPurseRightSpec.post enc Try.prog Try.f3 false true false false) := by
  refine returnsInHanded_of_change (C := Try.checked) own started (by kernel_rfl) Try.func3
    (ChangeSpec.witness6 (enc := enc) (C := Try.checked) false ⟨#[], #[.agg #[.int .i64 0, .int .i64 0, .int .i64 0, .int .i64 0]], []⟩ 8 (by kernel_rfl) (by kernel_rfl) (by kernel_rfl) (by kernel_rfl)) ?_
  intro W base args ds gs before hval0 hW hcnd _
  have hval : ∀ (j : Nat) t v, Try.f3.params[j]? = some t → args[j]? = some v → Value.okWide Try.prog W .any base t v := hval0
  have hW' := hW
  obtain ⟨p, q, hA0, hV, rfl, hfz, hnd⟩ := hW
  have hA : DataW.TrodAll enc Try.prog W 0 (fun _ => true) true Try.f3.params.toList args.toList ds p := hA0
  rw [Try.params3] at hA hval
  obtain ⟨v0, vs0, d0, ds0, p0, q0, hargs, rfl, rfl, h0, r0⟩ := trodAll_cons hA
  obtain ⟨rfl, rfl, rfl⟩ := trodAll_nil r0
  obtain rfl : args = #[v0] := by cases args; simp_all
  obtain ⟨rfl, rfl⟩ := trodVars_none hV
  have k0 := h0
  have lt0 : ∀ x ∈ p0, x.block < W.heap.size := by obtain ⟨m, hm⟩ := k0; exact DataW.trod_lt m _ _ _ hm
  obtain ⟨x0, w0⟩ := Pur.openPurse (hval 0 23 v0 rfl rfl) h0
  clear hA0 hval0
  refine (walk v0 x0 W w0).mono fun e W' ⟨he, bel⟩ => ?_
  subst he
  exact ⟨_, rfl, _, _, _, [], _, [], hW', trodAll_mk1 (shut_bool Try.underlying4 _), (trodAll_cons_mk (Below.trod laidOut (by kernel_rfl) (of_decide_eq_true (by kernel_rfl)) k0 bel lt0) trodAll_mk0), rfl, bel.frame _, fun h => by cases h⟩

theorem over : Rows.fnExactPurseRightRow.holds Try.pinned (OpenSpec.ofChange Rows.fnExactPurseRightSpec) :=
  OpenClaim.holds_of_wide 3 Try.f3 rfl rfl rfl rfl rfl rfl rfl ⟨rfl, rfl, rfl, rfl, rfl⟩ rfl rfl rfl rfl rfl (by kernel_rfl) Try.func3 (by kernel_rfl)
    (of_decide_eq_true (by kernel_rfl)) (by unfold Func.isWrapper; first | (rw [if_pos (by decide +kernel)]; kernel_rfl) | (rw [if_neg (by decide +kernel)]; exact ⟨rfl, rfl⟩))
    (fun os started H enc _ => lifted os started H enc)

/-- The given statement. -/
theorem proved : Rows.FnExactPurseRightSaid := over
#print axioms proved
end Go.Proofs.Ytlbjnblbjbdaaaa.fnExactPurseRight
