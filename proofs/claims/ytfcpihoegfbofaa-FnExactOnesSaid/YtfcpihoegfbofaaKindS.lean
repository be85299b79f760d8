/-
  Contract: impl.SchemaRight answers what is right of a schema; of what was there nothing is changed. Conditions: in memory.
-/
import Derived.Test.YtfcpihoegfbofaaRows
import Derived.Test.YtfcpihoegfbofaaKindF
namespace Go.Proofs.Ytfcpihoegfbofaa.Rw
open Go.RowKit Go.Maps Words
set_option linter.unusedVariables false
set_option maxRecDepth 100000

set_option maxHeartbeats 4000000 in
/-- The program's and the model's word on a schema. -/
theorem implSchemaRight' (w : World) (A B : Nat) (v : Value) (s : List TypeP) (hv : SchemaAt w A B v s) (hB : B ≤ w.heap.size) :
    Calls Try.prog 15 #[v] w fun e w' => e = .returned (.bool (kindsB s)) ∧ Below w.heap.size w w' := by
  have C := Lib.hid (fun o => implKindsOf (w.alloc o) A B v s (hv.below (C := w.heap.size) hB ((Below.refl _ _).alloc (Nat.le_refl _) o)) (Nat.le_trans hB (by simp)))
  have HA : Hid (∀ o1, Below w.heap.size w (w.alloc o1)) := Lib.hid fun o1 => (Below.refl _ _).alloc (Nat.le_refl _) o1
  obtain ⟨a, ca, rfl, _, _⟩ := hv
  go_enter Try.func15, Try.ntmps15
  go_wp2_with fail
  refine (C.out _).mono ?_
  rintro e w1 ⟨ho, hb1⟩
  have HB1 := Lib.hid ((HA.out _).trans (hb1.mono (HA.out _).size))
  rcases ho with ⟨hk, b, n, D, rfl, _, _⟩ | ⟨hk, rfl⟩
  all_goals
    have HK := Lib.hid hk
    clear hk hb1
    go_wp2_with fail
    go_ret
    exact ⟨ret_bool HK.out.symm, HB1.out⟩
theorem implSchemaRight (w : World) (A B : Nat) (v : Value) (s : List TypeP) (hv : SchemaAt w A B v s) (hB : B ≤ w.heap.size) :
    Calls Try.prog 15 #[v] w fun e w' => e = .returned (.bool (schemaB s)) ∧ Below w.heap.size w w' := by
  rw [← kindsB_eq]; exact implSchemaRight' w A B v s hv hB
end Go.Proofs.Ytfcpihoegfbofaa.Rw
