/-
  Contract: laws.eqNumOut answers true of two structs alike; of what was there nothing is changed. Conditions: none.
-/
import Derived.Test.YtlncdkeooacebaaDoorRows
import Derived.WalkKit
import Derived.Outline
import Derived.Lib.Hide
namespace Go.Proofs.YtlncdkeooacebaaDoor.EqNum
open Go.RowKit
set_option linter.unusedVariables false

theorem same (t a c : Int) (w : World) :
    Calls Tryd.prog 17 #[.agg #[.int .i64 t, .int .i64 a, .int .i64 c], .agg #[.int .i64 t, .int .i64 a, .int .i64 c]] w fun e w' => e = .returned (.bool true) ∧ Below w.heap.size w w' := by
  go_enter Tryd.func17, Tryd.ntmps17
  go_wp2_with fail
  go_ret
  exact ⟨rfl, ((Below.refl _ _).alloc (Nat.le_refl _) _).alloc (by simp) _⟩
end Go.Proofs.YtlncdkeooacebaaDoor.EqNum
