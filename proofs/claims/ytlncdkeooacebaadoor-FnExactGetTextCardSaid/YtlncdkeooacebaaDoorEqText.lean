/-
  Contract: laws.eqTextOut answers true of two structs alike; of what was there nothing is changed. Conditions: none.
-/
import Derived.Test.YtlncdkeooacebaaDoorRows
import Derived.WalkKit
import Derived.Outline
import Derived.Lib.Hide
namespace Go.Proofs.YtlncdkeooacebaaDoor.EqText
open Go.RowKit
set_option linter.unusedVariables false

theorem same (t : ByteArray) (a c : Int) (w : World) :
    Calls Tryd.prog 19 #[.agg #[.string t, .int .i64 a, .int .i64 c], .agg #[.string t, .int .i64 a, .int .i64 c]] w fun e w' => e = .returned (.bool true) ∧ Below w.heap.size w w' := by
  go_enter Tryd.func19, Tryd.ntmps19
  go_wp2_with fail
  go_ret
  exact ⟨rfl, ((Below.refl _ _).alloc (Nat.le_refl _) _).alloc (by simp) _⟩
end Go.Proofs.YtlncdkeooacebaaDoor.EqText
