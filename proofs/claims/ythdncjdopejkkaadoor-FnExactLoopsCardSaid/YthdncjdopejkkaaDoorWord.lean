/-
  Contract: spec.TypeWord answers the plain function typeB of its bytes, and leaves the world as it is. Conditions: a text has at most maxLen bytes.
-/
import Derived.Test.YthdncjdopejkkaaDoorRows
import Derived.Test.YthdncjdopejkkaaDoorWordW
namespace Go.Proofs.YthdncjdopejkkaaDoor.Words
open Go.RowKit
set_option linter.unusedVariables false

theorem specTypeWord (s : ByteArray) (hs : s.size ≤ maxLen) (w : World) :
    Calls Tryd.prog 30 #[.string s] w fun e w' => e = .returned (.bool (typeB s)) ∧ w = w' := by
  go_enter Tryd.func30, Tryd.ntmps30
  go_wp2_with (go_at_call 47; refine (specOf s hs 65 90 (by omega) (by omega) _).mono ?_; rintro e w' ⟨rfl, rfl⟩)
  go_ret
  exact ⟨rfl, rfl⟩
end Go.Proofs.YthdncjdopejkkaaDoor.Words
