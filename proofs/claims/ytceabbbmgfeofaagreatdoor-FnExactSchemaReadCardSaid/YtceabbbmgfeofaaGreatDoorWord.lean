/-
  Contract: spec.TypeWord answers the plain function typeB of its bytes, and leaves the world as it is. Conditions: a text has at most maxLen bytes.
-/
import Derived.Test.YtceabbbmgfeofaaGreatDoorRows
import Derived.Test.YtceabbbmgfeofaaGreatDoorWordW
namespace Go.Proofs.YtceabbbmgfeofaaGreatDoor.Words
open Go.RowKit
set_option linter.unusedVariables false

theorem specTypeWord (s : ByteArray) (hs : s.size ≤ maxLen) (w : World) :
    Calls Tryz.prog 102 #[.string s] w fun e w' => e = .returned (.bool (typeB s)) ∧ w = w' := by
  go_enter Tryz.func102, Tryz.ntmps102
  go_wp2_with (go_at_call 148; refine (specOf s hs 65 90 (by omega) (by omega) _).mono ?_; rintro e w' ⟨rfl, rfl⟩)
  go_ret
  exact ⟨rfl, rfl⟩
end Go.Proofs.YtceabbbmgfeofaaGreatDoor.Words
