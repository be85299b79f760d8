/-
  Contract: impl.TypeWord answers the plain function typeB of its bytes, and leaves the world as it is. Conditions: a text has at most maxLen bytes.
-/
import Derived.Test.YthdncjdopejkkaaDoorRows
import Derived.Test.YthdncjdopejkkaaDoorImplWordW
import Derived.Test.YthdncjdopejkkaaDoorWord
namespace Go.Proofs.YthdncjdopejkkaaDoor.Words
open Go.RowKit
set_option linter.unusedVariables false

theorem implTypeWord (s : ByteArray) (hs : s.size ≤ maxLen) (w : World) :
    Calls Tryd.prog 66 #[.string s] w fun e w' => e = .returned (.bool (typeB s)) ∧ w = w' := by
  go_enter Tryd.func66, Tryd.ntmps66
  go_wp2_with (go_at_call 68; refine (implOf s hs 65 90 (by omega) (by omega) _).mono ?_; rintro e w' ⟨rfl, rfl⟩)
  go_ret
  exact ⟨rfl, rfl⟩
end Go.Proofs.YthdncjdopejkkaaDoor.Words
