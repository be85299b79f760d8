/-
  Contract: impl.TypeWord answers the plain function typeB of its bytes, and leaves the world as it is. Conditions: a text has at most maxLen bytes.
-/
import Derived.Test.YtfcpihoegfbofaaRows
import Derived.Test.YtfcpihoegfbofaaImplWordW
import Derived.Test.YtfcpihoegfbofaaWord
namespace Go.Proofs.Ytfcpihoegfbofaa.Words
open Go.RowKit
set_option linter.unusedVariables false

theorem implTypeWord (s : ByteArray) (hs : s.size ≤ maxLen) (w : World) :
    Calls Try.prog 37 #[.string s] w fun e w' => e = .returned (.bool (typeB s)) ∧ w = w' := by
  go_enter Try.func37, Try.ntmps37
  go_wp2_with (go_at_call 44; refine (implOf s hs 65 90 (by omega) (by omega) _).mono ?_; rintro e w' ⟨rfl, rfl⟩)
  go_ret
  exact ⟨rfl, rfl⟩
end Go.Proofs.Ytfcpihoegfbofaa.Words
