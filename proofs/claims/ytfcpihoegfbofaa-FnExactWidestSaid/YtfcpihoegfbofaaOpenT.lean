/-
  What an argument reads as, opened: rows of texts. Conditions: none.
-/
import Derived.Test.YtfcpihoegfbofaaRows
import Derived.Test.YtfcpihoegfbofaaOpenR
namespace Go.Proofs.Ytfcpihoegfbofaa.Rw
open Go.RowKit Go.ChangeShapes Go.WideShapes
set_option linter.unusedVariables false
set_option maxRecDepth 100000

theorem coStrs : Try.prog.cellsOf 36 = 1 := by kernel_rfl
section
variable {H : Type} {enc : TypeId × Value → H} {w : World} {sp : Nat → Bool} {hd : Bool}
theorem openTexts {fuel : Nat} {cs : List Value} {x : DataW H × List MemPlace} (h : DataW.trod enc Try.prog w 0 sp hd fuel 36 cs = some x) : ∃ a len cap l, cs = [.slice a len cap] ∧ TextsAt w 0 w.heap.size a len l ∧ len ≤ cap :=
  openRow Try.underlying36 coStr (by omega) (fun m cs y h hl => by
    obtain ⟨s, rfl, _, ws⟩ := DataW.trod_string Try.underlying9 h
    unfold maxLen at ws
    exact ⟨s, fun b off hc => ⟨by unfold OkS; omega, hc 0 (by omega)⟩⟩) h
end
end Go.Proofs.Ytfcpihoegfbofaa.Rw
