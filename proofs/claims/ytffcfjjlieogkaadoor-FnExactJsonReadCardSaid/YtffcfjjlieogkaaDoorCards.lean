/-
  DERIVED. GIVEN WITH THE SEED: THE CARDS: each row of YtffcfjjlieogkaaDoorRows.lean that lists a variable, with what it lists TIED to the program's text (the seventh form; the later family's looks); each row that meets fmt, with fmt's text TOLD by the authors' own Lean function (tested against real Go, not proved from fmt's source: count such statements apart). THE CARD IS WHAT COUNTS. Prove the row's statement (the work); the ties are given (YtffcfjjlieogkaaDoorTie.lean); close each card by the builder's one call (the guide's Derived/Test/ToyasCard.lean, 'card_holds'). Laid BY PROGRAM, IN A SANDBOX (cutbox-door.mjs). By AI agents, Wed Nov 11 2026. No macro, syntax, notation, axiom, sorry.
-/
import Derived.Test.YtffcfjjlieogkaaDoorRows
import GoSem.ClaimSeven
namespace Go.Proofs.YtffcfjjlieogkaaDoor
namespace Rows

/-- THE TIED CARD OF 'laws.FnExactJsonRead'. -/
def fnExactJsonReadCard : Claim7 := { stood := { row := fnExactJsonReadRow, standIns := [], harness := (true, "3bcec07aa45e68829f280ccc5e34e58957a1a135e6f30ed8a22970bfc5148a37"), looks := true }, kinds := [], alts := [], laidByText := true, laidKinds := [.handle], laidTests := true, laidLooks := .later }
def FnExactJsonReadCardSaid : Prop := Claim7.holds Tryd.pinned (.plain (OpenSpec.ofChange fnExactJsonReadSpec)) fnExactJsonReadCard

/-- THE SECOND FORM's CARD OF 'laws.FnExactJsonRead'. -/
def fnExactJsonReadUptoCard : Claim7 := { stood := { row := fnExactJsonReadUptoRow, standIns := [], harness := (true, "3bcec07aa45e68829f280ccc5e34e58957a1a135e6f30ed8a22970bfc5148a37"), looks := true }, kinds := [], alts := [], laidByText := true, laidKinds := [.handle], laidTests := true, laidLooks := .later }
def FnExactJsonReadUptoCardSaid : Prop := Claim7.holds Tryd.pinned (.plain (OpenSpec.upto fnExactJsonReadSpec)) fnExactJsonReadUptoCard
end Rows
end Go.Proofs.YtffcfjjlieogkaaDoor
