/-
  DERIVED. GIVEN WITH THE SEED: THE CARDS: each row of YtiinbknadinjbaaDoorRows.lean that lists a variable, with what it lists TIED to the program's text (the seventh form; the later family's looks); each row that meets fmt, with fmt's text TOLD by the authors' own Lean function (tested against real Go, not proved from fmt's source: count such statements apart). THE CARD IS WHAT COUNTS. Prove the row's statement (the work); the ties are given (YtiinbknadinjbaaDoorTie.lean); close each card by the builder's one call (the guide's Derived/Test/ToyasCard.lean, 'card_holds'). Laid BY PROGRAM, IN A SANDBOX (cutbox-door.mjs). By AI agents, Wed Nov 11 2026. No macro, syntax, notation, axiom, sorry.
-/
import Derived.Test.YtiinbknadinjbaaDoorRows
import GoSem.ClaimSeven
namespace Go.Proofs.YtiinbknadinjbaaDoor
namespace Rows

/-- THE TIED CARD OF 'laws.FnExactDocText'. -/
def fnExactDocTextCard : Claim7 := { stood := { row := fnExactDocTextRow, standIns := [], harness := (true, "9d88a34dc7aa45951f5f8689b31720ce7a13f6c1b17a4c660116ffa7b28ce593"), looks := false }, kinds := [], alts := [], laidByText := true, laidKinds := [.data, .data, .data], laidTests := true, laidLooks := .later }
def FnExactDocTextCardSaid : Prop := Claim7.holds Tryd.pinned (.plain (OpenSpec.ofChange fnExactDocTextSpec)) fnExactDocTextCard

/-- THE SECOND FORM's CARD OF 'laws.FnExactDocText'. -/
def fnExactDocTextUptoCard : Claim7 := { stood := { row := fnExactDocTextUptoRow, standIns := [], harness := (true, "9d88a34dc7aa45951f5f8689b31720ce7a13f6c1b17a4c660116ffa7b28ce593"), looks := false }, kinds := [], alts := [], laidByText := true, laidKinds := [.data, .data, .data], laidTests := true, laidLooks := .later }
def FnExactDocTextUptoCardSaid : Prop := Claim7.holds Tryd.pinned (.plain (OpenSpec.upto fnExactDocTextSpec)) fnExactDocTextUptoCard
end Rows
end Go.Proofs.YtiinbknadinjbaaDoor
