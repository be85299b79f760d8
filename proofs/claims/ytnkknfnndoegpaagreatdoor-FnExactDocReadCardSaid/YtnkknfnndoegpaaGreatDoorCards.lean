/-
  DERIVED. GIVEN WITH THE SEED: THE CARDS: each row of YtnkknfnndoegpaaGreatDoorRows.lean that lists a variable, with what it lists TIED to the program's text (the seventh form; the later family's looks); each row that meets fmt, with fmt's text TOLD by the authors' own Lean function (tested against real Go, not proved from fmt's source: count such statements apart). THE CARD IS WHAT COUNTS. Prove the row's statement (the work); the ties are given (YtnkknfnndoegpaaGreatDoorTie.lean); close each card by the builder's one call (the guide's Derived/Test/ToyasCard.lean, 'card_holds'). Laid BY PROGRAM, IN A SANDBOX (cutbox-door.mjs). By AI agents, Wed Nov 11 2026. No macro, syntax, notation, axiom, sorry.
-/
import Derived.Test.YtnkknfnndoegpaaGreatDoorRows
import GoSem.ClaimSeven
namespace Go.Proofs.YtnkknfnndoegpaaGreatDoor
namespace Rows

/-- THE TIED CARD OF 'laws.FnExactDocRead'. -/
def fnExactDocReadCard : Claim7 := { stood := { row := fnExactDocReadRow, standIns := [], harness := (true, "c3bbbc6fadd19c198f446cfc39472452fa0df7e98c2735bc65462a31863074e3"), looks := true }, kinds := [], alts := [], laidByText := true, laidKinds := [.data, .data, .data, .data, .handle, .sentinel, .sentinel, .pinned], laidTests := true, laidLooks := .later }
def FnExactDocReadCardSaid : Prop := Claim7.holds Tryz.pinned (.plain (OpenSpec.ofChange fnExactDocReadSpec)) fnExactDocReadCard

/-- THE SECOND FORM's CARD OF 'laws.FnExactDocRead'. -/
def fnExactDocReadUptoCard : Claim7 := { stood := { row := fnExactDocReadUptoRow, standIns := [], harness := (true, "c3bbbc6fadd19c198f446cfc39472452fa0df7e98c2735bc65462a31863074e3"), looks := true }, kinds := [], alts := [], laidByText := true, laidKinds := [.data, .data, .data, .data, .handle, .sentinel, .sentinel, .pinned], laidTests := true, laidLooks := .later }
def FnExactDocReadUptoCardSaid : Prop := Claim7.holds Tryz.pinned (.plain (OpenSpec.upto fnExactDocReadSpec)) fnExactDocReadUptoCard
end Rows
end Go.Proofs.YtnkknfnndoegpaaGreatDoor
