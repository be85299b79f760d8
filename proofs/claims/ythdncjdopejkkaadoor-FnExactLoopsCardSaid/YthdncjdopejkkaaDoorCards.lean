/-
  DERIVED. GIVEN WITH THE SEED: THE CARDS: each row of YthdncjdopejkkaaDoorRows.lean that lists a variable, with what it lists TIED to the program's text (the seventh form; the later family's looks); each row that meets fmt, with fmt's text TOLD by the authors' own Lean function (tested against real Go, not proved from fmt's source: count such statements apart). THE CARD IS WHAT COUNTS. Prove the row's statement (the work); the ties are given (YthdncjdopejkkaaDoorTie.lean); close each card by the builder's one call (the guide's Derived/Test/ToyasCard.lean, 'card_holds'). Laid BY PROGRAM, IN A SANDBOX (cutbox-door.mjs). By AI agents, Wed Nov 11 2026. No macro, syntax, notation, axiom, sorry.
-/
import Derived.Test.YthdncjdopejkkaaDoorRows
import GoSem.ClaimSeven
namespace Go.Proofs.YthdncjdopejkkaaDoor
namespace Rows

/-- THE TIED CARD OF 'laws.FnExactLoops'. -/
def fnExactLoopsCard : Claim7 := { stood := { row := fnExactLoopsRow, standIns := [], harness := (true, "569308f6459d78b04edc17f343ab44b7e1bb526f9bac7a4cbfeaf3307f4fc6ef"), looks := true }, kinds := [], alts := [], laidByText := true, laidKinds := [.handle], laidTests := true, laidLooks := .later }
def FnExactLoopsCardSaid : Prop := Claim7.holds Tryd.pinned (.plain (OpenSpec.ofChange fnExactLoopsSpec)) fnExactLoopsCard

/-- THE TIED CARD OF 'laws.FnExactClash'. -/
def fnExactClashCard : Claim7 := { stood := { row := fnExactClashRow, standIns := [], harness := (true, "569308f6459d78b04edc17f343ab44b7e1bb526f9bac7a4cbfeaf3307f4fc6ef"), looks := true }, kinds := [], alts := [], laidByText := true, laidKinds := [.handle], laidTests := true, laidLooks := .later }
def FnExactClashCardSaid : Prop := Claim7.holds Tryd.pinned (.plain (OpenSpec.ofChange fnExactClashSpec)) fnExactClashCard

/-- THE SECOND FORM's CARD OF 'laws.FnExactLoops'. -/
def fnExactLoopsUptoCard : Claim7 := { stood := { row := fnExactLoopsUptoRow, standIns := [], harness := (true, "569308f6459d78b04edc17f343ab44b7e1bb526f9bac7a4cbfeaf3307f4fc6ef"), looks := true }, kinds := [], alts := [], laidByText := true, laidKinds := [.handle], laidTests := true, laidLooks := .later }
def FnExactLoopsUptoCardSaid : Prop := Claim7.holds Tryd.pinned (.plain (OpenSpec.upto fnExactLoopsSpec)) fnExactLoopsUptoCard

/-- THE SECOND FORM's CARD OF 'laws.FnExactClash'. -/
def fnExactClashUptoCard : Claim7 := { stood := { row := fnExactClashUptoRow, standIns := [], harness := (true, "569308f6459d78b04edc17f343ab44b7e1bb526f9bac7a4cbfeaf3307f4fc6ef"), looks := true }, kinds := [], alts := [], laidByText := true, laidKinds := [.handle], laidTests := true, laidLooks := .later }
def FnExactClashUptoCardSaid : Prop := Claim7.holds Tryd.pinned (.plain (OpenSpec.upto fnExactClashSpec)) fnExactClashUptoCard
end Rows
end Go.Proofs.YthdncjdopejkkaaDoor
