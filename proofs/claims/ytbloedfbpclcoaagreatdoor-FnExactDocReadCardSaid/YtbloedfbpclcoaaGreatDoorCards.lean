/-
  DERIVED. GIVEN WITH THE SEED: THE CARDS: each row of YtbloedfbpclcoaaGreatDoorRows.lean that lists a variable, with what it lists TIED to the program's text (the seventh form; the later family's looks); each row that meets fmt, with fmt's text TOLD by the authors' own Lean function (tested against real Go, not proved from fmt's source: count such statements apart). THE CARD IS WHAT COUNTS. Prove the row's statement (the work); the ties are given (YtbloedfbpclcoaaGreatDoorTie.lean); close each card by the builder's one call (the guide's Derived/Test/ToyasCard.lean, 'card_holds'). Laid BY PROGRAM, IN A SANDBOX (cutbox-door.mjs). By AI agents, Wed Nov 11 2026. No macro, syntax, notation, axiom, sorry.
-/
import Derived.Test.YtbloedfbpclcoaaGreatDoorRows
import GoSem.ClaimSeven
namespace Go.Proofs.YtbloedfbpclcoaaGreatDoor
namespace Rows

/-- THE TIED CARD OF 'laws.FnText'. -/
def fnTextCard : Claim7 := { stood := { row := fnTextRow, standIns := [], harness := (true, "d4c4a3d92f952707885e339b4ec7ebb2c36e843431eb66bd30b00346c01915b9"), looks := true }, kinds := [], alts := [], laidByText := true, laidKinds := [.data, .data, .data, .data, .handle, .sentinel, .sentinel, .pinned], laidTests := true, laidLooks := .later }
def FnTextCardSaid : Prop := Claim7.holds Tryz.pinned (.plain (OpenSpec.ofChange fnTextSpec)) fnTextCard

/-- THE TIED CARD OF 'laws.FnExactDocRead'. -/
def fnExactDocReadCard : Claim7 := { stood := { row := fnExactDocReadRow, standIns := [], harness := (true, "d4c4a3d92f952707885e339b4ec7ebb2c36e843431eb66bd30b00346c01915b9"), looks := true }, kinds := [], alts := [], laidByText := true, laidKinds := [.data, .data, .data, .data, .handle, .sentinel, .sentinel, .pinned], laidTests := true, laidLooks := .later }
def FnExactDocReadCardSaid : Prop := Claim7.holds Tryz.pinned (.plain (OpenSpec.ofChange fnExactDocReadSpec)) fnExactDocReadCard

/-- THE TIED CARD OF 'laws.FnExactSchemaRead'. -/
def fnExactSchemaReadCard : Claim7 := { stood := { row := fnExactSchemaReadRow, standIns := [], harness := (true, "d4c4a3d92f952707885e339b4ec7ebb2c36e843431eb66bd30b00346c01915b9"), looks := true }, kinds := [], alts := [], laidByText := true, laidKinds := [.data, .data, .data, .data, .sentinel, .sentinel, .pinned], laidTests := true, laidLooks := .later }
def FnExactSchemaReadCardSaid : Prop := Claim7.holds Tryz.pinned (.plain (OpenSpec.ofChange fnExactSchemaReadSpec)) fnExactSchemaReadCard

/-- THE SECOND FORM's CARD OF 'laws.FnText'. -/
def fnTextUptoCard : Claim7 := { stood := { row := fnTextUptoRow, standIns := [], harness := (true, "d4c4a3d92f952707885e339b4ec7ebb2c36e843431eb66bd30b00346c01915b9"), looks := true }, kinds := [], alts := [], laidByText := true, laidKinds := [.data, .data, .data, .data, .handle, .sentinel, .sentinel, .pinned], laidTests := true, laidLooks := .later }
def FnTextUptoCardSaid : Prop := Claim7.holds Tryz.pinned (.plain (OpenSpec.upto fnTextSpec)) fnTextUptoCard

/-- THE SECOND FORM's CARD OF 'laws.FnExactDocRead'. -/
def fnExactDocReadUptoCard : Claim7 := { stood := { row := fnExactDocReadUptoRow, standIns := [], harness := (true, "d4c4a3d92f952707885e339b4ec7ebb2c36e843431eb66bd30b00346c01915b9"), looks := true }, kinds := [], alts := [], laidByText := true, laidKinds := [.data, .data, .data, .data, .handle, .sentinel, .sentinel, .pinned], laidTests := true, laidLooks := .later }
def FnExactDocReadUptoCardSaid : Prop := Claim7.holds Tryz.pinned (.plain (OpenSpec.upto fnExactDocReadSpec)) fnExactDocReadUptoCard

/-- THE SECOND FORM's CARD OF 'laws.FnExactSchemaRead'. -/
def fnExactSchemaReadUptoCard : Claim7 := { stood := { row := fnExactSchemaReadUptoRow, standIns := [], harness := (true, "d4c4a3d92f952707885e339b4ec7ebb2c36e843431eb66bd30b00346c01915b9"), looks := true }, kinds := [], alts := [], laidByText := true, laidKinds := [.data, .data, .data, .data, .sentinel, .sentinel, .pinned], laidTests := true, laidLooks := .later }
def FnExactSchemaReadUptoCardSaid : Prop := Claim7.holds Tryz.pinned (.plain (OpenSpec.upto fnExactSchemaReadSpec)) fnExactSchemaReadUptoCard
end Rows
end Go.Proofs.YtbloedfbpclcoaaGreatDoor
