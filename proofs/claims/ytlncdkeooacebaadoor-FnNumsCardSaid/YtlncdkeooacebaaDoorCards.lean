/-
  DERIVED. GIVEN WITH THE SEED: THE CARDS: each row of YtlncdkeooacebaaDoorRows.lean that lists a variable, with what it lists TIED to the program's text (the seventh form; the later family's looks); each row that meets fmt, with fmt's text TOLD by the authors' own Lean function (tested against real Go, not proved from fmt's source: count such statements apart). THE CARD IS WHAT COUNTS. Prove the row's statement (the work); the ties are given (YtlncdkeooacebaaDoorTie.lean); close each card by the builder's one call (the guide's Derived/Test/ToyasCard.lean, 'card_holds'). Laid BY PROGRAM, IN A SANDBOX (cutbox-door.mjs). By AI agents, Wed Nov 11 2026. No macro, syntax, notation, axiom, sorry.
-/
import Derived.Test.YtlncdkeooacebaaDoorRows
import GoSem.ClaimSeven
namespace Go.Proofs.YtlncdkeooacebaaDoor
namespace Rows

/-- THE TIED CARD OF 'laws.FnNums'. -/
def fnNumsCard : Claim7 := { stood := { row := fnNumsRow, standIns := [], harness := (true, "03a28b4e93dee599f13ff7a3c38dbf234922a36b7749e223bb039cdc5f40c6f4"), looks := true }, kinds := [], alts := [], laidByText := true, laidKinds := [.handle], laidTests := true, laidLooks := .later }
def FnNumsCardSaid : Prop := Claim7.holds Tryd.pinned (.plain (OpenSpec.ofChange fnNumsSpec)) fnNumsCard

/-- THE TIED CARD OF 'laws.FnExactGetNum'. -/
def fnExactGetNumCard : Claim7 := { stood := { row := fnExactGetNumRow, standIns := [], harness := (true, "03a28b4e93dee599f13ff7a3c38dbf234922a36b7749e223bb039cdc5f40c6f4"), looks := true }, kinds := [], alts := [], laidByText := true, laidKinds := [.handle], laidTests := true, laidLooks := .later }
def FnExactGetNumCardSaid : Prop := Claim7.holds Tryd.pinned (.plain (OpenSpec.ofChange fnExactGetNumSpec)) fnExactGetNumCard

/-- THE TIED CARD OF 'laws.FnExactGetText'. -/
def fnExactGetTextCard : Claim7 := { stood := { row := fnExactGetTextRow, standIns := [], harness := (true, "03a28b4e93dee599f13ff7a3c38dbf234922a36b7749e223bb039cdc5f40c6f4"), looks := true }, kinds := [], alts := [], laidByText := true, laidKinds := [.handle], laidTests := true, laidLooks := .later }
def FnExactGetTextCardSaid : Prop := Claim7.holds Tryd.pinned (.plain (OpenSpec.ofChange fnExactGetTextSpec)) fnExactGetTextCard

/-- THE TIED CARD OF 'laws.FnExactLoops'. -/
def fnExactLoopsCard : Claim7 := { stood := { row := fnExactLoopsRow, standIns := [], harness := (true, "03a28b4e93dee599f13ff7a3c38dbf234922a36b7749e223bb039cdc5f40c6f4"), looks := true }, kinds := [], alts := [], laidByText := true, laidKinds := [.handle], laidTests := true, laidLooks := .later }
def FnExactLoopsCardSaid : Prop := Claim7.holds Tryd.pinned (.plain (OpenSpec.ofChange fnExactLoopsSpec)) fnExactLoopsCard

/-- THE TIED CARD OF 'laws.FnExactJsonRead'. -/
def fnExactJsonReadCard : Claim7 := { stood := { row := fnExactJsonReadRow, standIns := [], harness := (true, "03a28b4e93dee599f13ff7a3c38dbf234922a36b7749e223bb039cdc5f40c6f4"), looks := true }, kinds := [], alts := [], laidByText := true, laidKinds := [.handle], laidTests := true, laidLooks := .later }
def FnExactJsonReadCardSaid : Prop := Claim7.holds Tryd.pinned (.plain (OpenSpec.ofChange fnExactJsonReadSpec)) fnExactJsonReadCard

/-- THE SECOND FORM's CARD OF 'laws.FnNums'. -/
def fnNumsUptoCard : Claim7 := { stood := { row := fnNumsUptoRow, standIns := [], harness := (true, "03a28b4e93dee599f13ff7a3c38dbf234922a36b7749e223bb039cdc5f40c6f4"), looks := true }, kinds := [], alts := [], laidByText := true, laidKinds := [.handle], laidTests := true, laidLooks := .later }
def FnNumsUptoCardSaid : Prop := Claim7.holds Tryd.pinned (.plain (OpenSpec.upto fnNumsSpec)) fnNumsUptoCard

/-- THE SECOND FORM's CARD OF 'laws.FnExactGetNum'. -/
def fnExactGetNumUptoCard : Claim7 := { stood := { row := fnExactGetNumUptoRow, standIns := [], harness := (true, "03a28b4e93dee599f13ff7a3c38dbf234922a36b7749e223bb039cdc5f40c6f4"), looks := true }, kinds := [], alts := [], laidByText := true, laidKinds := [.handle], laidTests := true, laidLooks := .later }
def FnExactGetNumUptoCardSaid : Prop := Claim7.holds Tryd.pinned (.plain (OpenSpec.upto fnExactGetNumSpec)) fnExactGetNumUptoCard

/-- THE SECOND FORM's CARD OF 'laws.FnExactGetText'. -/
def fnExactGetTextUptoCard : Claim7 := { stood := { row := fnExactGetTextUptoRow, standIns := [], harness := (true, "03a28b4e93dee599f13ff7a3c38dbf234922a36b7749e223bb039cdc5f40c6f4"), looks := true }, kinds := [], alts := [], laidByText := true, laidKinds := [.handle], laidTests := true, laidLooks := .later }
def FnExactGetTextUptoCardSaid : Prop := Claim7.holds Tryd.pinned (.plain (OpenSpec.upto fnExactGetTextSpec)) fnExactGetTextUptoCard

/-- THE SECOND FORM's CARD OF 'laws.FnExactLoops'. -/
def fnExactLoopsUptoCard : Claim7 := { stood := { row := fnExactLoopsUptoRow, standIns := [], harness := (true, "03a28b4e93dee599f13ff7a3c38dbf234922a36b7749e223bb039cdc5f40c6f4"), looks := true }, kinds := [], alts := [], laidByText := true, laidKinds := [.handle], laidTests := true, laidLooks := .later }
def FnExactLoopsUptoCardSaid : Prop := Claim7.holds Tryd.pinned (.plain (OpenSpec.upto fnExactLoopsSpec)) fnExactLoopsUptoCard

/-- THE SECOND FORM's CARD OF 'laws.FnExactJsonRead'. -/
def fnExactJsonReadUptoCard : Claim7 := { stood := { row := fnExactJsonReadUptoRow, standIns := [], harness := (true, "03a28b4e93dee599f13ff7a3c38dbf234922a36b7749e223bb039cdc5f40c6f4"), looks := true }, kinds := [], alts := [], laidByText := true, laidKinds := [.handle], laidTests := true, laidLooks := .later }
def FnExactJsonReadUptoCardSaid : Prop := Claim7.holds Tryd.pinned (.plain (OpenSpec.upto fnExactJsonReadSpec)) fnExactJsonReadUptoCard
end Rows
end Go.Proofs.YtlncdkeooacebaaDoor
