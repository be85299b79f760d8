/-
  DERIVED. GIVEN WITH THE SEED: THE CARDS: each row of YtceabbbmgfeofaaGreatDoorRows.lean that lists a variable, with what it lists TIED to the program's text (the seventh form; the later family's looks); each row that meets fmt, with fmt's text TOLD by the authors' own Lean function (tested against real Go, not proved from fmt's source: count such statements apart). THE CARD IS WHAT COUNTS. Prove the row's statement (the work); the ties are given (YtceabbbmgfeofaaGreatDoorTie.lean); close each card by the builder's one call (the guide's Derived/Test/ToyasCard.lean, 'card_holds'). Laid BY PROGRAM, IN A SANDBOX (cutbox-door.mjs). By AI agents, Wed Nov 11 2026. No macro, syntax, notation, axiom, sorry.
-/
import Derived.Test.YtceabbbmgfeofaaGreatDoorRows
import GoSem.ClaimSeven
namespace Go.Proofs.YtceabbbmgfeofaaGreatDoor
namespace Rows

/-- THE TIED CARD OF 'laws.FnValid'. -/
def fnValidCard : Claim7 := { stood := { row := fnValidRow, standIns := [], harness := (true, "dfc945adc23806cbe1a1435b1abf1e21feebf9eaf4410f287a28740e91ee347a"), looks := true }, kinds := [], alts := [], laidByText := true, laidKinds := [.handle], laidTests := true, laidLooks := .later }
def FnValidCardSaid : Prop := Claim7.holds Tryz.pinned (.plain (OpenSpec.ofChange fnValidSpec)) fnValidCard

/-- THE TIED CARD OF 'laws.FnExactSchemaRead'. -/
def fnExactSchemaReadCard : Claim7 := { stood := { row := fnExactSchemaReadRow, standIns := [], harness := (true, "dfc945adc23806cbe1a1435b1abf1e21feebf9eaf4410f287a28740e91ee347a"), looks := true }, kinds := [], alts := [], laidByText := true, laidKinds := [.data, .data, .data, .data, .sentinel, .sentinel, .pinned], laidTests := true, laidLooks := .later }
def FnExactSchemaReadCardSaid : Prop := Claim7.holds Tryz.pinned (.plain (OpenSpec.ofChange fnExactSchemaReadSpec)) fnExactSchemaReadCard

/-- THE TIED CARD OF 'laws.FnExactValidate'. -/
def fnExactValidateCard : Claim7 := { stood := { row := fnExactValidateRow, standIns := [], harness := (true, "dfc945adc23806cbe1a1435b1abf1e21feebf9eaf4410f287a28740e91ee347a"), looks := true }, kinds := [], alts := [], laidByText := true, laidKinds := [.handle], laidTests := true, laidLooks := .later }
def FnExactValidateCardSaid : Prop := Claim7.holds Tryz.pinned (.plain (OpenSpec.ofChange fnExactValidateSpec)) fnExactValidateCard

/-- THE SECOND FORM's CARD OF 'laws.FnValid'. -/
def fnValidUptoCard : Claim7 := { stood := { row := fnValidUptoRow, standIns := [], harness := (true, "dfc945adc23806cbe1a1435b1abf1e21feebf9eaf4410f287a28740e91ee347a"), looks := true }, kinds := [], alts := [], laidByText := true, laidKinds := [.handle], laidTests := true, laidLooks := .later }
def FnValidUptoCardSaid : Prop := Claim7.holds Tryz.pinned (.plain (OpenSpec.upto fnValidSpec)) fnValidUptoCard

/-- THE SECOND FORM's CARD OF 'laws.FnExactSchemaRead'. -/
def fnExactSchemaReadUptoCard : Claim7 := { stood := { row := fnExactSchemaReadUptoRow, standIns := [], harness := (true, "dfc945adc23806cbe1a1435b1abf1e21feebf9eaf4410f287a28740e91ee347a"), looks := true }, kinds := [], alts := [], laidByText := true, laidKinds := [.data, .data, .data, .data, .sentinel, .sentinel, .pinned], laidTests := true, laidLooks := .later }
def FnExactSchemaReadUptoCardSaid : Prop := Claim7.holds Tryz.pinned (.plain (OpenSpec.upto fnExactSchemaReadSpec)) fnExactSchemaReadUptoCard

/-- THE SECOND FORM's CARD OF 'laws.FnExactValidate'. -/
def fnExactValidateUptoCard : Claim7 := { stood := { row := fnExactValidateUptoRow, standIns := [], harness := (true, "dfc945adc23806cbe1a1435b1abf1e21feebf9eaf4410f287a28740e91ee347a"), looks := true }, kinds := [], alts := [], laidByText := true, laidKinds := [.handle], laidTests := true, laidLooks := .later }
def FnExactValidateUptoCardSaid : Prop := Claim7.holds Tryz.pinned (.plain (OpenSpec.upto fnExactValidateSpec)) fnExactValidateUptoCard
end Rows
end Go.Proofs.YtceabbbmgfeofaaGreatDoor
