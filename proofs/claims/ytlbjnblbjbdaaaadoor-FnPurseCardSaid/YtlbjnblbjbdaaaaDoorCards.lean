/-
  DERIVED. GIVEN WITH THE SEED: THE CARDS: each row of YtlbjnblbjbdaaaaDoorRows.lean that lists a variable, with what it lists TIED to the program's text (the seventh form; the later family's looks); each row that meets fmt, with fmt's text TOLD by the authors' own Lean function (tested against real Go, not proved from fmt's source: count such statements apart). THE CARD IS WHAT COUNTS. Prove the row's statement (the work); the ties are given (YtlbjnblbjbdaaaaDoorTie.lean); close each card by the builder's one call (the guide's Derived/Test/ToyasCard.lean, 'card_holds'). Laid BY PROGRAM, IN A SANDBOX (cutbox-door.mjs). By AI agents, Wed Nov 11 2026. No macro, syntax, notation, axiom, sorry.
-/
import Derived.Test.YtlbjnblbjbdaaaaDoorRows
import GoSem.ClaimSeven
namespace Go.Proofs.YtlbjnblbjbdaaaaDoor
namespace Rows

/-- THE TIED CARD OF 'laws.FnPurse'. -/
def fnPurseCard : Claim7 := { stood := { row := fnPurseRow, standIns := [], harness := (true, "0f83b2312193f4d57865698c227137b735ab1b799f52a458b733cadda29c0537"), looks := true }, kinds := [], alts := [], laidByText := true, laidKinds := [.handle], laidTests := true, laidLooks := .later }
def FnPurseCardSaid : Prop := Claim7.holds Tryd.pinned (.plain (OpenSpec.ofChange fnPurseSpec)) fnPurseCard

/-- THE TIED CARD OF 'laws.FnExactPurseAsk'. -/
def fnExactPurseAskCard : Claim7 := { stood := { row := fnExactPurseAskRow, standIns := [], harness := (true, "0f83b2312193f4d57865698c227137b735ab1b799f52a458b733cadda29c0537"), looks := true }, kinds := [], alts := [], laidByText := true, laidKinds := [.handle], laidTests := true, laidLooks := .later }
def FnExactPurseAskCardSaid : Prop := Claim7.holds Tryd.pinned (.plain (OpenSpec.ofChange fnExactPurseAskSpec)) fnExactPurseAskCard

/-- THE SECOND FORM's CARD OF 'laws.FnPurse'. -/
def fnPurseUptoCard : Claim7 := { stood := { row := fnPurseUptoRow, standIns := [], harness := (true, "0f83b2312193f4d57865698c227137b735ab1b799f52a458b733cadda29c0537"), looks := true }, kinds := [], alts := [], laidByText := true, laidKinds := [.handle], laidTests := true, laidLooks := .later }
def FnPurseUptoCardSaid : Prop := Claim7.holds Tryd.pinned (.plain (OpenSpec.upto fnPurseSpec)) fnPurseUptoCard

/-- THE SECOND FORM's CARD OF 'laws.FnExactPurseAsk'. -/
def fnExactPurseAskUptoCard : Claim7 := { stood := { row := fnExactPurseAskUptoRow, standIns := [], harness := (true, "0f83b2312193f4d57865698c227137b735ab1b799f52a458b733cadda29c0537"), looks := true }, kinds := [], alts := [], laidByText := true, laidKinds := [.handle], laidTests := true, laidLooks := .later }
def FnExactPurseAskUptoCardSaid : Prop := Claim7.holds Tryd.pinned (.plain (OpenSpec.upto fnExactPurseAskSpec)) fnExactPurseAskUptoCard
end Rows
end Go.Proofs.YtlbjnblbjbdaaaaDoor
