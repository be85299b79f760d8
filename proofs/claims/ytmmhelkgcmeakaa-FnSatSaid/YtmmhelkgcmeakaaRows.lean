/-
  No cell of these rows narrows 'for every input' (looked for: loops, veiled, ifaces, maps, wideKeys, modest, calm, conditions, laid).
  DERIVED. THE GIVEN ROWS OF THIS SEAT. 6 by the template 'for every input the law returns true; each argument reads behind the call as it read before'; 0 by the template 'total and deterministic' (their statements: YtmmhelkgcmeakaaTotals.lean).
  GIVEN WITH THE SEED: the statements are not yours to turn. If you find one false, say at which input.
  Laid BY PROGRAM, IN A SANDBOX (cutbox-rows.mjs): the forced cells as the released guide's own fill.sh prints them over the translation 266bc78f6c3098b1… (all of the seat's roots in one cut). By AI agents, Wed Nov 11 2026. No macro, syntax, notation, axiom, sorry.
-/
import Derived.Test.YtmmhelkgcmeakaaChecked
import GoSem.Claim
import GoSem.ClaimJoined
import GoSem.ClaimMapViews
import Derived.JoinedTies
import Derived.KernelRfl
namespace Go.Proofs.Ytmmhelkgcmeakaa
/- THE CELL 'sum', in the pinned program and in every row, IS THE sha256 OF THE DUMP (.gsa) THAT YtmmhelkgcmeakaaProg.lean LOADS. Nothing in Lean hashes anything: it is a label: what it is worth is what the hold of that sum in a sandbox is worth. -/
noncomputable def Try.pinned : Pinned := { name := "ytmmhelkgcmeakaa", sum := "266bc78f6c3098b1e16501970a36f882e4e85fb08daf505d9a08e6c78c80bcac", checked := Try.checked }
namespace Rows
def none {H : Type} : Left H := { results := [], args := [] }

/-- 'laws.FnSat': WHATEVER THE INPUT: true; the input reads as it did. -/
def fnSatSpec : ChangeSpec := { name := "fnSat", fn := fun _ => fun
  | [d1, d2] => { results := [.lit (.bool true)], args := [d1, d2] }
  | _ => none }
def fnSatRow : OpenClaim := { program := "ytmmhelkgcmeakaa", sum := "266bc78f6c3098b1e16501970a36f882e4e85fb08daf505d9a08e6c78c80bcac", func := "loop.example/g00836/laws.FnSat", spec := "fnSat", apart := false }
def FnSatSaid : Prop := fnSatRow.holds Try.pinned (OpenSpec.ofChange fnSatSpec)

/-- ITS FALSE NEIGHBOUR: 'it returns false'. Refute it at one input. -/
def fnSatWrong : ChangeSpec := { name := "fnSat", fn := fun _ => fun
  | [d1, d2] => { results := [.lit (.bool false)], args := [d1, d2] }
  | _ => none }
def FnSatWrongFalsely : Prop := fnSatRow.holds Try.pinned (OpenSpec.ofChange fnSatWrong)

/-- 'laws.FnExactSatAdd': WHATEVER THE INPUT: true; the input reads as it did. -/
def fnExactSatAddSpec : ChangeSpec := { name := "fnExactSatAdd", fn := fun _ => fun
  | [d1, d2] => { results := [.lit (.bool true)], args := [d1, d2] }
  | _ => none }
def fnExactSatAddRow : OpenClaim := { program := "ytmmhelkgcmeakaa", sum := "266bc78f6c3098b1e16501970a36f882e4e85fb08daf505d9a08e6c78c80bcac", func := "loop.example/g00836/laws.FnExactSatAdd", spec := "fnExactSatAdd", apart := false }
def FnExactSatAddSaid : Prop := fnExactSatAddRow.holds Try.pinned (OpenSpec.ofChange fnExactSatAddSpec)

/-- ITS FALSE NEIGHBOUR: 'it returns false'. Refute it at one input. -/
def fnExactSatAddWrong : ChangeSpec := { name := "fnExactSatAdd", fn := fun _ => fun
  | [d1, d2] => { results := [.lit (.bool false)], args := [d1, d2] }
  | _ => none }
def FnExactSatAddWrongFalsely : Prop := fnExactSatAddRow.holds Try.pinned (OpenSpec.ofChange fnExactSatAddWrong)

/-- 'laws.FnExactSatMul': WHATEVER THE INPUT: true; the input reads as it did. -/
def fnExactSatMulSpec : ChangeSpec := { name := "fnExactSatMul", fn := fun _ => fun
  | [d1, d2] => { results := [.lit (.bool true)], args := [d1, d2] }
  | _ => none }
def fnExactSatMulRow : OpenClaim := { program := "ytmmhelkgcmeakaa", sum := "266bc78f6c3098b1e16501970a36f882e4e85fb08daf505d9a08e6c78c80bcac", func := "loop.example/g00836/laws.FnExactSatMul", spec := "fnExactSatMul", apart := false }
def FnExactSatMulSaid : Prop := fnExactSatMulRow.holds Try.pinned (OpenSpec.ofChange fnExactSatMulSpec)

/-- ITS FALSE NEIGHBOUR: 'it returns false'. Refute it at one input. -/
def fnExactSatMulWrong : ChangeSpec := { name := "fnExactSatMul", fn := fun _ => fun
  | [d1, d2] => { results := [.lit (.bool false)], args := [d1, d2] }
  | _ => none }
def FnExactSatMulWrongFalsely : Prop := fnExactSatMulRow.holds Try.pinned (OpenSpec.ofChange fnExactSatMulWrong)

/-- 'laws.FnExactSatMax': WHATEVER THE INPUT: true; the input reads as it did. -/
def fnExactSatMaxSpec : ChangeSpec := { name := "fnExactSatMax", fn := fun _ => fun
  | [d1, d2] => { results := [.lit (.bool true)], args := [d1, d2] }
  | _ => none }
def fnExactSatMaxRow : OpenClaim := { program := "ytmmhelkgcmeakaa", sum := "266bc78f6c3098b1e16501970a36f882e4e85fb08daf505d9a08e6c78c80bcac", func := "loop.example/g00836/laws.FnExactSatMax", spec := "fnExactSatMax", apart := false }
def FnExactSatMaxSaid : Prop := fnExactSatMaxRow.holds Try.pinned (OpenSpec.ofChange fnExactSatMaxSpec)

/-- ITS FALSE NEIGHBOUR: 'it returns false'. Refute it at one input. -/
def fnExactSatMaxWrong : ChangeSpec := { name := "fnExactSatMax", fn := fun _ => fun
  | [d1, d2] => { results := [.lit (.bool false)], args := [d1, d2] }
  | _ => none }
def FnExactSatMaxWrongFalsely : Prop := fnExactSatMaxRow.holds Try.pinned (OpenSpec.ofChange fnExactSatMaxWrong)

/-- 'laws.FnExactSatSum': WHATEVER THE INPUT: true; the input reads as it did. -/
def fnExactSatSumSpec : ChangeSpec := { name := "fnExactSatSum", fn := fun _ => fun
  | [d] => { results := [.lit (.bool true)], args := [d] }
  | _ => none }
def fnExactSatSumRow : OpenClaim := { program := "ytmmhelkgcmeakaa", sum := "266bc78f6c3098b1e16501970a36f882e4e85fb08daf505d9a08e6c78c80bcac", func := "loop.example/g00836/laws.FnExactSatSum", spec := "fnExactSatSum", apart := false }
def FnExactSatSumSaid : Prop := fnExactSatSumRow.holds Try.pinned (OpenSpec.ofChange fnExactSatSumSpec)

/-- ITS FALSE NEIGHBOUR: 'it returns false'. Refute it at one input. -/
def fnExactSatSumWrong : ChangeSpec := { name := "fnExactSatSum", fn := fun _ => fun
  | [d] => { results := [.lit (.bool false)], args := [d] }
  | _ => none }
def FnExactSatSumWrongFalsely : Prop := fnExactSatSumRow.holds Try.pinned (OpenSpec.ofChange fnExactSatSumWrong)

/-- 'laws.FnExactQuotedLen': WHATEVER THE INPUT: true; the input reads as it did. -/
def fnExactQuotedLenSpec : ChangeSpec := { name := "fnExactQuotedLen", fn := fun _ => fun
  | [d] => { results := [.lit (.bool true)], args := [d] }
  | _ => none }
def fnExactQuotedLenRow : OpenClaim := { program := "ytmmhelkgcmeakaa", sum := "266bc78f6c3098b1e16501970a36f882e4e85fb08daf505d9a08e6c78c80bcac", func := "loop.example/g00836/laws.FnExactQuotedLen", spec := "fnExactQuotedLen", apart := false }
def FnExactQuotedLenSaid : Prop := fnExactQuotedLenRow.holds Try.pinned (OpenSpec.ofChange fnExactQuotedLenSpec)

/-- ITS FALSE NEIGHBOUR: 'it returns false'. Refute it at one input. -/
def fnExactQuotedLenWrong : ChangeSpec := { name := "fnExactQuotedLen", fn := fun _ => fun
  | [d] => { results := [.lit (.bool false)], args := [d] }
  | _ => none }
def FnExactQuotedLenWrongFalsely : Prop := fnExactQuotedLenRow.holds Try.pinned (OpenSpec.ofChange fnExactQuotedLenWrong)

/- THE SECOND FORM. 'bulk': how many values and letters a reading holds, each counted each time it is reached (what is shared counts as often as it is met; a slice's spare places count too). A statement '..UptoSaid' is the law's where the arguments, and the package variables that the reading takes, are together of bulk at most 1048576: NARROWER than '..Said'. Prove '..Said' where nothing that the law and all that it calls make is longer than what came in: it says more and counts as full. Else prove '..UptoSaid'. A law counts once. -/
mutual
def uptoBulk {H : Type} : DataW H → Nat
  | .lit (.string bytes) => bytes.length + 1
  | .lit _ => 1
  | .nil => 1
  | .ptr d => uptoBulk d + 1
  | .slice elems spare => uptoBulkAll elems + uptoBulkAll spare + 1
  | .agg parts => uptoBulkAll parts + 1
  | .iface _ d => uptoBulk d + 1
  | .map entries => uptoBulkEntries entries + 1
  | .held _ => 1
def uptoBulkAll {H : Type} : List (DataW H) → Nat
  | [] => 0
  | d :: r => uptoBulk d + uptoBulkAll r
def uptoBulkEntries {H : Type} : List (Lit × DataW H) → Nat
  | [] => 0
  | x :: r => uptoBulkEntry x + uptoBulkEntries r
def uptoBulkEntry {H : Type} : Lit × DataW H → Nat
  | (.string bytes, d) => bytes.length + uptoBulk d + 1
  | (_, d) => uptoBulk d + 1
 end
def uptoSmall : (H : Type) → List (DataW H) → Bool := fun _ ds => decide (uptoBulkAll ds ≤ 1048576)
def OpenSpec.upto (s : _root_.Go.ChangeSpec) : _root_.Go.OpenSpec := { _root_.Go.OpenSpec.ofChange s with cond := some uptoSmall }

/-- 'laws.FnSat', WHERE WHAT IT READS IS OF BULK AT MOST 1048576: true; the input reads as it did. -/
def fnSatUptoRow : OpenClaim := { program := "ytmmhelkgcmeakaa", sum := "266bc78f6c3098b1e16501970a36f882e4e85fb08daf505d9a08e6c78c80bcac", func := "loop.example/g00836/laws.FnSat", spec := "fnSat", apart := false, narrowed := true }
def FnSatUptoSaid : Prop := fnSatUptoRow.holds Try.pinned (OpenSpec.upto fnSatSpec)

/-- 'laws.FnExactSatAdd', WHERE WHAT IT READS IS OF BULK AT MOST 1048576: true; the input reads as it did. -/
def fnExactSatAddUptoRow : OpenClaim := { program := "ytmmhelkgcmeakaa", sum := "266bc78f6c3098b1e16501970a36f882e4e85fb08daf505d9a08e6c78c80bcac", func := "loop.example/g00836/laws.FnExactSatAdd", spec := "fnExactSatAdd", apart := false, narrowed := true }
def FnExactSatAddUptoSaid : Prop := fnExactSatAddUptoRow.holds Try.pinned (OpenSpec.upto fnExactSatAddSpec)

/-- 'laws.FnExactSatMul', WHERE WHAT IT READS IS OF BULK AT MOST 1048576: true; the input reads as it did. -/
def fnExactSatMulUptoRow : OpenClaim := { program := "ytmmhelkgcmeakaa", sum := "266bc78f6c3098b1e16501970a36f882e4e85fb08daf505d9a08e6c78c80bcac", func := "loop.example/g00836/laws.FnExactSatMul", spec := "fnExactSatMul", apart := false, narrowed := true }
def FnExactSatMulUptoSaid : Prop := fnExactSatMulUptoRow.holds Try.pinned (OpenSpec.upto fnExactSatMulSpec)

/-- 'laws.FnExactSatMax', WHERE WHAT IT READS IS OF BULK AT MOST 1048576: true; the input reads as it did. -/
def fnExactSatMaxUptoRow : OpenClaim := { program := "ytmmhelkgcmeakaa", sum := "266bc78f6c3098b1e16501970a36f882e4e85fb08daf505d9a08e6c78c80bcac", func := "loop.example/g00836/laws.FnExactSatMax", spec := "fnExactSatMax", apart := false, narrowed := true }
def FnExactSatMaxUptoSaid : Prop := fnExactSatMaxUptoRow.holds Try.pinned (OpenSpec.upto fnExactSatMaxSpec)

/-- 'laws.FnExactSatSum', WHERE WHAT IT READS IS OF BULK AT MOST 1048576: true; the input reads as it did. -/
def fnExactSatSumUptoRow : OpenClaim := { program := "ytmmhelkgcmeakaa", sum := "266bc78f6c3098b1e16501970a36f882e4e85fb08daf505d9a08e6c78c80bcac", func := "loop.example/g00836/laws.FnExactSatSum", spec := "fnExactSatSum", apart := false, narrowed := true }
def FnExactSatSumUptoSaid : Prop := fnExactSatSumUptoRow.holds Try.pinned (OpenSpec.upto fnExactSatSumSpec)

/-- 'laws.FnExactQuotedLen', WHERE WHAT IT READS IS OF BULK AT MOST 1048576: true; the input reads as it did. -/
def fnExactQuotedLenUptoRow : OpenClaim := { program := "ytmmhelkgcmeakaa", sum := "266bc78f6c3098b1e16501970a36f882e4e85fb08daf505d9a08e6c78c80bcac", func := "loop.example/g00836/laws.FnExactQuotedLen", spec := "fnExactQuotedLen", apart := false, narrowed := true }
def FnExactQuotedLenUptoSaid : Prop := fnExactQuotedLenUptoRow.holds Try.pinned (OpenSpec.upto fnExactQuotedLenSpec)

end Rows
end Go.Proofs.Ytmmhelkgcmeakaa
