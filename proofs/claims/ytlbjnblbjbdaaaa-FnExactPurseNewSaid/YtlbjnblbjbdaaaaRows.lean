/-
  No cell of these rows narrows 'for every input' (looked for: loops, veiled, ifaces, maps, wideKeys, modest, calm, conditions, laid).
  DERIVED. THE GIVEN ROWS OF THIS SEAT. 3 by the template 'for every input the law returns true; each argument reads behind the call as it read before'; 0 by the template 'total and deterministic' (their statements: YtlbjnblbjbdaaaaTotals.lean).
  GIVEN WITH THE SEED: the statements are not yours to turn. If you find one false, say at which input.
  Laid BY PROGRAM, IN A SANDBOX (cutbox-rows.mjs): the forced cells as the released guide's own fill.sh prints them over the translation c602eec1b8edcd2d… (all of the seat's roots in one cut). By AI agents, Wed Nov 11 2026. No macro, syntax, notation, axiom, sorry.
-/
import Derived.Test.YtlbjnblbjbdaaaaChecked
import GoSem.Claim
import GoSem.ClaimJoined
import GoSem.ClaimMapViews
import Derived.JoinedTies
import Derived.KernelRfl
namespace Go.Proofs.Ytlbjnblbjbdaaaa
/- THE CELL 'sum', in the pinned program and in every row, IS THE sha256 OF THE DUMP (.gsa) THAT YtlbjnblbjbdaaaaProg.lean LOADS. Nothing in Lean hashes anything: it is a label: what it is worth is what the hold of that sum in a sandbox is worth. -/
noncomputable def Try.pinned : Pinned := { name := "ytlbjnblbjbdaaaa", sum := "c602eec1b8edcd2d6254349c75f92fade55a4039ea3e33c21dc4ad251900bbfe", checked := Try.checked }
namespace Rows
def none {H : Type} : Left H := { results := [], args := [] }

/-- 'laws.FnExactPurseRight': WHATEVER THE INPUT: true; the input reads as it did. -/
def fnExactPurseRightSpec : ChangeSpec := { name := "fnExactPurseRight", fn := fun _ => fun
  | [d] => { results := [.lit (.bool true)], args := [d] }
  | _ => none }
def fnExactPurseRightRow : OpenClaim := { program := "ytlbjnblbjbdaaaa", sum := "c602eec1b8edcd2d6254349c75f92fade55a4039ea3e33c21dc4ad251900bbfe", func := "loop.example/g00836/laws.FnExactPurseRight", spec := "fnExactPurseRight", apart := false }
def FnExactPurseRightSaid : Prop := fnExactPurseRightRow.holds Try.pinned (OpenSpec.ofChange fnExactPurseRightSpec)

/-- ITS FALSE NEIGHBOUR: 'it returns false'. Refute it at one input. -/
def fnExactPurseRightWrong : ChangeSpec := { name := "fnExactPurseRight", fn := fun _ => fun
  | [d] => { results := [.lit (.bool false)], args := [d] }
  | _ => none }
def FnExactPurseRightWrongFalsely : Prop := fnExactPurseRightRow.holds Try.pinned (OpenSpec.ofChange fnExactPurseRightWrong)

/-- 'laws.FnExactPurseNew': WHATEVER THE INPUT: true; the input reads as it did. -/
def fnExactPurseNewSpec : ChangeSpec := { name := "fnExactPurseNew", fn := fun _ => fun
  | [d1, d2, d3] => { results := [.lit (.bool true)], args := [d1, d2, d3] }
  | _ => none }
def fnExactPurseNewRow : OpenClaim := { program := "ytlbjnblbjbdaaaa", sum := "c602eec1b8edcd2d6254349c75f92fade55a4039ea3e33c21dc4ad251900bbfe", func := "loop.example/g00836/laws.FnExactPurseNew", spec := "fnExactPurseNew", apart := false }
def FnExactPurseNewSaid : Prop := fnExactPurseNewRow.holds Try.pinned (OpenSpec.ofChange fnExactPurseNewSpec)

/-- ITS FALSE NEIGHBOUR: 'it returns false'. Refute it at one input. -/
def fnExactPurseNewWrong : ChangeSpec := { name := "fnExactPurseNew", fn := fun _ => fun
  | [d1, d2, d3] => { results := [.lit (.bool false)], args := [d1, d2, d3] }
  | _ => none }
def FnExactPurseNewWrongFalsely : Prop := fnExactPurseNewRow.holds Try.pinned (OpenSpec.ofChange fnExactPurseNewWrong)

/-- 'laws.FnExactPurseAt': WHATEVER THE INPUT: true; the input reads as it did. -/
def fnExactPurseAtSpec : ChangeSpec := { name := "fnExactPurseAt", fn := fun _ => fun
  | [d1, d2] => { results := [.lit (.bool true)], args := [d1, d2] }
  | _ => none }
def fnExactPurseAtRow : OpenClaim := { program := "ytlbjnblbjbdaaaa", sum := "c602eec1b8edcd2d6254349c75f92fade55a4039ea3e33c21dc4ad251900bbfe", func := "loop.example/g00836/laws.FnExactPurseAt", spec := "fnExactPurseAt", unfollowed := true, recurses := true, apart := false }
def FnExactPurseAtSaid : Prop := fnExactPurseAtRow.holds Try.pinned (OpenSpec.ofChange fnExactPurseAtSpec)

/-- ITS FALSE NEIGHBOUR: 'it returns false'. Refute it at one input. -/
def fnExactPurseAtWrong : ChangeSpec := { name := "fnExactPurseAt", fn := fun _ => fun
  | [d1, d2] => { results := [.lit (.bool false)], args := [d1, d2] }
  | _ => none }
def FnExactPurseAtWrongFalsely : Prop := fnExactPurseAtRow.holds Try.pinned (OpenSpec.ofChange fnExactPurseAtWrong)

/- THE SECOND FORM. 'bulk': how many values and letters a reading holds, each counted each time it is reached (what is shared counts as often as it is met; a slice's spare places count too). A statement '..UptoSaid' is the law's where the arguments, and the package variables that the reading takes, are together of bulk at most 1048576: NARROWER than '..Said'. Prove '..Said' where nothing that the law and all that it calls make is longer than what came in: it says more and counts as full. Else prove '..UptoSaid'. A law counts once. -/
mutual
def uptoBulk {H : Type} : DataW H → Nat
  | .lit (.string bytes) => bytes.length + 1
  | .lit _ => 1
  | .nil => 1
  | .ptr d => uptoBulk d + 1
  | .slice elems spare => uptoBulkAll elems + uptoBulkAll spare + 1
  | .agg parts => uptoBulkAll parts + 1
  | .iface _ d => uptoBulk d + 1
  | .map entries => uptoBulkEntries entries + 1
  | .held _ => 1
def uptoBulkAll {H : Type} : List (DataW H) → Nat
  | [] => 0
  | d :: r => uptoBulk d + uptoBulkAll r
def uptoBulkEntries {H : Type} : List (Lit × DataW H) → Nat
  | [] => 0
  | x :: r => uptoBulkEntry x + uptoBulkEntries r
def uptoBulkEntry {H : Type} : Lit × DataW H → Nat
  | (.string bytes, d) => bytes.length + uptoBulk d + 1
  | (_, d) => uptoBulk d + 1
 end
def uptoSmall : (H : Type) → List (DataW H) → Bool := fun _ ds => decide (uptoBulkAll ds ≤ 1048576)
def OpenSpec.upto (s : _root_.Go.ChangeSpec) : _root_.Go.OpenSpec := { _root_.Go.OpenSpec.ofChange s with cond := some uptoSmall }

/-- 'laws.FnExactPurseRight', WHERE WHAT IT READS IS OF BULK AT MOST 1048576: true; the input reads as it did. -/
def fnExactPurseRightUptoRow : OpenClaim := { program := "ytlbjnblbjbdaaaa", sum := "c602eec1b8edcd2d6254349c75f92fade55a4039ea3e33c21dc4ad251900bbfe", func := "loop.example/g00836/laws.FnExactPurseRight", spec := "fnExactPurseRight", apart := false, narrowed := true }
def FnExactPurseRightUptoSaid : Prop := fnExactPurseRightUptoRow.holds Try.pinned (OpenSpec.upto fnExactPurseRightSpec)

/-- 'laws.FnExactPurseNew', WHERE WHAT IT READS IS OF BULK AT MOST 1048576: true; the input reads as it did. -/
def fnExactPurseNewUptoRow : OpenClaim := { program := "ytlbjnblbjbdaaaa", sum := "c602eec1b8edcd2d6254349c75f92fade55a4039ea3e33c21dc4ad251900bbfe", func := "loop.example/g00836/laws.FnExactPurseNew", spec := "fnExactPurseNew", apart := false, narrowed := true }
def FnExactPurseNewUptoSaid : Prop := fnExactPurseNewUptoRow.holds Try.pinned (OpenSpec.upto fnExactPurseNewSpec)

/-- 'laws.FnExactPurseAt', WHERE WHAT IT READS IS OF BULK AT MOST 1048576: true; the input reads as it did. -/
def fnExactPurseAtUptoRow : OpenClaim := { program := "ytlbjnblbjbdaaaa", sum := "c602eec1b8edcd2d6254349c75f92fade55a4039ea3e33c21dc4ad251900bbfe", func := "loop.example/g00836/laws.FnExactPurseAt", spec := "fnExactPurseAt", unfollowed := true, recurses := true, apart := false, narrowed := true }
def FnExactPurseAtUptoSaid : Prop := fnExactPurseAtUptoRow.holds Try.pinned (OpenSpec.upto fnExactPurseAtSpec)

end Rows
end Go.Proofs.Ytlbjnblbjbdaaaa
