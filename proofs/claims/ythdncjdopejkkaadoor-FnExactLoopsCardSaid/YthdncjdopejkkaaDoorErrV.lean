/-
  What is wrong of a question, as errors that may stand within others, plainly; no program. Conditions: none.
-/
import Derived.Test.YthdncjdopejkkaaDoorRows
import Derived.Test.YthdncjdopejkkaaDoorRow
namespace Go.Proofs.YthdncjdopejkkaaDoor.ErrW
open Go.RowKit
set_option linter.unusedVariables false
set_option maxRecDepth 100000

/-! ### what is wrong, and what it stands within -/
inductive Leaf where
  | form : Leaf
  | none (s : ByteArray) : Leaf
  | there (s : ByteArray) : Leaf
  | range (s : ByteArray) : Leaf
  | state (s : ByteArray) : Leaf
def Leaf.typ : Leaf → TypeId
  | .form => 80
  | .none _ => 69
  | .there _ => 70
  | .range _ => 71
  | .state _ => 72
def Leaf.pay : Leaf → Value
  | .form => .agg #[.int .i64 1]
  | .none s => .string s
  | .there s => .string s
  | .range s => .string s
  | .state s => .string s
def Leaf.txt : Leaf → ByteArray
  | .form => ⟨#[]⟩
  | .none s => s
  | .there s => s
  | .range s => s
  | .state s => s
def Leaf.code : Leaf → Int
  | .form => 1
  | .none _ => 6
  | .there _ => 7
  | .range _ => 8
  | .state _ => 10
/-- An error: what is wrong, within others. -/
inductive ErrP where
  | leaf (l : Leaf) : ErrP
  | stand (i : ByteArray) (e : ErrP) : ErrP
def ErrP.val : ErrP → Value
  | .leaf l => .iface l.typ l.pay
  | .stand i e => .iface 94 (.agg #[.string i, e.val])
def ErrP.last : ErrP → Leaf
  | .leaf l => l
  | .stand _ e => e.last
end Go.Proofs.YthdncjdopejkkaaDoor.ErrW
