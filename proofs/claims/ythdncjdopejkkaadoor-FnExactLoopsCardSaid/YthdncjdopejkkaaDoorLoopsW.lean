/-
  The field What of a struct that a call gave back; what Loops tells, plainly, of a Doc that is right or not. Conditions: none.
-/
import Derived.Test.YthdncjdopejkkaaDoorRows
import Derived.Test.YthdncjdopejkkaaDoorLoopL
import Derived.Test.YthdncjdopejkkaaDoorValidA
namespace Go.Proofs.YthdncjdopejkkaaDoor.Selss
open Go.RowKit Words
set_option linter.unusedVariables false
set_option maxRecDepth 100000

theorem loopsD_no {d : DocP} (h : docB d = false) : loopsD d = ⟨#[]⟩ := by unfold loopsD; rw [if_neg (by rw [h]; simp)]
theorem loopsD_yes {d : DocP} (h : docB d = true) : loopsD d = loopN d.frags d.frags := by unfold loopsD; rw [if_pos h]
theorem field_what (x : ByteArray) (c : Int) (W : World) : Sem.run Tryd.prog (Instr.field 41 (.agg #[.string x, .int .i64 c]) 0) W = .ok (.string x) W := by rfl
end Go.Proofs.YthdncjdopejkkaaDoor.Selss
