/-
  Four measures, plainly; no program. Conditions: none.
-/
import Derived.Test.YtlbjnblbjbdaaaaDoorRows
import Derived.Test.YtlbjnblbjbdaaaaDoorRow
namespace Go.Proofs.YtlbjnblbjbdaaaaDoor.Bnd
open Go.RowKit Rw
set_option linter.unusedVariables false

structure BP where
  d : Int
  c : Int
  n : Int
  b : Int
def BP.ok (x : BP) : Prop := OkI x.d ∧ OkI x.c ∧ OkI x.n ∧ OkI x.b
def BP.val (x : BP) : Value := .agg #[.int .i64 x.d, .int .i64 x.c, .int .i64 x.n, .int .i64 x.b]
theorem keep4 {w1 : World} {g : Nat} {v0 v1 v2 v3 : Value} {T : TypeId} (h1 : w1.heap[g]? = some (.cells #[v0, v1, v2, v3] T (0, 0))) :
    (w1.cell? ⟨g, 0, none⟩ = some v0 ∧ w1.cell? ⟨g, 1, none⟩ = some v1 ∧ w1.cell? ⟨g, 2, none⟩ = some v2 ∧ w1.cell? ⟨g, 3, none⟩ = some v3) ∧ (w1.frozen? ⟨g, 0, none⟩ = false ∧ w1.frozen? ⟨g, 1, none⟩ = false ∧ w1.frozen? ⟨g, 2, none⟩ = false ∧ w1.frozen? ⟨g, 3, none⟩ = false) := by
  simp [World.cell?, World.frozen?, h1]
end Go.Proofs.YtlbjnblbjbdaaaaDoor.Bnd
