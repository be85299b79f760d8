/-
  What the library's variables hold, as the calls need it, and that it lasts; no program. Conditions: as each theorem says.
-/
import Derived.Test.YtnkknfnndoegpaaGreatDoorRows
import Derived.Test.YtnkknfnndoegpaaGreatDoorFmt
import Derived.Test.YtnkknfnndoegpaaGreatDoorErrAs
namespace Go.Proofs.YtnkknfnndoegpaaGreatDoor.Decs
open Go.RowKit ErrAs
set_option linter.unusedVariables false

structure VarsNow (w : World) : Prop where
  pow : Lib.TabIs Tryz.prog w "internal/strconv.uint64pow10" .u64 Lib.pow10Tab
  max : ∃ m, w.cell? ⟨1, 0, none⟩ = some (.int .i64 m)
  syn : ∃ t x, w.cell? ⟨4, 0, none⟩ = some (.iface t x)
  rng : ∃ t x, w.cell? ⟨5, 0, none⟩ = some (.iface t x)
  err : ErrVar w
/-- So it is, and goes on so whatever is written from block B on. -/
def Vars (B : Nat) (w : World) : Prop := ∀ w', Below B w w' → VarsNow w'
theorem Vars.here {B : Nat} {w : World} (h : Vars B w) : VarsNow w := h w (Below.refl _ _)
theorem Vars.on {B : Nat} {w w1 : World} (h : Vars B w) (hb : Below B w w1) : Vars B w1 := fun w' g => h w' (hb.trans g)
theorem Vars.mono {B C : Nat} {w : World} (h : Vars B w) (hB : B ≤ C) : Vars C w := fun w' hb => h w' (hb.mono hB)
theorem Vars.over {B : Nat} {w w1 : World} (h : Vars B w) (hB : B ≤ w.heap.size) (hb : Below w.heap.size w w1) : Vars B w1 := h.on (hb.mono hB)
theorem Vars.new {w w1 : World} (h : Vars w.heap.size w) (hb : Below w.heap.size w w1) : Vars w1.heap.size w1 := (h.on hb).mono hb.size
theorem Vars.pow {B : Nat} {w : World} (h : Vars B w) : Pow B w := fun w' hb => (h w' hb).pow
end Go.Proofs.YtnkknfnndoegpaaGreatDoor.Decs
