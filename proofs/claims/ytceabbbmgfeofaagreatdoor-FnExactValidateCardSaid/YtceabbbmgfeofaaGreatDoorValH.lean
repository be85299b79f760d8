/-
  The root's name in memory, and a result of two cells; no program. Conditions: as each theorem says.
-/
import Derived.Test.YtceabbbmgfeofaaGreatDoorRows
import Derived.Test.YtceabbbmgfeofaaGreatDoorValR
namespace Go.Proofs.YtceabbbmgfeofaaGreatDoor.Selss
open Go.RowKit Words
set_option linter.unusedVariables false
set_option maxRecDepth 100000

theorem head_at {w : World} {A B : Nat} {v : Value} {s : List Rw.TypeP} (hv : Rw.SchemaAt w A B v s) (h1 : 1 ≤ s.length) :
    ∃ b off ca, v = .agg #[.slice (some ⟨b, off, none⟩) s.length ca] ∧ b < B ∧ w.cell? ⟨b, off, none⟩ = some (.string (headN s)) ∧ OkS (headN s) ∧ s.length ≤ ca ∧ s.length ≤ 9223372036854775807 := by
  obtain ⟨a, ca, rfl, hd, hc⟩ := hv
  have hl := hd.2.1
  obtain ⟨x, b, off, hx, rfl, _, hbb, hok, _, _, _, _, hcl, _, _⟩ := hd.at (i := 0) (by omega)
  obtain ⟨d0, _⟩ := Rw.row5 hcl
  rw [Nat.zero_mul, Nat.add_zero] at d0
  have e : headN s = x.name := by
    obtain ⟨hl, rfl⟩ := List.getElem?_eq_some_iff.1 hx
    cases s with
    | nil => simp at hl
    | cons y l => rfl
  exact ⟨b, off, ca, rfl, hbb, by rw [e]; exact d0, by rw [e]; exact hok.1, hc, hl⟩
/-- What is told last: two cells stored into the result. -/
theorem out_two {w w9 : World} {n g : Nat} {t : ByteArray} {c : Int} (h : w9.heap[g]? = some (.cells #[.string ⟨#[]⟩, .int .i64 0] 33 (0, 0))) (hb : Below n w w9) (hg : n ≤ g) :
    ((Rw.putL w9 g 0 [.string t, .int .i64 c]).cell? ⟨g, 0, none⟩ = some (.string t) ∧ (Rw.putL w9 g 0 [.string t, .int .i64 c]).cell? ⟨g, 1, none⟩ = some (.int .i64 c)) ∧ Below n w (Rw.putL w9 g 0 [.string t, .int .i64 c]) := by
  obtain ⟨hr, _, _⟩ := Rw.putL_cells (g := g) (o := 0) (l := [.string t, .int .i64 c]) h (by simp)
  exact ⟨⟨hr 0 _ rfl, hr 1 _ rfl⟩, Rw.putL_below (g := g) (B := n) hg [.string t, .int .i64 c] 0 hb⟩
theorem putL2_block {w : World} {g : Nat} {x0 x1 : Value} {T : TypeId} (h : w.heap[g]? = some (.cells #[x0, x1] T (0, 0))) (v0 v1 : Value) : (Rw.putL w g 0 [v0, v1]).heap[g]? = some (.cells #[v0, v1] T (0, 0)) := by
  show ((w.setCell ⟨g, 0, none⟩ v0).setCell ⟨g, 0 + 1, none⟩ v1).heap[g]? = _
  rw [heap_setCell_same _ _ _ _ _ _ (heap_setCell_same _ _ _ _ _ _ h)]
  simp
theorem cell_set2 (w : World) {g c j : Nat} (v0 v1 : Value) (hc : c ≠ g) : ((w.setCell ⟨g, 0, none⟩ v0).setCell ⟨g, 1, none⟩ v1).cell? ⟨c, j, none⟩ = w.cell? ⟨c, j, none⟩ :=
  World.cell?_of_block (by rw [Go.Deep.blk_setCell_other _ ⟨g, 1, none⟩ _ _ hc, Go.Deep.blk_setCell_other _ ⟨g, 0, none⟩ _ _ hc])
end Go.Proofs.YtceabbbmgfeofaaGreatDoor.Selss
