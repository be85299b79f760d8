/-
  A row of texts of the call's own, grown by append, however long; no program. Conditions: as each theorem says.
-/
import Derived.Test.YtnkknfnndoegpaaDoorRows
import Derived.Test.YtnkknfnndoegpaaDoorOwnT
namespace Go.Proofs.YtnkknfnndoegpaaDoor.Nm
open Go.RowKit Words
open Rw (OkS RowsAt TextLie TextsAt textLies lt_of_get cell_of add_plain)
set_option linter.unusedVariables false
set_option maxRecDepth 100000

section
variable {w : World} {ops : Array Oper} {o : Oper} {a : Act}
theorem app_textB {rest : List Oper} {Q : Exit → Act → World → Prop} (hgd : o.guard = none) (s x : Operand)
    (ho : o.op = .call { callee := .builtin .append, args := #[s, x], argTypes := #[62, 62] })
    (base : Nat) (v : Value) (l : List ByteArray) (hs : a.eval s = v) (hown : OwnTs w base v l)
    (B c : Nat) (hx : a.eval x = .slice (some ⟨B, 0, none⟩) 1 c) (y : ByteArray) (hc : w.cell? ⟨B, 0, none⟩ = some (.string y))
    (hsize : l.length + 1 ≤ 200000000000) (hbase : base ≤ w.heap.size)
    (h : ∀ a' cap w', OwnTs w' base (.slice a' (l.length + 1) cap) (l ++ [y]) → Below base w w' → (∀ c, c < w.heap.size → some c ≠ v.ownBlock → w'.heap[c]? = w.heap[c]?) → wpList Tryd.prog ops Q rest (a.put o.dst (.slice a' (l.length + 1) cap)) w') : wpList Tryd.prog ops Q (o :: rest) a w := by
  obtain ⟨i0, hi, hz0, hz1, hz2⟩ := info_parts infoStr
  refine wpList_append_lies w hgd s x 62 ho base 9 i0 _ 1 16 Tryd.underlying62 hi hz0 hz1 hz2 rfl (by decide) v l.length (l.map Value.string) hs hown ⟨B, 0, none⟩ 1 c [.string y] hx rfl
    (fun j u hj => by
      have e : j = 0 := by have := (List.getElem?_eq_some_iff.1 hj).1; simp at this; exact this
      subst e; cases hj
      rw [add_plain]; exact hc) (fun u hu => ?_) (by omega) (by unfold maxLen; omega) (by omega) hbase _ rfl ?_
  · simp at hu; subst hu; rfl
  · intro g cap w' hown' hgrow _ _
    exact h _ cap w' (by unfold OwnTs; rw [List.length_append, List.map_append]; exact hown') ((Below.refl base w).grown hgrow hbase (fun k hk => (World.ownsRow.lt hown k hk).1)) hgrow.block
end
end Go.Proofs.YtnkknfnndoegpaaDoor.Nm
