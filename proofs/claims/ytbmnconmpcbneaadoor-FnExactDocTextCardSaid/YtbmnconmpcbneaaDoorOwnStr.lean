/-
  A []string of the call's own, grown by append: of what was there its own block alone may change; no program. Conditions: as each theorem says.
-/
import Derived.Test.YtbmnconmpcbneaaDoorRows
import Derived.Test.YtbmnconmpcbneaaDoorSplitP
import Derived.Deep.AppendLies
namespace Go.Proofs.YtbmnconmpcbneaaDoor.Splits
open Go.RowKit Texts Bytes
set_option linter.unusedVariables false
set_option maxRecDepth 100000

/-- From v to v': of what was there the block of v alone may have changed. -/
structure Made (v v' : Value) (w w' : World) : Prop where
  grown : w.grownBy w' v.ownBlock
  own : ∀ g, v'.ownBlock = some g → v.ownBlock = some g ∨ w.heap.size ≤ g
theorem Made.refl (v : Value) (w : World) : Made v v w w := ⟨⟨rfl, rfl, rfl, Nat.le_refl _, fun _ _ _ => rfl⟩, fun _ h => .inl h⟩
theorem Made.trans {v v1 v2 : Value} {w w1 w2 : World} (h : Made v v1 w w1) (g : Made v1 v2 w1 w2) : Made v v2 w w2 :=
  ⟨⟨g.grown.os.trans h.grown.os, g.grown.tape.trans h.grown.tape, g.grown.output.trans h.grown.output, Nat.le_trans h.grown.size g.grown.size, fun k hk hn => (g.grown.block k (Nat.lt_of_lt_of_le hk h.grown.size) (fun e => by
      rcases h.own k e.symm with e2 | e2
      · exact hn e2.symm
      · omega)).trans (h.grown.block k hk hn)⟩, fun b hb => by
      rcases g.own b hb with e | e
      · exact h.own b e
      · exact .inr (Nat.le_trans h.grown.size e)⟩
/-- New blocks alone. -/
theorem Made.of_below {v : Value} {w w' : World} (g : Below w.heap.size w w') : Made v v w w' :=
  ⟨⟨g.os, g.tape, g.output, g.size, fun k hk _ => g.block k hk⟩, fun _ h => .inl h⟩
theorem Made.below {v v' : Value} {w w1 w2 : World} (h : Made v v' w w1) (g : Below w1.heap.size w1 w2) : Made v v' w w2 := h.trans (Made.of_below g)
theorem Made.toBelow {v v' : Value} {w w' : World} {base : Nat} (h : Made v v' w w') (hv : ∀ g, v.ownBlock = some g → base ≤ g) (hb : base ≤ w.heap.size) : Below base w w' :=
  ⟨h.grown.os, h.grown.tape, h.grown.output, h.grown.size, fun k hk => h.grown.block k (by omega) (fun e => by have := hv k e.symm; omega)⟩
theorem Made.cell {v v' : Value} {w w' : World} (h : Made v v' w w') {p : Addr} (hp : p.block < w.heap.size) (hne : ∀ g, v.ownBlock = some g → g ≠ p.block) : w'.cell? p = w.cell? p :=
  World.cell?_of_block (w := w) (h.grown.block p.block hp (fun e => hne _ e.symm rfl))
theorem OwnS.base {w : World} {base : Nat} {v : Value} {l : List (List UInt8)} (h : OwnS w base v l) : ∀ g, v.ownBlock = some g → base ≤ g ∧ g < w.heap.size := fun g hg => World.ownsRow.lt h g hg
theorem OwnS.below {w w' : World} {base : Nat} {v : Value} {l : List (List UInt8)} (h : OwnS w base v l) (g : Below w.heap.size w w') : OwnS w' base v l :=
  World.ownsRow.kept h (row := none) ⟨g.os, g.tape, g.output, g.size, fun k hk _ => g.block k hk⟩ (by cases v.ownBlock <;> simp)
theorem OwnS.none_ (w : World) (base : Nat) : OwnS w base (.slice none 0 0) [] := World.ownsRow_nil w base _ _

/-- 'append(l, ..)' of texts that lie in a block. -/
theorem app_strs {w : World} {ops : Array Oper} {rest : List Oper} {o : Oper} {a : Act} {Q : Exit → Act → World → Prop} (hgd : o.guard = none) (s x : Operand)
    (ho : o.op = .call { callee := .builtin .append, args := #[s, x], argTypes := #[43, 43] })
    (base : Nat) (v : Value) (l : List (List UInt8)) (hs : a.eval s = v) (hown : OwnS w base v l)
    (B c : Nat) (ns : List (List UInt8)) (hx : a.eval x = .slice (some ⟨B, 0, none⟩) ns.length c) (hc : ∀ j y, ns[j]? = some y → w.cell? ⟨B, j, none⟩ = some (strV y)) (hpos : 0 < ns.length)
    (hsize : l.length + ns.length ≤ 2097152) (hbase : base ≤ w.heap.size)
    (h : ∀ v' w', OwnS w' base v' (l ++ ns) → Made v v' w w' → wpList Tryd.prog ops Q rest (a.put o.dst v') w') : wpList Tryd.prog ops Q (o :: rest) a w := by
  obtain ⟨i0, hi, hz0, hz1, hz2⟩ := info_parts infoS
  refine wpList_append_lies w hgd s x 43 ho base 9 i0 (.string ⟨#[]⟩) 1 16 Tryd.underlying43 hi hz0 hz1 hz2 rfl (by decide) v l.length (l.map strV) hs hown ⟨B, 0, none⟩ ns.length c (ns.map strV) hx (by simp) ?_ ?_ hpos (by unfold maxLen; omega) (by omega) hbase _ rfl ?_
  · intro j u hj
    rw [List.getElem?_map] at hj
    obtain ⟨y, hy, rfl⟩ := Option.map_eq_some_iff.1 hj
    have e : (⟨B, 0, none⟩ : Addr).add j = ⟨B, j, none⟩ := by unfold Addr.add; split <;> simp_all
    rw [e]; exact hc j y hy
  · intro u hu
    obtain ⟨y, _, rfl⟩ := List.mem_map.1 hu
    rfl
  · intro g cap w' hown' hgrow hat hlt
    refine h _ w' ?_ ⟨hgrow, fun g' hg' => ?_⟩
    · unfold OwnS
      rw [List.map_append, List.length_append]; exact hown'
    · have e : g' = g := by simpa [Value.ownBlock] using hg'.symm
      subst e
      rcases hat with hat | hat
      · exact .inl hat
      · exact .inr (by omega)
end Go.Proofs.YtbmnconmpcbneaaDoor.Splits
