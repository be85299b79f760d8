/-
  A member more of the last type of a schema that is being drawn; a law of append that tells which block has grown. Conditions: as each theorem says.
-/
import Derived.Test.YtcogbmcnljlnaaaRows
import Derived.Test.YtcogbmcnljlnaaaDrawSet
import Derived.Deep.RegionLaw
namespace Go.Proofs.Ytcogbmcnljlnaaa.Draws
open Go.RowKit Texts Bytes Rw Words
set_option linter.unusedVariables false
set_option maxRecDepth 100000

section
variable {w : World} {ops : Array Oper} {o : Oper} {a : Act}
theorem step_app_textG {K : Act → World → Prop} {Q : Exit → Act → World → Prop} {E : Prop} (hgd : o.guard = none) (s x : Operand)
    (ho : o.op = .call { callee := .builtin .append, args := #[s, x], argTypes := #[33, 33] })
    (base : Nat) (v : Value) (l : List ByteArray) (hs : a.eval s = v) (hown : OwnTs w base v l)
    (B c : Nat) (hx : a.eval x = .slice (some ⟨B, 0, none⟩) 1 c) (y : ByteArray) (hc : w.cell? ⟨B, 0, none⟩ = some (.string y))
    (hsize : l.length + 1 ≤ 1048576) (hbase : base ≤ w.heap.size)
    (h : ∀ g cap w', OwnTs w' base (.slice (some ⟨g, 0, none⟩) (l.length + 1) cap) (l ++ [y]) → w.grownBy w' v.ownBlock → (v.ownBlock = some g ∨ g = w.heap.size) → Below base w w' → K (a.put o.dst (.slice (some ⟨g, 0, none⟩) (l.length + 1) cap)) w') : if Region.wanted o (yielded ops a.tmps) = true then Oper.wp Try.prog o a w K Q else E := by
  obtain ⟨i0, hi, hz0, hz1, hz2⟩ := info_parts infoStr
  refine step_append_lies w hgd s x 33 ho base 9 i0 _ 1 16 Try.underlying33 hi hz0 hz1 hz2 rfl (by decide) v l.length (l.map Value.string) hs hown ⟨B, 0, none⟩ 1 c [.string y] hx rfl
    (fun j u hj => by
      have e : j = 0 := by have := (List.getElem?_eq_some_iff.1 hj).1; simp at this; exact this
      subst e; cases hj
      rw [add_plain]; exact hc) (fun u hu => ?_) (by omega) (by unfold maxLen; omega) (by omega) hbase _ rfl ?_
  · simp at hu; subst hu; rfl
  · intro g cap w' hown' hgrow hat _
    exact h _ cap w' (by unfold OwnTs; rw [List.length_append, List.map_append]; exact hown') hgrow hat ((Below.refl base w).grown hgrow hbase (fun k hk => (World.ownsRow.lt hown k hk).1))
end

/-- A row of texts of the call's own, alone in its block. -/
theorem OwnTs.alone {w : World} {base g n cap : Nat} {l : List ByteArray} (h : OwnTs w base (.slice (some ⟨g, 0, none⟩) n cap) l) (hl : l.length = n) (hok : ∀ x ∈ l, OkS x) (hL : n ≤ 1048576) : n ≤ cap ∧ g < w.heap.size ∧ TextsX w g (g + 1) (some ⟨g, 0, none⟩) n l := by
  obtain ⟨hl', ⟨hv, hn⟩ | ⟨gb, cap', cur, hv, hb, hg, hc, hm, hs, ht⟩⟩ := h
  · cases hv
  · cases hv
    have hlt := lt_of_get hg
    refine ⟨by omega, hlt, hl, by omega, by omega, .inr ⟨g, 0, rfl, Nat.le_refl _, by omega, LieRX.flat ⟨cur, _, hg⟩ (by omega) (by omega) fun i x hx => ⟨hok x (List.mem_of_getElem? hx), ?_⟩⟩⟩
    have hj : (l.map Value.string)[i]? = some (.string x) := by rw [List.getElem?_map, hx]; rfl
    rw [← ht] at hj
    have hj2 := (List.getElem?_eq_some_iff.1 hj).1
    rw [List.length_take] at hj2
    rw [List.getElem?_take_of_lt (by omega)] at hj
    exact cell_of hg (by rw [Nat.zero_add, Nat.mul_one, ← hj]; simp)

theorem three_last {s : List TypeP} (h : IsThree s) : ∃ x, s[4]? = some x ∧ x.fields = [] ∧ x.members ≠ [] ∧ x.members.length ≤ 5 ∧ (∀ m ∈ x.members, OkS m) ∧ x.ok := by
  have key : ∀ x : TypeP, (x.members.all fun m => decide (m.size ≤ 9223372036854775807)) = true → ∀ m ∈ x.members, OkS m := fun x hx m hm => by
    simp only [List.all_eq_true, decide_eq_true_eq] at hx
    exact hx m hm
  rcases h with rfl | rfl | rfl
  · exact ⟨_, rfl, rfl, by simp, by decide, key _ (by decide), (three_ok (.inl rfl) _ (List.mem_of_getElem? (i := 4) rfl)).1⟩
  · exact ⟨_, rfl, rfl, by simp, by decide, key _ (by decide), (three_ok (.inr (.inl rfl)) _ (List.mem_of_getElem? (i := 4) rfl)).1⟩
  · exact ⟨_, rfl, rfl, by simp, by decide, key _ (by decide), (three_ok (.inr (.inr rfl)) _ (List.mem_of_getElem? (i := 4) rfl)).1⟩

theorem small5 {r : ByteArray} (h : r ∈ ([⟨#[83, 84, 82]⟩, ⟨#[85, 83, 69, 82]⟩, ⟨#[81]⟩] : List ByteArray)) : r.size ≤ 4 := by
  simp only [List.mem_cons, List.not_mem_nil, or_false] at h
  rcases h with rfl | rfl | rfl <;> decide
theorem sumOf_snoc {α : Type} (f : α → Nat) (y : α) : ∀ l : List α, sumOf f (l ++ [y]) = sumOf f l + f y
  | [] => by simp [sumOf]
  | x :: l => by have := sumOf_snoc f y l; simp only [List.cons_append, sumOf]; omega
theorem wt_member {x : TypeP} {m : ByteArray} (h : x.wt ≤ 400) (hm : m.size ≤ 100) : (⟨x.name, x.kind, x.bytes, x.fields, x.members ++ [m]⟩ : TypeP).wt ≤ 5000 := by
  have h1 := sumOf_snoc ByteArray.size m x.members
  unfold TypeP.wt at *
  simp only [List.length_append, List.length_singleton]
  omega
/-- One member more, written back. -/
theorem StS.member {w W W' : World} {p len cap g E ca b off base g' cap' cc : Nat} {a c : Option Addr} {s : List TypeP} {x : TypeP} {m : ByteArray} (h : StS w W p len cap a g E (some ⟨b, off, none⟩) ca s) (hg : E ≤ g) (hi : s[4]? = some x) (hfx : x.fields = []) (hne : x.members ≠ []) (hml : x.members.length ≤ 5) (hmo : ∀ m ∈ x.members, OkS m) (hxo : x.ok) (hm : OkS m)
    (hcell : W.cell? ⟨b, off + 4 * 5 + 4, none⟩ = some (.slice c x.members.length cc)) (hown : OwnTs W base (.slice c x.members.length cc) x.members) (hbase : w.heap.size + 1 ≤ base)
    (hown' : OwnTs W' base (.slice (some ⟨g', 0, none⟩) (x.members.length + 1) cap') (x.members ++ [m])) (hgrow : W.grownBy W' (Value.slice c x.members.length cc).ownBlock) (hat : (Value.slice c x.members.length cc).ownBlock = some g' ∨ g' = W.heap.size) (hbel : Below base W W') :
    W'.cell? ⟨g, 0, none⟩ = some (.slice (some ⟨b, off, none⟩) 5 ca) ∧ W'.cell? ⟨b, off + 4 * 5 + 4, none⟩ = some (.slice c x.members.length cc) ∧ W'.frozen? ⟨b, off + 4 * 5 + 4, none⟩ = false ∧
      StS w (W'.setCell ⟨b, off + 4 * 5 + 4, none⟩ (.slice (some ⟨g', 0, none⟩) (x.members.length + 1) cap')) p len cap a g W'.heap.size (some ⟨b, off, none⟩) ca (s.set 4 ⟨x.name, x.kind, x.bytes, x.fields, x.members ++ [m]⟩) := by
  have hl5 := h.ty.1
  have hp := h.plt
  obtain ⟨_, hn5, hAE, hrow⟩ := h.ty
  rcases hrow with hnil | ⟨b', off', e, hA, hB, hlie⟩
  · rw [hnil] at hl5; simp at hl5
  cases e
  obtain ⟨M, ht, hd⟩ := hlie.split 4
  have hd4 : s.drop 4 = [x] := by
    obtain ⟨hlt, he⟩ := List.getElem?_eq_some_iff.1 hi
    rw [List.drop_eq_getElem_cons hlt, he, List.drop_eq_nil_of_le (by omega)]
  rw [hd4] at hd
  obtain ⟨hfree, lo, hi', q1, q2, q3, q4, ⟨_, fa, fca, c0, cc0, M', hcells, hflds, htx, hcc0⟩, _⟩ := hd
  have hc4 := hcells 4 _ rfl
  rw [hcell] at hc4
  cases hc4
  have eM := htx.2.2.1
  have eF := hflds.1.2.2.1
  -- the members' block
  obtain ⟨gb, goff, hcb, hgb1, hgb2⟩ : ∃ gb goff, c = some ⟨gb, goff, none⟩ ∧ M' ≤ gb ∧ gb < hi' := by
    rcases htx.2.2.2 with hn | ⟨gb, goff, e, g1, g2, _⟩
    · exact absurd hn hne
    · exact ⟨gb, goff, e, g1, g2⟩
  subst hcb
  have howb : (Value.slice (some ⟨gb, goff, none⟩) x.members.length cc).ownBlock = some gb := rfl
  rw [howb] at hgrow hat
  have hblk : ∀ q, q < W.heap.size → q ≠ gb → W'.heap[q]? = W.heap[q]? := fun q h1 h2 => hgrow.block q h1 (by simp [h2])
  have hEW := h.end_
  have hgbne : gb ≠ b := by omega
  have hbW : b < W.heap.size := hfree.lt
  have hgW := lt_of_get h.box
  have hrW := lt_of_get h.res
  have hfar := h.far
  have hsz : W.heap.size ≤ W'.heap.size := hgrow.size
  obtain ⟨hcap', hg'W, htx'⟩ := OwnTs.alone hown' (by simp) (fun y hy => (List.mem_append.1 hy).elim (hmo y) (fun e => by rw [List.mem_singleton] at e; rw [e]; exact hm)) (by omega)
  have hg'ne : g' ≠ b := by rcases hat with e | e; (· cases e; omega); (· omega)
  have hg'lo : M ≤ g' := by rcases hat with e | e; (· cases e; omega); (· omega)
  have hoth : ∀ q, q ≠ b → (W'.setCell ⟨b, off + 4 * 5 + 4, none⟩ (.slice (some ⟨g', 0, none⟩) (x.members.length + 1) cap')).heap[q]? = W'.heap[q]? := fun q hq => Go.Deep.blk_setCell_other _ ⟨b, off + 4 * 5 + 4, none⟩ _ _ hq
  have hfreeW' : Free W' b := hfree.of (hblk b hbW hgbne.symm)
  have hbcell : ∀ j, W'.cell? ⟨b, j, none⟩ = W.cell? ⟨b, j, none⟩ := fun j => World.cell?_of_block (w := W) (a := ⟨b, j, none⟩) (hblk b hbW hgbne.symm)
  have hrowW' : RowN W' b (off + 4 * 5) (x.cells fa fca (some ⟨gb, goff, none⟩) cc) := hcells.block (hblk b hbW hgbne.symm)
  have hBel : Below (w.heap.size + 1) W (W'.setCell ⟨b, off + 4 * 5 + 4, none⟩ (.slice (some ⟨g', 0, none⟩) (x.members.length + 1) cap')) := (hbel.mono hbase).setCell (by omega) _
  refine ⟨(World.cell?_of_block (w := W) (a := ⟨g, 0, none⟩) (hblk g hgW (by omega))).trans (cell_of h.box rfl), (hbcell _).trans hcell, hfreeW'.frozen _, ?_⟩
  refine ⟨?_, h.cap5, (hBel.block _ (by omega)).trans h.res, ((hoth g (by omega)).trans (hblk g hgW (by omega))).trans h.box, h.src.below (by omega) hBel, h.only.of_below (by omega) hBel, hp, by simp, hfar⟩
  refine ⟨by rw [List.length_set]; exact hl5, hn5, by omega, .inr ⟨b, off, rfl, hA, by omega, ?_⟩⟩
  have hset : s.set 4 (⟨x.name, x.kind, x.bytes, x.fields, x.members ++ [m]⟩ : TypeP) = s.take 4 ++ [⟨x.name, x.kind, x.bytes, x.fields, x.members ++ [m]⟩] := by
    apply List.ext_getElem?
    intro j
    rw [List.getElem?_set]
    by_cases hj : 4 = j
    · subst hj
      rw [if_pos rfl, if_pos (by omega), List.getElem?_append_right (by rw [List.length_take]; omega), List.length_take, Nat.min_eq_left (by omega)]
      rfl
    · rw [if_neg hj]
      by_cases hj2 : j < 4
      · rw [List.getElem?_append_left (by rw [List.length_take]; omega), List.getElem?_take_of_lt hj2]
      · rw [List.getElem?_eq_none (by omega), List.getElem?_eq_none (by rw [List.length_append, List.length_take]; simp; omega)]
  rw [hset]
  have htl : (s.take 4).length = 4 := by rw [List.length_take]; omega
  refine LieRX.join (M := M) (LieRX.frame typeLiesX (fun q q1' q2' q3' => (hoth q q3').trans (hblk q (by omega) (by omega))) (fun _ => hfreeW'.set _ _ _) (fun j j1 j2 => ?_) ht) ?_
  · rw [htl] at j2
    rw [cell_other (by omega)]; exact hbcell j
  · rw [htl]
    have htxF : TextsX (W'.setCell ⟨b, off + 4 * 5 + 4, none⟩ (.slice (some ⟨g', 0, none⟩) (x.members.length + 1) cap')) g' (g' + 1) (some ⟨g', 0, none⟩) (x.members ++ [m]).length (x.members ++ [m]) := by
      rw [List.length_append]
      exact htx'.block textLies fun q q1' q2' => hoth q (by omega)
    refine ⟨hfreeW'.set _ _ _, g', g' + 1, hg'lo, by omega, by omega, by rcases hat with e | e; (· cases e; omega); (· omega), ⟨hxo, fa, fca, some ⟨g', 0, none⟩, cap', g', ?_, ⟨?_, ?_⟩, htxF, by rw [List.length_append]; exact hcap'⟩, by show g' + 1 ≤ W'.heap.size; omega⟩
    · have := hrowW'.put (j := 4) (by simp [TypeP.cells]) (.slice (some ⟨g', 0, none⟩) (x.members.length + 1) cap')
      simpa [TypeP.cells] using this
    · rw [hfx]; exact RowsX.nil (Nat.le_refl _)
    · rw [hfx]; exact Nat.zero_le _
end Go.Proofs.Ytcogbmcnljlnaaa.Draws
