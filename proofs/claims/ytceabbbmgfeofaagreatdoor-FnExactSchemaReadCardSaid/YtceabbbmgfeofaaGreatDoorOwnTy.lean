/-
  A row of types of the call's own, grown by append: at the operation, and at a step of a region that draws; no program's function. Conditions: as each theorem says.
-/
import Derived.Test.YtceabbbmgfeofaaGreatDoorRows
import Derived.Test.YtceabbbmgfeofaaGreatDoorSch
import Derived.Test.YtceabbbmgfeofaaGreatDoorOwnRw
import Derived.Deep.AppendLies
namespace Go.Proofs.YtceabbbmgfeofaaGreatDoor.Rw
open Go.RowKit
set_option linter.unusedVariables false
set_option maxRecDepth 100000

/-- One type in a row of the call's own: its cells; what is within lies in blocks from lo on, below hi. -/
structure RowT where
  x : TypeP
  a : Option Addr
  ca : Nat
  c : Option Addr
  cc : Nat
  lo : Nat
  hi : Nat
  /-- Whether its members are a row of the call's own. -/
  own : Bool
def RowT.cells (r : RowT) : List Value := r.x.cells r.a r.ca r.c r.cc
/-- Members that are a row of the call's own, in blocks from lo on, below hi. -/
def OwnMem (w : World) (lo hi : Nat) (c : Option Addr) (cc : Nat) (l : List ByteArray) : Prop := OwnTs w lo (.slice c l.length cc) l ∧ ∀ g, (Value.slice c l.length cc).ownBlock = some g → g < hi
theorem OwnMem.block {w w' : World} {lo hi : Nat} {c : Option Addr} {cc : Nat} {l : List ByteArray} (h : OwnMem w lo hi c cc l) (hw : ∀ c, lo ≤ c → c < hi → w'.heap[c]? = w.heap[c]?) : OwnMem w' lo hi c cc l := by
  obtain ⟨⟨hl, ⟨hv, hn⟩ | ⟨gb, cap, cur, hv, hb, hg, hc, hm, hs, ht⟩⟩, h2⟩ := h
  · exact ⟨⟨hl, .inl ⟨hv, hn⟩⟩, h2⟩
  · have e : (Value.slice c l.length cc).ownBlock = some gb := by rw [hv]; rfl
    exact ⟨⟨hl, .inr ⟨gb, cap, cur, hv, hb, (hw gb hb (h2 gb e)).trans hg, hc, hm, hs, ht⟩⟩, h2⟩
def OkT (w : World) (r : RowT) : Prop := r.x.ok ∧ (r.own = true → OwnMem w r.lo r.hi r.c r.cc r.x.members) ∧ ∃ M, (FieldsX w r.lo M r.a r.x.fields.length r.x.fields ∧ r.x.fields.length ≤ r.ca) ∧ TextsX w M r.hi r.c r.x.members.length r.x.members ∧ r.x.members.length ≤ r.cc
theorem OkT.le {w : World} {r : RowT} (h : OkT w r) : r.lo ≤ r.hi := by
  obtain ⟨_, _, M, ⟨h1, _⟩, h2, _⟩ := h
  have e1 := h1.2.2.1
  have e2 := h2.2.2.1
  omega
theorem OkT.block {w w' : World} {r : RowT} (h : OkT w r) (hw : ∀ c, r.lo ≤ c → c < r.hi → w'.heap[c]? = w.heap[c]?) : OkT w' r := by
  obtain ⟨hk, ho, M, h2, h3⟩ := h
  have e1 := h2.1.2.2.1
  have e2 := h3.1.2.2.1
  exact ⟨hk, fun e => (ho e).block hw, M, ⟨h2.1.block fieldLies fun q q1 q2 => hw q q1 (by omega), h2.2⟩, h3.1.block textLies fun q q1 q2 => hw q (by omega) q2, h3.2⟩
structure OwnTy (w : World) (base : Nat) (v : Value) (L : List RowT) : Prop where
  own : w.ownsRow base 48 5 v L.length (L.flatMap RowT.cells)
  order : L.Pairwise (fun r q => r.hi ≤ q.lo)
  ok : ∀ r ∈ L, OkT w r ∧ base ≤ r.lo ∧ r.hi ≤ w.heap.size ∧ ∀ g, v.ownBlock = some g → g < r.lo ∨ r.hi ≤ g
theorem OwnTy.nil (w : World) (base : Nat) : OwnTy w base (.slice none 0 0) [] := ⟨World.ownsRow_nil w base _ _, List.Pairwise.nil, fun r hr => by cases hr⟩
theorem OwnTy.frame {w w' : World} {base : Nat} {v : Value} {L : List RowT} (h : OwnTy w base v L) (hz : w.heap.size ≤ w'.heap.size) (hw : ∀ c, base ≤ c → c < w.heap.size → w'.heap[c]? = w.heap[c]?) : OwnTy w' base v L := by
  refine ⟨?_, h.order, fun r hr => ?_⟩
  · obtain ⟨hl, ⟨hv, hn⟩ | ⟨gb, cap, cur, hv, hb, hg, hc, hm, hs, ht⟩⟩ := h.own
    · exact ⟨hl, .inl ⟨hv, hn⟩⟩
    · exact ⟨hl, .inr ⟨gb, cap, cur, hv, hb, (hw gb hb (lt_of_get hg)).trans hg, hc, hm, hs, ht⟩⟩
  · obtain ⟨h1, h3, h4, h5⟩ := h.ok r hr
    exact ⟨h1.block (fun c c1 c2 => hw c (by omega) (by omega)), h3, by omega, h5⟩
theorem OwnTy.below {w w' : World} {base : Nat} {v : Value} {L : List RowT} (h : OwnTy w base v L) (g : Below w.heap.size w w') : OwnTy w' base v L := h.frame g.size fun c _ hc => g.block c hc
theorem OwnTy.owner {w : World} {base g : Nat} {v : Value} {L : List RowT} (h : OwnTy w base v L) (hg : v.ownBlock = some g) : g < w.heap.size := (World.ownsRow.lt h.own g hg).2
theorem rows_typeX {w : World} {B b : Nat} (hf : Free w b) : ∀ {L : List RowT} {A off : Nat}, A ≤ B → (∀ r ∈ L, OkT w r ∧ A ≤ r.lo ∧ r.hi ≤ B ∧ (b < r.lo ∨ r.hi ≤ b)) → L.Pairwise (fun r q => r.hi ≤ q.lo) → (∀ j v, (L.flatMap RowT.cells)[j]? = some v → w.cell? ⟨b, off + j, none⟩ = some v) → LieRX 5 TypeLieX w (L.map RowT.x) A B b off
  | [], _, _, h, _, _, _ => h
  | r :: L, A, off, hAB, hok, hord, hc => by
    obtain ⟨h1, h3, h4, h5⟩ := hok r (by simp)
    have hcell : ∀ j v, r.cells[j]? = some v → w.cell? ⟨b, off + j, none⟩ = some v := fun j v hv => hc j v (by
      rw [List.flatMap_cons, List.getElem?_append_left (List.getElem?_eq_some_iff.1 hv).1]; exact hv)
    have hle := h1.le
    obtain ⟨hk, _, M, h6, h7⟩ := h1
    have hor := List.pairwise_cons.1 hord
    refine ⟨hf, r.lo, r.hi, h3, hle, h4, h5, ⟨hk, r.a, r.ca, r.c, r.cc, M, hcell, h6, h7⟩, rows_typeX hf h4 (fun q hq => ?_) hor.2 (fun j v hj => ?_)⟩
    · obtain ⟨g1, g3, g4, g5⟩ := hok q (by simp [hq])
      exact ⟨g1, hor.1 q hq, g4, g5⟩
    · have e : off + 5 + j = off + (5 + j) := by omega
      rw [e]
      refine hc (5 + j) v ?_
      rw [List.flatMap_cons, List.getElem?_append_right (by simp [RowT.cells, TypeP.cells])]
      have : 5 + j - r.cells.length = j := by simp [RowT.cells, TypeP.cells]
      rw [this]; exact hj
theorem OwnTy.typesX {w : World} {base : Nat} {v : Value} {L : List RowT} (h : OwnTy w base v L) (hL : L.length ≤ 1048576) (hbase : base ≤ w.heap.size) : ∃ a cap, v = .slice a L.length cap ∧ L.length ≤ cap ∧ TypesX w base w.heap.size a L.length (L.map RowT.x) := by
  obtain ⟨hl, ⟨rfl, hn⟩ | ⟨gb, cap, cur, rfl, hb, hg, hc, hm, hs, ht⟩⟩ := h.own
  · obtain rfl : L = [] := List.eq_nil_of_length_eq_zero hn
    exact ⟨none, 0, rfl, Nat.le_refl _, RowsX.nil hbase⟩
  · have hlt := lt_of_get hg
    refine ⟨_, _, rfl, hc, by simp, by omega, hbase, .inr ⟨gb, 0, rfl, hb, hlt, ?_⟩⟩
    refine rows_typeX ⟨cur, _, hg⟩ hbase (fun r hr => ?_) h.order (fun j u hj => ?_)
    · obtain ⟨h1, h3, h4, h5⟩ := h.ok r hr
      exact ⟨h1, h3, h4, h5 gb rfl⟩
    · rw [Nat.zero_add]
      rw [← ht] at hj
      have hj2 := (List.getElem?_eq_some_iff.1 hj).1
      rw [List.length_take] at hj2
      rw [List.getElem?_take_of_lt (by omega)] at hj
      have e2 : cur[j]? = some u := by rw [← hj]; simp
      exact cell_of hg e2
/-- Where the types of a row of the call's own lie, and that the members of each, told to be so, are a row of the call's own. -/
theorem OwnTy.mems {w : World} {base : Nat} {v : Value} {L : List RowT} (h : OwnTy w base v L) (ho : ∀ r ∈ L, r.own = true) {i : Nat} {x : TypeP} (hi : (L.map RowT.x)[i]? = some x) :
    ∃ gb cap c cc lo hi, v = .slice (some ⟨gb, 0, none⟩) L.length cap ∧ base ≤ gb ∧ base ≤ lo ∧ lo ≤ hi ∧ hi ≤ w.heap.size ∧ (gb < lo ∨ hi ≤ gb) ∧ w.cell? ⟨gb, i * 5 + 4, none⟩ = some (.slice c x.members.length cc) ∧ OwnMem w lo hi c cc x.members ∧ (∀ j y, j < i → (L.map RowT.x)[j]? = some y → True) := by
  rw [List.getElem?_map] at hi
  obtain ⟨r, hr, rfl⟩ := Option.map_eq_some_iff.1 hi
  have hmem := List.mem_of_getElem? hr
  obtain ⟨h1, h3, h4, h5⟩ := h.ok r hmem
  have hle := h1.le
  obtain ⟨hl, ⟨rfl, hn⟩ | ⟨gb, cap, cur, rfl, hb, hg, hc, hm, hs, ht⟩⟩ := h.own
  · obtain rfl : L = [] := List.eq_nil_of_length_eq_zero hn
    cases hmem
  · refine ⟨gb, cap, r.c, r.cc, r.lo, r.hi, rfl, hb, h3, hle, h4, h5 gb rfl, ?_, h1.2.1 (ho r hmem), fun _ _ _ _ => trivial⟩
    have hcell : ∀ (L : List RowT) (i : Nat), L[i]? = some r → (L.flatMap RowT.cells)[i * 5 + 4]? = some (.slice r.c r.x.members.length r.cc) := by
      intro L
      induction L with
      | nil => intro i hi; simp at hi
      | cons q L ih =>
        intro i hi
        rw [List.flatMap_cons]
        cases i with
        | zero =>
          simp at hi; subst hi
          rw [List.getElem?_append_left (by simp [RowT.cells, TypeP.cells])]
          rfl
        | succ i =>
          rw [List.getElem?_append_right (by simp [RowT.cells, TypeP.cells]; omega)]
          have : (i + 1) * 5 + 4 - q.cells.length = i * 5 + 4 := by simp [RowT.cells, TypeP.cells]; omega
          rw [this]
          exact ih i (by simpa using hi)
    have hj := hcell L i hr
    rw [← ht] at hj
    have hj2 := (List.getElem?_eq_some_iff.1 hj).1
    rw [List.length_take] at hj2
    rw [List.getElem?_take_of_lt (by omega)] at hj
    exact cell_of hg (by rw [← hj]; simp)

theorem infoType5 : (Tryz.prog.info? 48).map (fun i => (i.zero, i.size, i.bytes)) = some (some (.agg #[.string ⟨#[]⟩, .int .i64 0, .int .i64 0, .slice none 0 0, .slice none 0 0]), 5, 80) := by kernel_rfl
/-- What append makes of the row. -/
theorem OwnTy.grown {w w' : World} {base : Nat} {v : Value} {L : List RowT} {r : RowT} {g cap : Nat} (hown : OwnTy w base v L)
    (hr : OkT w r ∧ base ≤ r.lo ∧ r.hi ≤ w.heap.size ∧ ∀ g, v.ownBlock = some g → g < r.lo ∨ r.hi ≤ g) (hord : ∀ q ∈ L, q.hi ≤ r.lo)
    (hown' : w'.ownsRow base 48 5 (.slice (some ⟨g, 0, none⟩) (L.length + 1) cap) (L.length + 1) (L.flatMap RowT.cells ++ r.cells)) (hgrow : w.grownBy w' v.ownBlock) (hat : v.ownBlock = some g ∨ g = w.heap.size) :
    OwnTy w' base (.slice (some ⟨g, 0, none⟩) (L.length + 1) cap) (L ++ [r]) := by
  have hblk : ∀ c, c < w.heap.size → some c ≠ v.ownBlock → w'.heap[c]? = w.heap[c]? := fun c h1 h2 => hgrow.block c h1 h2
  refine ⟨?_, List.pairwise_append.2 ⟨hown.order, List.pairwise_singleton _ _, fun q hq r' hr' => by rw [List.mem_singleton] at hr'; subst hr'; exact hord q hq⟩, fun q hq => ?_⟩
  · rw [List.flatMap_append, List.length_append]; simpa using hown'
  · have hq2 : OkT w q ∧ base ≤ q.lo ∧ q.hi ≤ w.heap.size ∧ ∀ g, v.ownBlock = some g → g < q.lo ∨ q.hi ≤ g := by
      rcases List.mem_append.1 hq with hq | hq
      · exact hown.ok q hq
      · rw [List.mem_singleton] at hq; subst hq; exact hr
    obtain ⟨h1, h3, h4, h5⟩ := hq2
    have far : ∀ c, q.lo ≤ c → c < q.hi → w'.heap[c]? = w.heap[c]? := fun c c1 c2 => hblk c (by omega) fun e => by
      have := h5 c e.symm; omega
    have last : ∀ g', (Value.slice (some ⟨g, 0, none⟩) (L.length + 1) cap).ownBlock = some g' → g' < q.lo ∨ q.hi ≤ g' := fun g' hg' => by
      have e : g' = g := by simpa [Value.ownBlock] using hg'.symm
      subst e
      rcases hat with hat | hat
      · exact h5 _ hat
      · right; omega
    exact ⟨h1.block far, h3, Nat.le_trans h4 hgrow.size, last⟩

section
variable {w : World} {ops : Array Oper} {o : Oper} {a : Act}
theorem step_app_text {K : Act → World → Prop} {Q : Exit → Act → World → Prop} {E : Prop} (hgd : o.guard = none) (s x : Operand)
    (ho : o.op = .call { callee := .builtin .append, args := #[s, x], argTypes := #[40, 40] })
    (base : Nat) (v : Value) (l : List ByteArray) (hs : a.eval s = v) (hown : OwnTs w base v l)
    (B c : Nat) (hx : a.eval x = .slice (some ⟨B, 0, none⟩) 1 c) (y : ByteArray) (hc : w.cell? ⟨B, 0, none⟩ = some (.string y))
    (hsize : l.length + 1 ≤ 1048576) (hbase : base ≤ w.heap.size)
    (h : ∀ a' cap w', OwnTs w' base (.slice a' (l.length + 1) cap) (l ++ [y]) → Below base w w' → K (a.put o.dst (.slice a' (l.length + 1) cap)) w') : if Region.wanted o (yielded ops a.tmps) = true then Oper.wp Tryz.prog o a w K Q else E := by
  obtain ⟨i0, hi, hz0, hz1, hz2⟩ := info_parts infoStr
  refine step_append_lies w hgd s x 40 ho base 9 i0 _ 1 16 Tryz.underlying40 hi hz0 hz1 hz2 rfl (by decide) v l.length (l.map Value.string) hs hown ⟨B, 0, none⟩ 1 c [.string y] hx rfl
    (fun j u hj => by
      have e : j = 0 := by have := (List.getElem?_eq_some_iff.1 hj).1; simp at this; exact this
      subst e; cases hj
      rw [add_plain]; exact hc) (fun u hu => ?_) (by omega) (by unfold maxLen; omega) (by omega) hbase _ rfl ?_
  · simp at hu; subst hu; rfl
  · intro g cap w' hown' hgrow _ _
    exact h _ cap w' (by unfold OwnTs; rw [List.length_append, List.map_append]; exact hown') ((Below.refl base w).grown hgrow hbase (fun k hk => (World.ownsRow.lt hown k hk).1))
theorem step_app_type {K : Act → World → Prop} {Q : Exit → Act → World → Prop} {E : Prop} (hgd : o.guard = none) (s x : Operand)
    (ho : o.op = .call { callee := .builtin .append, args := #[s, x], argTypes := #[23, 23] })
    (base : Nat) (v : Value) (L : List RowT) (hs : a.eval s = v) (hown : OwnTy w base v L)
    (B c : Nat) (hx : a.eval x = .slice (some ⟨B, 0, none⟩) 1 c) (r : RowT) (hc : w.heap[B]? = some (.cells r.cells.toArray 48 (0, 0)))
    (hr : OkT w r ∧ base ≤ r.lo ∧ r.hi ≤ w.heap.size ∧ ∀ g, v.ownBlock = some g → g < r.lo ∨ r.hi ≤ g) (hord : ∀ q ∈ L, q.hi ≤ r.lo)
    (hsize : L.length + 1 ≤ 1048576) (hbase : base ≤ w.heap.size)
    (h : ∀ a' cap w', OwnTy w' base (.slice a' (L.length + 1) cap) (L ++ [r]) → Below base w w' → K (a.put o.dst (.slice a' (L.length + 1) cap)) w') : if Region.wanted o (yielded ops a.tmps) = true then Oper.wp Tryz.prog o a w K Q else E := by
  obtain ⟨i0, hi, hz0, hz1, hz2⟩ := info_parts infoType5
  refine step_append_lies w hgd s x 23 ho base 48 i0 _ 5 80 Tryz.underlying23 hi hz0 hz1 hz2 rfl (by decide) v L.length (L.flatMap RowT.cells) hs hown.own ⟨B, 0, none⟩ 1 c r.cells hx rfl
    (fun j u hj => World.news_of_block hc j u (by simpa using hj)) (fun u hu => ?_) (by omega) (by unfold maxLen; omega) (by omega) hbase _ rfl ?_
  · simp [RowT.cells, TypeP.cells] at hu
    rcases hu with rfl | rfl | rfl | rfl | rfl <;> rfl
  · intro g cap w' hown' hgrow hat _
    exact h _ cap w' (hown.grown hr hord hown' hgrow hat) ((Below.refl base w).grown hgrow hbase (fun k hk => (World.ownsRow.lt hown.own k hk).1))
theorem app_type {rest : List Oper} {Q : Exit → Act → World → Prop} (hgd : o.guard = none) (s x : Operand)
    (ho : o.op = .call { callee := .builtin .append, args := #[s, x], argTypes := #[23, 23] })
    (base : Nat) (v : Value) (L : List RowT) (hs : a.eval s = v) (hown : OwnTy w base v L)
    (B c : Nat) (hx : a.eval x = .slice (some ⟨B, 0, none⟩) 1 c) (r : RowT) (hc : w.heap[B]? = some (.cells r.cells.toArray 48 (0, 0)))
    (hr : OkT w r ∧ base ≤ r.lo ∧ r.hi ≤ w.heap.size ∧ ∀ g, v.ownBlock = some g → g < r.lo ∨ r.hi ≤ g) (hord : ∀ q ∈ L, q.hi ≤ r.lo)
    (hsize : L.length + 1 ≤ 1048576) (hbase : base ≤ w.heap.size)
    (h : ∀ a' cap w', OwnTy w' base (.slice a' (L.length + 1) cap) (L ++ [r]) → Below base w w' → wpList Tryz.prog ops Q rest (a.put o.dst (.slice a' (L.length + 1) cap)) w') : wpList Tryz.prog ops Q (o :: rest) a w := by
  obtain ⟨i0, hi, hz0, hz1, hz2⟩ := info_parts infoType5
  refine wpList_append_lies w hgd s x 23 ho base 48 i0 _ 5 80 Tryz.underlying23 hi hz0 hz1 hz2 rfl (by decide) v L.length (L.flatMap RowT.cells) hs hown.own ⟨B, 0, none⟩ 1 c r.cells hx rfl
    (fun j u hj => World.news_of_block hc j u (by simpa using hj)) (fun u hu => ?_) (by omega) (by unfold maxLen; omega) (by omega) hbase _ rfl ?_
  · simp [RowT.cells, TypeP.cells] at hu
    rcases hu with rfl | rfl | rfl | rfl | rfl <;> rfl
  · intro g cap w' hown' hgrow hat _
    exact h _ cap w' (hown.grown hr hord hown' hgrow hat) ((Below.refl base w).grown hgrow hbase (fun k hk => (World.ownsRow.lt hown.own k hk).1))
end
end Go.Proofs.YtceabbbmgfeofaaGreatDoor.Rw
