/-
  A slice of Frags of the call's own, grown by append; no program. Conditions: as each theorem says.
-/
import Derived.Test.YtnkknfnndoegpaaGreatDoorRows
import Derived.Test.YtnkknfnndoegpaaGreatDoorOwnSel
namespace Go.Proofs.YtnkknfnndoegpaaGreatDoor.Selss
open Go.RowKit
set_option linter.unusedVariables false

/-- One Frag in a row of the call's own: its cells; what is within lies in blocks from lo on, below hi. -/
structure RowF where
  nm : ByteArray
  on : ByteArray
  a : Option Addr
  cap : Nat
  u : Sels
  lo : Nat
  hi : Nat
def RowF.cells (r : RowF) : List Value := [.string r.nm, .string r.on, .slice r.a r.u.len r.cap]
def RowF.frag (r : RowF) : FragP := ⟨r.nm, r.on, r.u⟩
def OkF (w : World) (lo hi : Nat) (r : RowF) : Prop := (OkS r.nm ∧ OkS r.on) ∧ SelsX w lo hi r.a r.u.len r.u
structure OwnFrag (w : World) (base : Nat) (v : Value) (L : List RowF) : Prop where
  own : w.ownsRow base 40 3 v L.length (L.flatMap RowF.cells)
  order : L.Pairwise (fun r q => r.hi ≤ q.lo)
  ok : ∀ r ∈ L, OkF w r.lo r.hi r ∧ base ≤ r.lo ∧ r.hi ≤ w.heap.size ∧ ∀ g, v.ownBlock = some g → g < r.lo ∨ r.hi ≤ g
theorem OwnFrag.none_ (w : World) (base : Nat) : OwnFrag w base (.slice none 0 0) [] := ⟨World.ownsRow_nil w base _ _, List.Pairwise.nil, fun r hr => by cases hr⟩
theorem OwnFrag.made (w : World) (base : Nat) (hb : base ≤ w.heap.size) : OwnFrag (w.alloc (.cells #[] 40)) base (.slice (some ⟨w.heap.size, 0, none⟩) 0 0) [] :=
  ⟨World.ownsRow_lit (size := 3) w #[] 0 hb (by simp) rfl, List.Pairwise.nil, fun r hr => by cases hr⟩
theorem OwnFrag.frame {w w' : World} {base : Nat} {v : Value} {L : List RowF} (h : OwnFrag w base v L) (hz : w.heap.size ≤ w'.heap.size) (hw : ∀ c, base ≤ c → c < w.heap.size → w'.heap[c]? = w.heap[c]?) : OwnFrag w' base v L := by
  refine ⟨?_, h.order, fun r hr => ?_⟩
  · obtain ⟨hl, ⟨hv, hn⟩ | ⟨gb, cap, cur, hv, hb, hg, hc, hm, hs, ht⟩⟩ := h.own
    · exact ⟨hl, .inl ⟨hv, hn⟩⟩
    · have hlt : gb < w.heap.size := by
        rcases Nat.lt_or_ge gb w.heap.size with h | h
        · exact h
        · rw [Array.getElem?_eq_none h] at hg; cases hg
      exact ⟨hl, .inr ⟨gb, cap, cur, hv, hb, (hw gb hb hlt).trans hg, hc, hm, hs, ht⟩⟩
  · obtain ⟨⟨h1, h2⟩, h3, h4, h5⟩ := h.ok r hr
    exact ⟨⟨h1, h2.block (fun c c1 c2 => hw c (by omega) (by omega))⟩, h3, by omega, h5⟩
theorem OwnFrag.len {w : World} {base : Nat} {v : Value} {L : List RowF} (h : OwnFrag w base v L) : ∃ a cap, v = .slice a L.length cap := by
  obtain ⟨hl, ⟨rfl, hn⟩ | ⟨gb, cap, cur, rfl, _⟩⟩ := h.own
  · exact ⟨none, 0, by rw [hn]⟩
  · exact ⟨_, _, rfl⟩
/-- The row, as Frags in memory, apart. -/
theorem rows_lieFX {w : World} {B b : Nat} (hf : Free w b) : ∀ {L : List RowF} {A off : Nat}, A ≤ B → (∀ r ∈ L, OkF w r.lo r.hi r ∧ A ≤ r.lo ∧ r.hi ≤ B ∧ (b < r.lo ∨ r.hi ≤ b)) → L.Pairwise (fun r q => r.hi ≤ q.lo) → (∀ j v, (L.flatMap RowF.cells)[j]? = some v → w.cell? ⟨b, off + j, none⟩ = some v) → LieFX w (L.map RowF.frag) A B b off
  | [], _, _, h, _, _, _ => h
  | r :: L, A, off, hAB, hok, hord, hc => by
    have h0 := hok r (by simp)
    have hcell : ∀ j v, r.cells[j]? = some v → w.cell? ⟨b, off + j, none⟩ = some v := fun j v hv => hc j v (by
      rw [List.flatMap_cons, List.getElem?_append_left (List.getElem?_eq_some_iff.1 hv).1]; exact hv)
    obtain ⟨⟨h1, h2⟩, h3, h4, h5⟩ := h0
    have hor := List.pairwise_cons.1 hord
    refine ⟨h1, hf, ?_, hcell 1 _ rfl, r.a, r.cap, r.lo, r.hi, hcell 2 _ rfl, h3, h4, h5, h2, rows_lieFX hf h4 (fun q hq => ?_) hor.2 (fun j v hj => ?_)⟩
    · have := hcell 0 _ rfl; rw [Nat.add_zero] at this; exact this
    · obtain ⟨g1, g3, g4, g5⟩ := hok q (by simp [hq])
      exact ⟨g1, hor.1 q hq, g4, g5⟩
    · have e : off + 3 + j = off + (3 + j) := by omega
      rw [e]
      refine hc (3 + j) v ?_
      rw [List.flatMap_cons, List.getElem?_append_right (by simp [RowF.cells])]
      have : 3 + j - r.cells.length = j := by simp [RowF.cells]
      rw [this]; exact hj
theorem OwnFrag.fragsX {w : World} {base : Nat} {v : Value} {L : List RowF} (h : OwnFrag w base v L) (hL : L.length ≤ 1048576) (hbase : base ≤ w.heap.size) : ∃ a cap, v = .slice a L.length cap ∧ L.length ≤ cap ∧ FragsX w base w.heap.size a L.length (L.map RowF.frag) := by
  obtain ⟨hl, ⟨rfl, hn⟩ | ⟨gb, cap, cur, rfl, hb, hg, hc, hm, hs, ht⟩⟩ := h.own
  · obtain rfl : L = [] := List.eq_nil_of_length_eq_zero hn
    exact ⟨none, 0, rfl, Nat.le_refl _, rfl, Nat.zero_le _, hbase, .inl rfl⟩
  · have hlt : gb < w.heap.size := by
      rcases Nat.lt_or_ge gb w.heap.size with h | h
      · exact h
      · rw [Array.getElem?_eq_none h] at hg; cases hg
    refine ⟨_, _, rfl, hc, by simp, by omega, hbase, .inr ⟨gb, 0, rfl, hb, hlt, ?_⟩⟩
    refine rows_lieFX ⟨cur, _, hg⟩ hbase (fun r hr => ?_) h.order (fun j u hj => ?_)
    · obtain ⟨h1, h3, h4, h5⟩ := h.ok r hr
      exact ⟨h1, h3, h4, h5 gb rfl⟩
    · rw [Nat.zero_add]
      rw [← ht] at hj
      have hj2 := (List.getElem?_eq_some_iff.1 hj).1
      rw [List.length_take] at hj2
      rw [List.getElem?_take_of_lt (by omega)] at hj
      have e2 : cur[j]? = some u := by rw [← hj]; simp
      simp [World.cell?, hg, e2]

theorem infoFrag3 : (Tryz.prog.info? 40).map (fun i => (i.zero, i.size, i.bytes)) = some (some (.agg #[.string ⟨#[]⟩, .string ⟨#[]⟩, .slice none 0 0]), 3, 56) := by kernel_rfl
/-- 'append(out, x)' of one Frag, that lies in a block of its own. -/
theorem app_frag {w : World} {ops : Array Oper} {rest : List Oper} {o : Oper} {a : Act} {Q : Exit → Act → World → Prop} (hgd : o.guard = none) (s x : Operand)
    (ho : o.op = .call { callee := .builtin .append, args := #[s, x], argTypes := #[23, 23] })
    (base : Nat) (v : Value) (L : List RowF) (hs : a.eval s = v) (hown : OwnFrag w base v L)
    (B c : Nat) (hx : a.eval x = .slice (some ⟨B, 0, none⟩) 1 c) (r : RowF) (hc : w.heap[B]? = some (.cells r.cells.toArray 40 (0, 0)))
    (hr : OkF w r.lo r.hi r ∧ base ≤ r.lo ∧ r.hi ≤ w.heap.size ∧ ∀ g, v.ownBlock = some g → g < r.lo ∨ r.hi ≤ g) (hord : ∀ q ∈ L, q.hi ≤ r.lo)
    (hsize : L.length + 1 ≤ 1048576) (hbase : base ≤ w.heap.size)
    (h : ∀ v' w', OwnFrag w' base v' (L ++ [r]) → Below base w w' → wpList Tryz.prog ops Q rest (a.put o.dst v') w') : wpList Tryz.prog ops Q (o :: rest) a w := by
  obtain ⟨i0, hi, hz0, hz1, hz2⟩ := info_parts infoFrag3
  refine wpList_append_lies w hgd s x 23 ho base 40 i0 _ 3 56 Tryz.underlying23 hi hz0 hz1 hz2 rfl (by decide) v L.length (L.flatMap RowF.cells) hs hown.own ⟨B, 0, none⟩ 1 c r.cells hx rfl
    (fun j u hj => World.news_of_block hc j u (by simpa using hj)) (fun u hu => ?_) (by omega) (by unfold maxLen; omega) (by omega) hbase _ rfl ?_
  · simp [RowF.cells] at hu
    rcases hu with rfl | rfl | rfl <;> rfl
  · intro g cap w' hown' hgrow hat hlt
    have hblk : ∀ c, c < w.heap.size → some c ≠ v.ownBlock → w'.heap[c]? = w.heap[c]? := fun c h1 h2 => hgrow.block c h1 h2
    refine h _ w' ⟨?_, List.pairwise_append.2 ⟨hown.order, List.pairwise_singleton _ _, fun q hq r' hr' => by rw [List.mem_singleton] at hr'; subst hr'; exact hord q hq⟩, fun q hq => ?_⟩ ((Below.refl base w).grown hgrow hbase (fun k hk => (hown.own.lt k hk).1))
    · rw [List.flatMap_append, List.length_append]; simpa using hown'
    · have hq2 : OkF w q.lo q.hi q ∧ base ≤ q.lo ∧ q.hi ≤ w.heap.size ∧ ∀ g, v.ownBlock = some g → g < q.lo ∨ q.hi ≤ g := by
        rcases List.mem_append.1 hq with hq | hq
        · exact hown.ok q hq
        · rw [List.mem_singleton] at hq; subst hq; exact hr
      obtain ⟨⟨h1, h2⟩, h3, h4, h5⟩ := hq2
      have far : ∀ c, q.lo ≤ c → c < q.hi → w'.heap[c]? = w.heap[c]? := fun c c1 c2 => hblk c (by omega) fun e => by
        have := h5 c e.symm; omega
      have last : ∀ g', (Value.slice (some ⟨g, 0, none⟩) (L.length + 1) cap).ownBlock = some g' → g' < q.lo ∨ q.hi ≤ g' := fun g' hg' => by
        have e : g' = g := by simpa [Value.ownBlock] using hg'.symm
        subst e
        rcases hat with hat | hat
        · exact h5 _ hat
        · right; omega
      exact ⟨⟨h1, h2.block far⟩, h3, Nat.le_trans h4 hgrow.size, last⟩
end Go.Proofs.YtnkknfnndoegpaaGreatDoor.Selss
