/-
  A slice of selections of the call's own, grown by append; no program. Conditions: as each theorem says.
-/
import Derived.Test.YtnkknfnndoegpaaGreatDoorRows
import Derived.Test.YtnkknfnndoegpaaGreatDoorApart
import Derived.Deep.AppendLies
namespace Go.Proofs.YtnkknfnndoegpaaGreatDoor.Selss
open Go.RowKit
set_option linter.unusedVariables false

/-- One selection in a row of the call's own: its cells; what is within lies in blocks from lo on, below hi. -/
structure RowS where
  k : Int
  key : ByteArray
  nm : ByteArray
  f : Int
  a : Option Addr
  cap : Nat
  u : Sels
  lo : Nat
  hi : Nat
def RowS.cells (r : RowS) : List Value := [.int .i64 r.k, .string r.key, .string r.nm, .int .i64 r.f, .slice r.a r.u.len r.cap]
def rowsSels : List RowS → Sels
  | [] => .nil
  | r :: L => .cons r.k r.key r.nm r.f r.u (rowsSels L)
theorem rowsSels_len : ∀ L : List RowS, (rowsSels L).len = L.length
  | [] => rfl
  | r :: L => by simp [rowsSels, Sels.len, rowsSels_len L]
structure OwnSel (w : World) (base : Nat) (v : Value) (L : List RowS) : Prop where
  own : w.ownsRow base 50 5 v L.length (L.flatMap RowS.cells)
  order : L.Pairwise (fun r q => r.hi ≤ q.lo)
  ok : ∀ r ∈ L, (OkI r.k ∧ OkS r.key ∧ OkS r.nm ∧ OkI r.f) ∧ SelsX w r.lo r.hi r.a r.u.len r.u ∧ base ≤ r.lo ∧ r.hi ≤ w.heap.size ∧ ∀ g, v.ownBlock = some g → g < r.lo ∨ r.hi ≤ g
theorem OwnSel.made (w : World) (base : Nat) (hb : base ≤ w.heap.size) : OwnSel (w.alloc (.cells #[] 50)) base (.slice (some ⟨w.heap.size, 0, none⟩) 0 0) [] :=
  ⟨World.ownsRow_lit (size := 5) w #[] 0 hb (by simp) rfl, List.Pairwise.nil, fun r hr => by cases hr⟩
theorem OwnSel.none_ (w : World) (base : Nat) : OwnSel w base (.slice none 0 0) [] := ⟨World.ownsRow_nil w base _ _, List.Pairwise.nil, fun r hr => by cases hr⟩
theorem OwnSel.frame {w w' : World} {base : Nat} {v : Value} {L : List RowS} (h : OwnSel w base v L) (hz : w.heap.size ≤ w'.heap.size) (hw : ∀ c, base ≤ c → c < w.heap.size → w'.heap[c]? = w.heap[c]?) : OwnSel w' base v L := by
  refine ⟨?_, h.order, fun r hr => ?_⟩
  · obtain ⟨hl, ⟨hv, hn⟩ | ⟨gb, cap, cur, hv, hb, hg, hc, hm, hs, ht⟩⟩ := h.own
    · exact ⟨hl, .inl ⟨hv, hn⟩⟩
    · have hlt : gb < w.heap.size := by
        rcases Nat.lt_or_ge gb w.heap.size with h | h
        · exact h
        · rw [Array.getElem?_eq_none h] at hg; cases hg
      exact ⟨hl, .inr ⟨gb, cap, cur, hv, hb, (hw gb hb hlt).trans hg, hc, hm, hs, ht⟩⟩
  · obtain ⟨h1, h2, h3, h4, h5⟩ := h.ok r hr
    exact ⟨h1, h2.block (fun c c1 c2 => hw c (by omega) (by omega)), h3, by omega, h5⟩
/-- The row, as selections in memory, apart. -/
theorem rows_lieX {w : World} {B b : Nat} (hf : Free w b) : ∀ {L : List RowS} {A off : Nat}, A ≤ B → (∀ r ∈ L, (OkI r.k ∧ OkS r.key ∧ OkS r.nm ∧ OkI r.f) ∧ SelsX w r.lo r.hi r.a r.u.len r.u ∧ A ≤ r.lo ∧ r.hi ≤ B ∧ (b < r.lo ∨ r.hi ≤ b)) → L.Pairwise (fun r q => r.hi ≤ q.lo) → (∀ j v, (L.flatMap RowS.cells)[j]? = some v → w.cell? ⟨b, off + j, none⟩ = some v) → LieX w (rowsSels L) A B b off
  | [], _, _, h, _, _, _ => h
  | r :: L, A, off, hAB, hok, hord, hc => by
    have h0 := hok r (by simp)
    have hcell : ∀ j v, r.cells[j]? = some v → w.cell? ⟨b, off + j, none⟩ = some v := fun j v hv => hc j v (by
      rw [List.flatMap_cons, List.getElem?_append_left (List.getElem?_eq_some_iff.1 hv).1]; exact hv)
    obtain ⟨h1, h2, h3, h4, h5⟩ := h0
    have hor := List.pairwise_cons.1 hord
    refine ⟨h1, hf, ?_, hcell 1 _ rfl, hcell 2 _ rfl, hcell 3 _ rfl, r.a, r.cap, r.lo, r.hi, hcell 4 _ rfl, h2.2.1, h3, h2.2.2.1, h4, h5, h2.2.2.2, rows_lieX hf h4 (fun q hq => ?_) hor.2 (fun j v hj => ?_)⟩
    · have := hcell 0 _ rfl; rw [Nat.add_zero] at this; exact this
    · obtain ⟨g1, g2, g3, g4, g5⟩ := hok q (by simp [hq])
      exact ⟨g1, g2, hor.1 q hq, g4, g5⟩
    · have e : off + 5 + j = off + (5 + j) := by omega
      rw [e]
      refine hc (5 + j) v ?_
      rw [List.flatMap_cons, List.getElem?_append_right (by simp [RowS.cells])]
      have : 5 + j - r.cells.length = j := by simp [RowS.cells]
      rw [this]; exact hj
theorem OwnSel.selsX {w : World} {base : Nat} {v : Value} {L : List RowS} (h : OwnSel w base v L) (hL : L.length ≤ 1048576) (hbase : base ≤ w.heap.size) : ∃ a cap, v = .slice a L.length cap ∧ L.length ≤ cap ∧ SelsX w base w.heap.size a L.length (rowsSels L) := by
  obtain ⟨hl, ⟨rfl, hn⟩ | ⟨gb, cap, cur, rfl, hb, hg, hc, hm, hs, ht⟩⟩ := h.own
  · obtain rfl : L = [] := List.eq_nil_of_length_eq_zero hn
    exact ⟨none, 0, rfl, Nat.le_refl _, rfl, Nat.zero_le _, hbase, .inl rfl⟩
  · have hlt : gb < w.heap.size := by
      rcases Nat.lt_or_ge gb w.heap.size with h | h
      · exact h
      · rw [Array.getElem?_eq_none h] at hg; cases hg
    refine ⟨_, _, rfl, hc, rowsSels_len L, by rw [rowsSels_len]; omega, hbase, .inr ⟨gb, 0, rfl, hb, hlt, ?_⟩⟩
    refine rows_lieX ⟨cur, _, hg⟩ hbase (fun r hr => ?_) h.order (fun j u hj => ?_)
    · obtain ⟨h1, h2, h3, h4, h5⟩ := h.ok r hr
      exact ⟨h1, h2, h3, h4, h5 gb rfl⟩
    · rw [Nat.zero_add]
      rw [← ht] at hj
      have hj2 := (List.getElem?_eq_some_iff.1 hj).1
      rw [List.length_take] at hj2
      rw [List.getElem?_take_of_lt (by omega)] at hj
      have e2 : cur[j]? = some u := by rw [← hj]; simp
      simp [World.cell?, hg, e2]

theorem infoSel5 : (Tryz.prog.info? 50).map (fun i => (i.zero, i.size, i.bytes)) = some (some (.agg #[.int .i64 0, .string ⟨#[]⟩, .string ⟨#[]⟩, .int .i64 0, .slice none 0 0]), 5, 72) := by kernel_rfl
/-- 'append(out, x)' of one selection, that lies in a block of its own. -/
theorem app_sel {w : World} {ops : Array Oper} {rest : List Oper} {o : Oper} {a : Act} {Q : Exit → Act → World → Prop} (hgd : o.guard = none) (s x : Operand)
    (ho : o.op = .call { callee := .builtin .append, args := #[s, x], argTypes := #[22, 22] })
    (base : Nat) (v : Value) (L : List RowS) (hs : a.eval s = v) (hown : OwnSel w base v L)
    (B c : Nat) (hx : a.eval x = .slice (some ⟨B, 0, none⟩) 1 c) (r : RowS) (hc : w.heap[B]? = some (.cells r.cells.toArray 50 (0, 0)))
    (hr : (OkI r.k ∧ OkS r.key ∧ OkS r.nm ∧ OkI r.f) ∧ SelsX w r.lo r.hi r.a r.u.len r.u ∧ base ≤ r.lo ∧ r.hi ≤ w.heap.size ∧ ∀ g, v.ownBlock = some g → g < r.lo ∨ r.hi ≤ g) (hord : ∀ q ∈ L, q.hi ≤ r.lo)
    (hsize : L.length + 1 ≤ 1048576) (hbase : base ≤ w.heap.size)
    (h : ∀ v' w', OwnSel w' base v' (L ++ [r]) → Below base w w' → wpList Tryz.prog ops Q rest (a.put o.dst v') w') : wpList Tryz.prog ops Q (o :: rest) a w := by
  obtain ⟨i0, hi, hz0, hz1, hz2⟩ := info_parts infoSel5
  refine wpList_append_lies w hgd s x 22 ho base 50 i0 _ 5 72 Tryz.underlying22 hi hz0 hz1 hz2 rfl (by decide) v L.length (L.flatMap RowS.cells) hs hown.own ⟨B, 0, none⟩ 1 c r.cells hx rfl
    (fun j u hj => World.news_of_block hc j u (by simpa using hj)) (fun u hu => ?_) (by omega) (by unfold maxLen; omega) (by omega) hbase _ rfl ?_
  · simp [RowS.cells] at hu
    rcases hu with rfl | rfl | rfl | rfl | rfl <;> rfl
  · intro g cap w' hown' hgrow hat hlt
    have hblk : ∀ c, c < w.heap.size → some c ≠ v.ownBlock → w'.heap[c]? = w.heap[c]? := fun c h1 h2 => hgrow.block c h1 h2
    refine h _ w' ⟨?_, List.pairwise_append.2 ⟨hown.order, List.pairwise_singleton _ _, fun q hq r' hr' => by rw [List.mem_singleton] at hr'; subst hr'; exact hord q hq⟩, fun q hq => ?_⟩ ((Below.refl base w).grown hgrow hbase (fun k hk => (hown.own.lt k hk).1))
    · rw [List.flatMap_append, List.length_append]; simpa using hown'
    · have hq2 : (OkI q.k ∧ OkS q.key ∧ OkS q.nm ∧ OkI q.f) ∧ SelsX w q.lo q.hi q.a q.u.len q.u ∧ base ≤ q.lo ∧ q.hi ≤ w.heap.size ∧ ∀ g, v.ownBlock = some g → g < q.lo ∨ q.hi ≤ g := by
        rcases List.mem_append.1 hq with hq | hq
        · exact hown.ok q hq
        · rw [List.mem_singleton] at hq; subst hq; exact hr
      obtain ⟨h1, h2, h3, h4, h5⟩ := hq2
      have far : ∀ c, q.lo ≤ c → c < q.hi → w'.heap[c]? = w.heap[c]? := fun c c1 c2 => hblk c (by omega) fun e => by
        have := h5 c e.symm; omega
      have last : ∀ g', (Value.slice (some ⟨g, 0, none⟩) (L.length + 1) cap).ownBlock = some g' → g' < q.lo ∨ q.hi ≤ g' := fun g' hg' => by
        have e : g' = g := by simpa [Value.ownBlock] using hg'.symm
        subst e
        rcases hat with hat | hat
        · exact h5 _ hat
        · right; omega
      exact ⟨h1, h2.block far, h3, Nat.le_trans h4 hgrow.size, last⟩
end Go.Proofs.YtnkknfnndoegpaaGreatDoor.Selss
