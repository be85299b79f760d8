/-
  Rows of selections of the call's own, grown by append of one or of many; no program's function. Conditions: as each theorem says.
-/
import Derived.Test.YtnkknfnndoegpaaDoorRows
import Derived.Test.YtnkknfnndoegpaaDoorClashP
import Derived.Deep.AppendLies
import Derived.Deep.RegionLaw
import Derived.OwnWalk
namespace Go.Proofs.YtnkknfnndoegpaaDoor.Selss
open Go.RowKit
set_option linter.unusedVariables false
set_option maxRecDepth 100000

theorem infoSel5 : (Tryd.prog.info? 67).map (fun i => (i.zero, i.size, i.bytes)) = some (some (.agg #[.int .i64 0, .string ⟨#[]⟩, .string ⟨#[]⟩, .int .i64 0, .slice none 0 0]), 5, 72) := by kernel_rfl
/-- One selection in a row. -/
structure RowS where
  k : Int
  key : ByteArray
  nm : ByteArray
  f : Int
  u : Sels
  a : Option Addr
  cap : Nat
def RowS.cells (r : RowS) : List Value := [.int .i64 r.k, .string r.key, .string r.nm, .int .i64 r.f, .slice r.a r.u.len r.cap]
def RowS.ok (w : World) (A B : Nat) (r : RowS) : Prop := (OkI r.k ∧ OkS r.key ∧ OkS r.nm ∧ OkI r.f) ∧ SelsAt w A B r.a r.u.len r.u
def toSels : List RowS → Sels
  | [] => .nil
  | r :: l => .cons r.k r.key r.nm r.f r.u (toSels l)
theorem toSels_len : ∀ l : List RowS, (toSels l).len = l.length
  | [] => rfl
  | r :: l => by simp only [toSels, Sels.len, List.length_cons, toSels_len l]
theorem toSels_append : ∀ l m : List RowS, toSels (l ++ m) = (toSels l).app (toSels m)
  | [], m => rfl
  | r :: l, m => by simp only [List.cons_append, toSels, Sels.app, toSels_append l m]
theorem RowS.ok.below {w w' : World} {A B C : Nat} {r : RowS} (h : RowS.ok w A B r) (hB : B ≤ C) (g : Below C w w') : RowS.ok w' A B r := ⟨h.1, h.2.below hB g⟩
theorem RowS.ok.wide {w : World} {A B A' B' : Nat} {r : RowS} (h : RowS.ok w A B r) (hA : A' ≤ A) (hB : B ≤ B') : RowS.ok w A' B' r := ⟨h.1, h.2.wide hA hB⟩
def OwnSs (w : World) (base : Nat) (v : Value) (R : List RowS) : Prop := w.ownsRow base 67 5 v R.length (R.flatMap RowS.cells)
theorem OwnSs.nil (w : World) (base : Nat) : OwnSs w base (.slice none 0 0) [] := World.ownsRow_nil w base _ _
theorem OwnSs.made (w : World) (base : Nat) (h : base ≤ w.heap.size) : OwnSs (w.alloc (.cells #[] 67)) base (.slice (some ⟨w.heap.size, 0, none⟩) 0 0) [] := World.ownsRow_made w #[] 0 h (by decide) rfl
theorem OwnSs.frame {w w' : World} {base : Nat} {v : Value} {R : List RowS} (h : OwnSs w base v R) (g : ∀ c, base ≤ c → c < w.heap.size → w'.heap[c]? = w.heap[c]?) : OwnSs w' base v R := by
  obtain ⟨hl, ⟨hv, hn⟩ | ⟨gb, cap, cur, hv, hb, hg, hc, hm, hs, ht⟩⟩ := h
  · exact ⟨hl, .inl ⟨hv, hn⟩⟩
  · exact ⟨hl, .inr ⟨gb, cap, cur, hv, hb, (g gb hb (Rw.lt_of_get hg)).trans hg, hc, hm, hs, ht⟩⟩
theorem OwnSs.below {w w' : World} {base : Nat} {v : Value} {R : List RowS} (h : OwnSs w base v R) (g : Below w.heap.size w w') : OwnSs w' base v R := h.frame fun c _ hc => g.block c hc
theorem OwnSs.mono {w : World} {base base' : Nat} {v : Value} {R : List RowS} (h : OwnSs w base v R) (hb : base' ≤ base) : OwnSs w base' v R := by
  obtain ⟨hl, ⟨hv, hn⟩ | ⟨gb, cap, cur, hv, hb', hg, hc, hm, hs, ht⟩⟩ := h
  · exact ⟨hl, .inl ⟨hv, hn⟩⟩
  · exact ⟨hl, .inr ⟨gb, cap, cur, hv, by omega, hg, hc, hm, hs, ht⟩⟩
theorem OwnSs.slice {w : World} {base : Nat} {v : Value} {R : List RowS} (h : OwnSs w base v R) : ∃ a cap, v = .slice a R.length cap := by
  obtain ⟨_, ⟨rfl, hn⟩ | ⟨g, cap, cur, rfl, _⟩⟩ := h
  · rw [hn]; exact ⟨none, 0, rfl⟩
  · exact ⟨_, _, rfl⟩
theorem cells_at : ∀ {R : List RowS} {i q : Nat} {r : RowS} {u : Value}, R[i]? = some r → r.cells[q]? = some u → (R.flatMap RowS.cells)[i * 5 + q]? = some u
  | x :: R, 0, q, r, u, h, hq => by
    cases h
    have hq' : q < x.cells.length := (List.getElem?_eq_some_iff.1 hq).1
    rw [List.flatMap_cons, Nat.zero_mul, Nat.zero_add, List.getElem?_append_left hq']; exact hq
  | x :: R, i + 1, q, r, u, h, hq => by
    have e : x.cells.length = 5 := rfl
    rw [List.flatMap_cons, List.getElem?_append_right (by rw [e]; omega), e, show (i + 1) * 5 + q - 5 = i * 5 + q by omega]
    exact cells_at (by simpa using h) hq
/-- Rows lie as selections. -/
theorem lie_of_rows {w : World} {A B b : Nat} (hb : b < B) : ∀ {R : List RowS} {off : Nat}, (∀ r, r ∈ R → RowS.ok w A B r) → (∀ j u, (R.flatMap RowS.cells)[j]? = some u → w.cell? ⟨b, off + j, none⟩ = some u) → Lie w A B (toSels R) b off
  | [], off, _, _ => trivial
  | r :: R, off, hok, hc => by
    have h1 := hok r (List.mem_cons_self ..)
    have hq : ∀ q u, r.cells[q]? = some u → w.cell? ⟨b, off + q, none⟩ = some u := fun q u hq => by
      have := hc (0 * 5 + q) u (cells_at (R := r :: R) (i := 0) rfl hq)
      rwa [Nat.zero_mul, Nat.zero_add] at this
    refine ⟨h1.1, hb, by have := hq 0 _ rfl; rwa [Nat.add_zero] at this, hq 1 _ rfl, hq 2 _ rfl, hq 3 _ rfl, ⟨r.a, r.cap, hq 4 _ rfl, h1.2.2.1, h1.2.2.2⟩, lie_of_rows hb (fun x hx => hok x (List.mem_cons_of_mem _ hx)) fun j u hj => ?_⟩
    have e : r.cells.length = 5 := rfl
    have := hc (5 + j) u (by rw [List.flatMap_cons, List.getElem?_append_right (by rw [e]; omega), e, show 5 + j - 5 = j by omega]; exact hj)
    rwa [show off + 5 + j = off + (5 + j) by omega]
/-- Selections in memory are rows. -/
theorem rows_of_lie {w : World} {A B b : Nat} : ∀ {s : Sels} {off : Nat}, Lie w A B s b off → ∃ R : List RowS, toSels R = s ∧ (∀ r, r ∈ R → RowS.ok w A B r) ∧ ∀ j u, (R.flatMap RowS.cells)[j]? = some u → w.cell? ⟨b, off + j, none⟩ = some u
  | .nil, off, _ => ⟨[], rfl, fun r hr => by simp at hr, fun j u hj => by simp at hj⟩
  | .cons k key nm f u r, off, ⟨hk, hb, h0, h1, h2, h3, ⟨a, cap, h4, hul, hu⟩, hr⟩ => by
    obtain ⟨R, e, hok, hc⟩ := rows_of_lie hr
    refine ⟨⟨k, key, nm, f, u, a, cap⟩ :: R, by rw [← e]; rfl, fun x hx => ?_, fun j v hj => ?_⟩
    · rcases List.mem_cons.1 hx with rfl | hx
      · exact ⟨hk, rfl, hul, hu⟩
      · exact hok x hx
    · rw [List.flatMap_cons] at hj
      by_cases hj5 : j < 5
      · rw [List.getElem?_append_left (by simpa [RowS.cells] using hj5)] at hj
        match j, hj with
        | 0, hj => cases hj; rw [Nat.add_zero]; exact h0
        | 1, hj => cases hj; exact h1
        | 2, hj => cases hj; exact h2
        | 3, hj => cases hj; exact h3
        | 4, hj => cases hj; exact h4
        | j + 5, hj => omega
      · rw [List.getElem?_append_right (by simp [RowS.cells]; omega)] at hj
        have := hc _ v hj
        rw [← this]; congr 2; simp [RowS.cells]; omega
theorem SelsAt.rows {w : World} {A B len : Nat} {a : Option Addr} {s : Sels} (h : SelsAt w A B a len s) : ∃ R : List RowS, toSels R = s ∧ R.length = len ∧ (∀ r, r ∈ R → RowS.ok w A B r) ∧ (R = [] ∨ ∃ b off, a = some ⟨b, off, none⟩ ∧ A ≤ b ∧ ∀ j u, (R.flatMap RowS.cells)[j]? = some u → w.cell? ⟨b, off + j, none⟩ = some u) := by
  rcases h.2.2 with rfl | ⟨b, off, ha, hA, hl⟩
  · exact ⟨[], rfl, by rw [← h.1]; rfl, fun r hr => by simp at hr, .inl rfl⟩
  · obtain ⟨R, e, hok, hc⟩ := rows_of_lie hl
    exact ⟨R, e, by rw [← toSels_len, e]; exact h.1, hok, .inr ⟨b, off, ha, hA, hc⟩⟩
theorem OwnSs.sels {w : World} {base A B : Nat} {v : Value} {R : List RowS} (h : OwnSs w base v R) (hok : ∀ r, r ∈ R → RowS.ok w A B r) (hA : A ≤ base) (hB : B ≤ w.heap.size) (hl : R.length ≤ 9223372036854775807) : ∃ a cap, v = .slice a R.length cap ∧ R.length ≤ cap ∧ SelsAt w A w.heap.size a R.length (toSels R) := by
  obtain ⟨hll, ⟨rfl, hn⟩ | ⟨gb, cap, cur, rfl, hb, hg, hc, hm, hs, ht⟩⟩ := h
  · obtain rfl : R = [] := List.eq_nil_of_length_eq_zero hn
    exact ⟨none, 0, rfl, Nat.le_refl _, rfl, by decide, .inl rfl⟩
  · have hlt := Rw.lt_of_get hg
    refine ⟨_, _, rfl, hc, toSels_len R, by rw [toSels_len]; exact hl, .inr ⟨gb, 0, rfl, by omega, lie_of_rows hlt (fun r hr => (hok r hr).wide (Nat.le_refl _) hB) fun j u hj => ?_⟩⟩
    rw [← ht] at hj
    have hj2 := (List.getElem?_eq_some_iff.1 hj).1
    rw [List.length_take] at hj2
    rw [List.getElem?_take_of_lt (by omega)] at hj
    rw [Nat.zero_add]
    refine Rw.cell_of hg (by rw [← hj]; simp)

/-- From v to v': of what was there the block of v alone may have changed. -/
structure MadeS (v v' : Value) (w w' : World) : Prop where
  grown : w.grownBy w' v.ownBlock
  own : ∀ g, v'.ownBlock = some g → v.ownBlock = some g ∨ w.heap.size ≤ g
theorem MadeS.refl (v : Value) (w : World) : MadeS v v w w := ⟨⟨rfl, rfl, rfl, Nat.le_refl _, fun _ _ _ => rfl⟩, fun _ h => .inl h⟩
theorem MadeS.size {v v' : Value} {w w' : World} (h : MadeS v v' w w') : w.heap.size ≤ w'.heap.size := h.grown.size
theorem MadeS.trans {v v1 v2 : Value} {w w1 w2 : World} (h : MadeS v v1 w w1) (g : MadeS v1 v2 w1 w2) : MadeS v v2 w w2 :=
  ⟨⟨g.grown.os.trans h.grown.os, g.grown.tape.trans h.grown.tape, g.grown.output.trans h.grown.output, Nat.le_trans h.grown.size g.grown.size, fun k hk hn => (g.grown.block k (Nat.lt_of_lt_of_le hk h.grown.size) (fun e => by
      rcases h.own k e.symm with e2 | e2
      · exact hn e2.symm
      · omega)).trans (h.grown.block k hk hn)⟩, fun b hb => by
      rcases g.own b hb with e | e
      · exact h.own b e
      · exact .inr (Nat.le_trans h.grown.size e)⟩
theorem MadeS.of_below {v : Value} {w w' : World} (g : Below w.heap.size w w') : MadeS v v w w' := ⟨⟨g.os, g.tape, g.output, g.size, fun k hk _ => g.block k hk⟩, fun _ h => .inl h⟩
theorem MadeS.below {v v' : Value} {w w1 w2 : World} (h : MadeS v v' w w1) (g : Below w1.heap.size w1 w2) : MadeS v v' w w2 := h.trans (MadeS.of_below g)
/-- New blocks ahead of it. -/
theorem MadeS.after {v v' : Value} {w w1 w2 : World} (g : Below w.heap.size w w1) (h : MadeS v v' w1 w2) : MadeS v v' w w2 := (MadeS.of_below g).trans h
theorem MadeS.to {v v' : Value} {w w' : World} {base : Nat} (h : MadeS v v' w w') (hv : ∀ g, v.ownBlock = some g → base ≤ g) (hb : base ≤ w.heap.size) : Below base w w' :=
  ⟨h.grown.os, h.grown.tape, h.grown.output, h.grown.size, fun k hk => h.grown.block k (by omega) (fun e => by have := hv k e.symm; omega)⟩
theorem MadeS.block {v v' : Value} {w w' : World} (h : MadeS v v' w w') {c : Nat} (hc : c < w.heap.size) (hne : ∀ g, v.ownBlock = some g → g ≠ c) : w'.heap[c]? = w.heap[c]? := h.grown.block c hc fun e => hne _ e.symm rfl
theorem OwnSs.base {w : World} {base : Nat} {v : Value} {R : List RowS} (h : OwnSs w base v R) : ∀ g, v.ownBlock = some g → base ≤ g ∧ g < w.heap.size := fun g hg => World.ownsRow.lt h g hg

theorem own_of {v : Value} {w : World} {g n cap : Nat} (hat : v.ownBlock = some g ∨ g = w.heap.size) : ∀ k, (Value.slice (some ⟨g, 0, none⟩) n cap).ownBlock = some k → v.ownBlock = some k ∨ w.heap.size ≤ k := fun k hk => by
  have e : k = g := by simpa [Value.ownBlock] using hk.symm
  subst e
  rcases hat with h | h
  · exact .inl h
  · exact .inr (by omega)
section
variable {w : World} {ops : Array Oper} {o : Oper} {a : Act} {rest : List Oper} {Q : Exit → Act → World → Prop}
theorem app_one (hgd : o.guard = none) (s x : Operand)
    (ho : o.op = .call { callee := .builtin .append, args := #[s, x], argTypes := #[28, 28] })
    (base : Nat) (v : Value) (R : List RowS) (hs : a.eval s = v) (hown : OwnSs w base v R)
    (B c : Nat) (hx : a.eval x = .slice (some ⟨B, 0, none⟩) 1 c) (r : RowS) (hc : w.heap[B]? = some (.cells r.cells.toArray 67 (0, 0)))
    (hsize : R.length + 1 ≤ 200000000000) (hbase : base ≤ w.heap.size)
    (h : ∀ a' cap w', OwnSs w' base (.slice a' (R.length + 1) cap) (R ++ [r]) → MadeS v (.slice a' (R.length + 1) cap) w w' → wpList Tryd.prog ops Q rest (a.put o.dst (.slice a' (R.length + 1) cap)) w') : wpList Tryd.prog ops Q (o :: rest) a w := by
  obtain ⟨i0, hi, hz0, hz1, hz2⟩ := info_parts infoSel5
  refine wpList_append_lies w hgd s x 28 ho base 67 i0 _ 5 72 Tryd.underlying28 hi hz0 hz1 hz2 rfl (by decide) v R.length (R.flatMap RowS.cells) hs hown ⟨B, 0, none⟩ 1 c r.cells hx rfl
    (fun j u hj => World.news_of_block hc j u (by simpa using hj)) (fun u hu => ?_) (by omega) (by unfold maxLen; omega) (by omega) hbase _ rfl ?_
  · simp [RowS.cells] at hu
    rcases hu with rfl | rfl | rfl | rfl | rfl <;> rfl
  · intro g cap w' hown' hgrow hat _
    refine h _ cap w' ?_ ⟨hgrow, own_of hat⟩
    unfold OwnSs
    rw [List.length_append, List.flatMap_append]; simpa using hown'
theorem app_rows (hgd : o.guard = none) (s x : Operand)
    (ho : o.op = .call { callee := .builtin .append, args := #[s, x], argTypes := #[28, 28] })
    (base : Nat) (v : Value) (R : List RowS) (hs : a.eval s = v) (hown : OwnSs w base v R)
    (A B : Nat) (a1 : Option Addr) (len c : Nat) (u : Sels) (hx : a.eval x = .slice a1 len c) (hu : SelsAt w A B a1 len u)
    (hsize : R.length + len ≤ 200000000000) (hbase : base ≤ w.heap.size)
    (h : ∀ a' cap w' R2, toSels R2 = u → R2.length = len → (∀ r, r ∈ R2 → RowS.ok w A B r) → OwnSs w' base (.slice a' (R.length + len) cap) (R ++ R2) → MadeS v (.slice a' (R.length + len) cap) w w' → wpList Tryd.prog ops Q rest (a.put o.dst (.slice a' (R.length + len) cap)) w') : wpList Tryd.prog ops Q (o :: rest) a w := by
  obtain ⟨i0, hi, hz0, hz1, hz2⟩ := info_parts infoSel5
  obtain ⟨R2, e1, e2, hok, hrow⟩ := hu.rows
  have hlen : ∀ l : List RowS, (l.flatMap RowS.cells).length = l.length * 5 := by
    intro l
    induction l with
    | nil => rfl
    | cons y l ih => rw [List.flatMap_cons, List.length_append, ih, List.length_cons]; simp [RowS.cells]; omega
  have hone : ∀ v ∈ R2.flatMap RowS.cells, v.oneCell' = true := fun v hv => by
    obtain ⟨y, _, hy⟩ := List.mem_flatMap.1 hv
    simp [RowS.cells] at hy
    rcases hy with rfl | rfl | rfl | rfl | rfl <;> rfl
  by_cases hz : len = 0
  · subst hz
    obtain rfl : R2 = [] := List.eq_nil_of_length_eq_zero e2
    obtain ⟨av, cav, rfl⟩ := hown.slice
    refine wpList_plain hgd fun K hK => ?_
    have hrun := run_app_empty (w := w) base 28 o.type 67 i0 5 Tryd.underlying28 hi _ R.length a1 c _ hown
    unfold Oper.wp
    simp only [Nat.add_zero] at h
    simp [execOp, ho, resolve, invoke, builtin, hs, hx, hrun, Result.andThen]
    exact hK _ _ (h av cav w [] e1 rfl (fun r hr => by simp at hr) (by simpa using hown) (MadeS.refl _ _))
  · rcases hrow with rfl | ⟨b, off, rfl, hA, hc⟩
    · exact absurd e2.symm (by simpa using hz)
    · refine wpList_append_lies w hgd s x 28 ho base 67 i0 (.agg #[.int .i64 0, .string ⟨#[]⟩, .string ⟨#[]⟩, .int .i64 0, .slice none 0 0]) 5 72 Tryd.underlying28 hi hz0 hz1 hz2 rfl (by omega) v R.length (R.flatMap RowS.cells) hs hown ⟨b, off, none⟩ len c (R2.flatMap RowS.cells) hx (by rw [hlen, e2]) (fun j u hj => by rw [add_plain']; exact hc j u hj) hone (by omega) (by unfold maxLen; omega) (by omega) hbase _ rfl fun g cap w' hown' hgrow hat _ => ?_
      refine h _ cap w' R2 e1 e2 hok ?_ ⟨hgrow, own_of hat⟩
      unfold OwnSs; rw [List.length_append, List.flatMap_append, e2]; exact hown'
where
  add_plain' {b off i : Nat} : (⟨b, off, none⟩ : Addr).add i = ⟨b, off + i, none⟩ := by unfold Addr.add; split <;> simp_all
  run_app_empty {w : World} (base : Nat) (t ty e : TypeId) (i : TypeInfo) (size : Nat) (ht : Tryd.prog.underlying t = some (.slice e)) (hi : Tryd.prog.info? e = some i)
    (v : Value) (n : Nat) (a1 : Option Addr) (c : Nat) (xs : List Value) (hown : w.ownsRow base e size v n xs) :
    (Builtin.append_ #[t, t] ty #[v, .slice a1 0 c]).run Tryd.prog w = .ok v w := by
    have hl : ∀ ad : Addr, (loadCells ad 0).run Tryd.prog w = .ok #[] w := fun ad => run_loadCells_list (P := Tryd.prog) w ad [] (fun j v hj => by simp at hj)
    rcases hown.2 with ⟨rfl, rfl⟩ | ⟨g, cap, cur, rfl, _, _, hnc, _⟩
    · cases a1 <;> simp [Builtin.append_, run_underlying ht, sizeOf, typeInfo, hi, Builtin.lenOf, Builtin.firstCells, hl, Result.andThen]
    · cases a1 <;> simp [Builtin.append_, run_underlying ht, sizeOf, typeInfo, hi, Builtin.lenOf, Builtin.firstCells, hnc, storeCells, hl, Result.andThen]
end
end Go.Proofs.YtnkknfnndoegpaaDoor.Selss
