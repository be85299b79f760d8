/-
  Contract: spec.l05Open lays open the fields of selections, behind others; of what was there nothing but these others is changed. Conditions: in memory, no Frag comes to spread itself.
-/
import Derived.Test.YtceabbbmgfeofaaGreatDoorRows
import Derived.Test.YtceabbbmgfeofaaGreatDoorClashP
import Derived.Deep.AppendLies
import Derived.Deep.RegionLaw
import Derived.OwnWalk
import Derived.Deep.RegionWith
namespace Go.Proofs.YtceabbbmgfeofaaGreatDoor.Selss
open Go.RowKit
set_option linter.unusedVariables false
set_option maxRecDepth 100000
theorem infoSel5 : (Tryz.prog.info? 114).map (fun i => (i.zero, i.size, i.bytes)) = some (some (.agg #[.int .i64 0, .string ⟨#[]⟩, .string ⟨#[]⟩, .int .i64 0, .slice none 0 0]), 5, 72) := by kernel_rfl
/-- One selection in a row. -/
structure RowS where
  k : Int
  key : ByteArray
  nm : ByteArray
  f : Int
  u : Sels
  a : Option Addr
  cap : Nat
def RowS.cells (r : RowS) : List Value := [.int .i64 r.k, .string r.key, .string r.nm, .int .i64 r.f, .slice r.a r.u.len r.cap]
def RowS.ok (w : World) (A B : Nat) (r : RowS) : Prop := (OkI r.k ∧ OkS r.key ∧ OkS r.nm ∧ OkI r.f) ∧ SelsAt w A B r.a r.u.len r.u
def toSels : List RowS → Sels
  | [] => .nil
  | r :: l => .cons r.k r.key r.nm r.f r.u (toSels l)
theorem toSels_len : ∀ l : List RowS, (toSels l).len = l.length
  | [] => rfl
  | r :: l => by simp only [toSels, Sels.len, List.length_cons, toSels_len l]
theorem toSels_append : ∀ l m : List RowS, toSels (l ++ m) = (toSels l).app (toSels m)
  | [], m => rfl
  | r :: l, m => by simp only [List.cons_append, toSels, Sels.app, toSels_append l m]
theorem RowS.ok.below {w w' : World} {A B C : Nat} {r : RowS} (h : RowS.ok w A B r) (hB : B ≤ C) (g : Below C w w') : RowS.ok w' A B r := ⟨h.1, h.2.below hB g⟩
theorem RowS.ok.wide {w : World} {A B A' B' : Nat} {r : RowS} (h : RowS.ok w A B r) (hA : A' ≤ A) (hB : B ≤ B') : RowS.ok w A' B' r := ⟨h.1, h.2.wide hA hB⟩
def OwnSs (w : World) (base : Nat) (v : Value) (R : List RowS) : Prop := w.ownsRow base 114 5 v R.length (R.flatMap RowS.cells)
theorem OwnSs.nil (w : World) (base : Nat) : OwnSs w base (.slice none 0 0) [] := World.ownsRow_nil w base _ _
theorem OwnSs.made (w : World) (base : Nat) (h : base ≤ w.heap.size) : OwnSs (w.alloc (.cells #[] 114)) base (.slice (some ⟨w.heap.size, 0, none⟩) 0 0) [] := World.ownsRow_made w #[] 0 h (by decide) rfl
theorem OwnSs.frame {w w' : World} {base : Nat} {v : Value} {R : List RowS} (h : OwnSs w base v R) (g : ∀ c, base ≤ c → c < w.heap.size → w'.heap[c]? = w.heap[c]?) : OwnSs w' base v R := by
  obtain ⟨hl, ⟨hv, hn⟩ | ⟨gb, cap, cur, hv, hb, hg, hc, hm, hs, ht⟩⟩ := h
  · exact ⟨hl, .inl ⟨hv, hn⟩⟩
  · exact ⟨hl, .inr ⟨gb, cap, cur, hv, hb, (g gb hb (Rw.lt_of_get hg)).trans hg, hc, hm, hs, ht⟩⟩
theorem OwnSs.below {w w' : World} {base : Nat} {v : Value} {R : List RowS} (h : OwnSs w base v R) (g : Below w.heap.size w w') : OwnSs w' base v R := h.frame fun c _ hc => g.block c hc
theorem OwnSs.mono {w : World} {base base' : Nat} {v : Value} {R : List RowS} (h : OwnSs w base v R) (hb : base' ≤ base) : OwnSs w base' v R := by
  obtain ⟨hl, ⟨hv, hn⟩ | ⟨gb, cap, cur, hv, hb', hg, hc, hm, hs, ht⟩⟩ := h
  · exact ⟨hl, .inl ⟨hv, hn⟩⟩
  · exact ⟨hl, .inr ⟨gb, cap, cur, hv, by omega, hg, hc, hm, hs, ht⟩⟩
theorem OwnSs.slice {w : World} {base : Nat} {v : Value} {R : List RowS} (h : OwnSs w base v R) : ∃ a cap, v = .slice a R.length cap := by
  obtain ⟨_, ⟨rfl, hn⟩ | ⟨g, cap, cur, rfl, _⟩⟩ := h
  · rw [hn]; exact ⟨none, 0, rfl⟩
  · exact ⟨_, _, rfl⟩
theorem cells_at : ∀ {R : List RowS} {i q : Nat} {r : RowS} {u : Value}, R[i]? = some r → r.cells[q]? = some u → (R.flatMap RowS.cells)[i * 5 + q]? = some u
  | x :: R, 0, q, r, u, h, hq => by
    cases h
    have hq' : q < x.cells.length := (List.getElem?_eq_some_iff.1 hq).1
    rw [List.flatMap_cons, Nat.zero_mul, Nat.zero_add, List.getElem?_append_left hq']; exact hq
  | x :: R, i + 1, q, r, u, h, hq => by
    have e : x.cells.length = 5 := rfl
    rw [List.flatMap_cons, List.getElem?_append_right (by rw [e]; omega), e, show (i + 1) * 5 + q - 5 = i * 5 + q by omega]
    exact cells_at (by simpa using h) hq
/-- Rows lie as selections. -/
theorem lie_of_rows {w : World} {A B b : Nat} (hb : b < B) : ∀ {R : List RowS} {off : Nat}, (∀ r, r ∈ R → RowS.ok w A B r) → (∀ j u, (R.flatMap RowS.cells)[j]? = some u → w.cell? ⟨b, off + j, none⟩ = some u) → Lie w A B (toSels R) b off
  | [], off, _, _ => trivial
  | r :: R, off, hok, hc => by
    have h1 := hok r (List.mem_cons_self ..)
    have hq : ∀ q u, r.cells[q]? = some u → w.cell? ⟨b, off + q, none⟩ = some u := fun q u hq => by
      have := hc (0 * 5 + q) u (cells_at (R := r :: R) (i := 0) rfl hq)
      rwa [Nat.zero_mul, Nat.zero_add] at this
    refine ⟨h1.1, hb, by have := hq 0 _ rfl; rwa [Nat.add_zero] at this, hq 1 _ rfl, hq 2 _ rfl, hq 3 _ rfl, ⟨r.a, r.cap, hq 4 _ rfl, h1.2.2.1, h1.2.2.2⟩, lie_of_rows hb (fun x hx => hok x (List.mem_cons_of_mem _ hx)) fun j u hj => ?_⟩
    have e : r.cells.length = 5 := rfl
    have := hc (5 + j) u (by rw [List.flatMap_cons, List.getElem?_append_right (by rw [e]; omega), e, show 5 + j - 5 = j by omega]; exact hj)
    rwa [show off + 5 + j = off + (5 + j) by omega]
/-- Selections in memory are rows. -/
theorem rows_of_lie {w : World} {A B b : Nat} : ∀ {s : Sels} {off : Nat}, Lie w A B s b off → ∃ R : List RowS, toSels R = s ∧ (∀ r, r ∈ R → RowS.ok w A B r) ∧ ∀ j u, (R.flatMap RowS.cells)[j]? = some u → w.cell? ⟨b, off + j, none⟩ = some u
  | .nil, off, _ => ⟨[], rfl, fun r hr => by simp at hr, fun j u hj => by simp at hj⟩
  | .cons k key nm f u r, off, ⟨hk, hb, h0, h1, h2, h3, ⟨a, cap, h4, hul, hu⟩, hr⟩ => by
    obtain ⟨R, e, hok, hc⟩ := rows_of_lie hr
    refine ⟨⟨k, key, nm, f, u, a, cap⟩ :: R, by rw [← e]; rfl, fun x hx => ?_, fun j v hj => ?_⟩
    · rcases List.mem_cons.1 hx with rfl | hx
      · exact ⟨hk, rfl, hul, hu⟩
      · exact hok x hx
    · rw [List.flatMap_cons] at hj
      by_cases hj5 : j < 5
      · rw [List.getElem?_append_left (by simpa [RowS.cells] using hj5)] at hj
        match j, hj with
        | 0, hj => cases hj; rw [Nat.add_zero]; exact h0
        | 1, hj => cases hj; exact h1
        | 2, hj => cases hj; exact h2
        | 3, hj => cases hj; exact h3
        | 4, hj => cases hj; exact h4
        | j + 5, hj => omega
      · rw [List.getElem?_append_right (by simp [RowS.cells]; omega)] at hj
        have := hc _ v hj
        rw [← this]; congr 2; simp [RowS.cells]; omega
theorem SelsAt.rows {w : World} {A B len : Nat} {a : Option Addr} {s : Sels} (h : SelsAt w A B a len s) : ∃ R : List RowS, toSels R = s ∧ R.length = len ∧ (∀ r, r ∈ R → RowS.ok w A B r) ∧ (R = [] ∨ ∃ b off, a = some ⟨b, off, none⟩ ∧ A ≤ b ∧ ∀ j u, (R.flatMap RowS.cells)[j]? = some u → w.cell? ⟨b, off + j, none⟩ = some u) := by
  rcases h.2.2 with rfl | ⟨b, off, ha, hA, hl⟩
  · exact ⟨[], rfl, by rw [← h.1]; rfl, fun r hr => by simp at hr, .inl rfl⟩
  · obtain ⟨R, e, hok, hc⟩ := rows_of_lie hl
    exact ⟨R, e, by rw [← toSels_len, e]; exact h.1, hok, .inr ⟨b, off, ha, hA, hc⟩⟩
theorem OwnSs.sels {w : World} {base A B : Nat} {v : Value} {R : List RowS} (h : OwnSs w base v R) (hok : ∀ r, r ∈ R → RowS.ok w A B r) (hA : A ≤ base) (hB : B ≤ w.heap.size) (hl : R.length ≤ 9223372036854775807) : ∃ a cap, v = .slice a R.length cap ∧ R.length ≤ cap ∧ SelsAt w A w.heap.size a R.length (toSels R) := by
  obtain ⟨hll, ⟨rfl, hn⟩ | ⟨gb, cap, cur, rfl, hb, hg, hc, hm, hs, ht⟩⟩ := h
  · obtain rfl : R = [] := List.eq_nil_of_length_eq_zero hn
    exact ⟨none, 0, rfl, Nat.le_refl _, rfl, by decide, .inl rfl⟩
  · have hlt := Rw.lt_of_get hg
    refine ⟨_, _, rfl, hc, toSels_len R, by rw [toSels_len]; exact hl, .inr ⟨gb, 0, rfl, by omega, lie_of_rows hlt (fun r hr => (hok r hr).wide (Nat.le_refl _) hB) fun j u hj => ?_⟩⟩
    rw [← ht] at hj
    have hj2 := (List.getElem?_eq_some_iff.1 hj).1
    rw [List.length_take] at hj2
    rw [List.getElem?_take_of_lt (by omega)] at hj
    rw [Nat.zero_add]
    refine Rw.cell_of hg (by rw [← hj]; simp)
/-- From v to v': of what was there the block of v alone may have changed. -/
structure MadeS (v v' : Value) (w w' : World) : Prop where
  grown : w.grownBy w' v.ownBlock
  own : ∀ g, v'.ownBlock = some g → v.ownBlock = some g ∨ w.heap.size ≤ g
theorem MadeS.refl (v : Value) (w : World) : MadeS v v w w := ⟨⟨rfl, rfl, rfl, Nat.le_refl _, fun _ _ _ => rfl⟩, fun _ h => .inl h⟩
theorem MadeS.size {v v' : Value} {w w' : World} (h : MadeS v v' w w') : w.heap.size ≤ w'.heap.size := h.grown.size
theorem MadeS.trans {v v1 v2 : Value} {w w1 w2 : World} (h : MadeS v v1 w w1) (g : MadeS v1 v2 w1 w2) : MadeS v v2 w w2 :=
  ⟨⟨g.grown.os.trans h.grown.os, g.grown.tape.trans h.grown.tape, g.grown.output.trans h.grown.output, Nat.le_trans h.grown.size g.grown.size, fun k hk hn => (g.grown.block k (Nat.lt_of_lt_of_le hk h.grown.size) (fun e => by
      rcases h.own k e.symm with e2 | e2
      · exact hn e2.symm
      · omega)).trans (h.grown.block k hk hn)⟩, fun b hb => by
      rcases g.own b hb with e | e
      · exact h.own b e
      · exact .inr (Nat.le_trans h.grown.size e)⟩
theorem MadeS.of_below {v : Value} {w w' : World} (g : Below w.heap.size w w') : MadeS v v w w' := ⟨⟨g.os, g.tape, g.output, g.size, fun k hk _ => g.block k hk⟩, fun _ h => .inl h⟩
theorem MadeS.below {v v' : Value} {w w1 w2 : World} (h : MadeS v v' w w1) (g : Below w1.heap.size w1 w2) : MadeS v v' w w2 := h.trans (MadeS.of_below g)
/-- New blocks ahead of it. -/
theorem MadeS.after {v v' : Value} {w w1 w2 : World} (g : Below w.heap.size w w1) (h : MadeS v v' w1 w2) : MadeS v v' w w2 := (MadeS.of_below g).trans h
theorem MadeS.to {v v' : Value} {w w' : World} {base : Nat} (h : MadeS v v' w w') (hv : ∀ g, v.ownBlock = some g → base ≤ g) (hb : base ≤ w.heap.size) : Below base w w' :=
  ⟨h.grown.os, h.grown.tape, h.grown.output, h.grown.size, fun k hk => h.grown.block k (by omega) (fun e => by have := hv k e.symm; omega)⟩
theorem MadeS.block {v v' : Value} {w w' : World} (h : MadeS v v' w w') {c : Nat} (hc : c < w.heap.size) (hne : ∀ g, v.ownBlock = some g → g ≠ c) : w'.heap[c]? = w.heap[c]? := h.grown.block c hc fun e => hne _ e.symm rfl
theorem OwnSs.base {w : World} {base : Nat} {v : Value} {R : List RowS} (h : OwnSs w base v R) : ∀ g, v.ownBlock = some g → base ≤ g ∧ g < w.heap.size := fun g hg => World.ownsRow.lt h g hg
theorem own_of {v : Value} {w : World} {g n cap : Nat} (hat : v.ownBlock = some g ∨ g = w.heap.size) : ∀ k, (Value.slice (some ⟨g, 0, none⟩) n cap).ownBlock = some k → v.ownBlock = some k ∨ w.heap.size ≤ k := fun k hk => by
  have e : k = g := by simpa [Value.ownBlock] using hk.symm
  subst e
  rcases hat with h | h
  · exact .inl h
  · exact .inr (by omega)
section
variable {w : World} {ops : Array Oper} {o : Oper} {a : Act} {rest : List Oper} {Q : Exit → Act → World → Prop}
theorem app_one (hgd : o.guard = none) (s x : Operand)
    (ho : o.op = .call { callee := .builtin .append, args := #[s, x], argTypes := #[26, 26] })
    (base : Nat) (v : Value) (R : List RowS) (hs : a.eval s = v) (hown : OwnSs w base v R)
    (B c : Nat) (hx : a.eval x = .slice (some ⟨B, 0, none⟩) 1 c) (r : RowS) (hc : w.heap[B]? = some (.cells r.cells.toArray 114 (0, 0)))
    (hsize : R.length + 1 ≤ 200000000000) (hbase : base ≤ w.heap.size)
    (h : ∀ a' cap w', OwnSs w' base (.slice a' (R.length + 1) cap) (R ++ [r]) → MadeS v (.slice a' (R.length + 1) cap) w w' → wpList Tryz.prog ops Q rest (a.put o.dst (.slice a' (R.length + 1) cap)) w') : wpList Tryz.prog ops Q (o :: rest) a w := by
  obtain ⟨i0, hi, hz0, hz1, hz2⟩ := info_parts infoSel5
  refine wpList_append_lies w hgd s x 26 ho base 114 i0 _ 5 72 Tryz.underlying26 hi hz0 hz1 hz2 rfl (by decide) v R.length (R.flatMap RowS.cells) hs hown ⟨B, 0, none⟩ 1 c r.cells hx rfl
    (fun j u hj => World.news_of_block hc j u (by simpa using hj)) (fun u hu => ?_) (by omega) (by unfold maxLen; omega) (by omega) hbase _ rfl ?_
  · simp [RowS.cells] at hu
    rcases hu with rfl | rfl | rfl | rfl | rfl <;> rfl
  · intro g cap w' hown' hgrow hat _
    refine h _ cap w' ?_ ⟨hgrow, own_of hat⟩
    unfold OwnSs
    rw [List.length_append, List.flatMap_append]; simpa using hown'
theorem app_rows (hgd : o.guard = none) (s x : Operand)
    (ho : o.op = .call { callee := .builtin .append, args := #[s, x], argTypes := #[26, 26] })
    (base : Nat) (v : Value) (R : List RowS) (hs : a.eval s = v) (hown : OwnSs w base v R)
    (A B : Nat) (a1 : Option Addr) (len c : Nat) (u : Sels) (hx : a.eval x = .slice a1 len c) (hu : SelsAt w A B a1 len u)
    (hsize : R.length + len ≤ 200000000000) (hbase : base ≤ w.heap.size)
    (h : ∀ a' cap w' R2, toSels R2 = u → R2.length = len → (∀ r, r ∈ R2 → RowS.ok w A B r) → OwnSs w' base (.slice a' (R.length + len) cap) (R ++ R2) → MadeS v (.slice a' (R.length + len) cap) w w' → wpList Tryz.prog ops Q rest (a.put o.dst (.slice a' (R.length + len) cap)) w') : wpList Tryz.prog ops Q (o :: rest) a w := by
  obtain ⟨i0, hi, hz0, hz1, hz2⟩ := info_parts infoSel5
  obtain ⟨R2, e1, e2, hok, hrow⟩ := hu.rows
  have hlen : ∀ l : List RowS, (l.flatMap RowS.cells).length = l.length * 5 := by
    intro l
    induction l with
    | nil => rfl
    | cons y l ih => rw [List.flatMap_cons, List.length_append, ih, List.length_cons]; simp [RowS.cells]; omega
  have hone : ∀ v ∈ R2.flatMap RowS.cells, v.oneCell' = true := fun v hv => by
    obtain ⟨y, _, hy⟩ := List.mem_flatMap.1 hv
    simp [RowS.cells] at hy
    rcases hy with rfl | rfl | rfl | rfl | rfl <;> rfl
  by_cases hz : len = 0
  · subst hz
    obtain rfl : R2 = [] := List.eq_nil_of_length_eq_zero e2
    obtain ⟨av, cav, rfl⟩ := hown.slice
    refine wpList_plain hgd fun K hK => ?_
    have hrun := run_app_empty (w := w) base 26 o.type 114 i0 5 Tryz.underlying26 hi _ R.length a1 c _ hown
    unfold Oper.wp
    simp only [Nat.add_zero] at h
    simp [execOp, ho, resolve, invoke, builtin, hs, hx, hrun, Result.andThen]
    exact hK _ _ (h av cav w [] e1 rfl (fun r hr => by simp at hr) (by simpa using hown) (MadeS.refl _ _))
  · rcases hrow with rfl | ⟨b, off, rfl, hA, hc⟩
    · exact absurd e2.symm (by simpa using hz)
    · refine wpList_append_lies w hgd s x 26 ho base 114 i0 (.agg #[.int .i64 0, .string ⟨#[]⟩, .string ⟨#[]⟩, .int .i64 0, .slice none 0 0]) 5 72 Tryz.underlying26 hi hz0 hz1 hz2 rfl (by omega) v R.length (R.flatMap RowS.cells) hs hown ⟨b, off, none⟩ len c (R2.flatMap RowS.cells) hx (by rw [hlen, e2]) (fun j u hj => by rw [add_plain']; exact hc j u hj) hone (by omega) (by unfold maxLen; omega) (by omega) hbase _ rfl fun g cap w' hown' hgrow hat _ => ?_
      refine h _ cap w' R2 e1 e2 hok ?_ ⟨hgrow, own_of hat⟩
      unfold OwnSs; rw [List.length_append, List.flatMap_append, e2]; exact hown'
where
  add_plain' {b off i : Nat} : (⟨b, off, none⟩ : Addr).add i = ⟨b, off + i, none⟩ := by unfold Addr.add; split <;> simp_all
  run_app_empty {w : World} (base : Nat) (t ty e : TypeId) (i : TypeInfo) (size : Nat) (ht : Tryz.prog.underlying t = some (.slice e)) (hi : Tryz.prog.info? e = some i)
    (v : Value) (n : Nat) (a1 : Option Addr) (c : Nat) (xs : List Value) (hown : w.ownsRow base e size v n xs) :
    (Builtin.append_ #[t, t] ty #[v, .slice a1 0 c]).run Tryz.prog w = .ok v w := by
    have hl : ∀ ad : Addr, (loadCells ad 0).run Tryz.prog w = .ok #[] w := fun ad => run_loadCells_list (P := Tryz.prog) w ad [] (fun j v hj => by simp at hj)
    rcases hown.2 with ⟨rfl, rfl⟩ | ⟨g, cap, cur, rfl, _, _, hnc, _⟩
    · cases a1 <;> simp [Builtin.append_, run_underlying ht, sizeOf, typeInfo, hi, Builtin.lenOf, Builtin.firstCells, hl, Result.andThen]
    · cases a1 <;> simp [Builtin.append_, run_underlying ht, sizeOf, typeInfo, hi, Builtin.lenOf, Builtin.firstCells, hnc, storeCells, hl, Result.andThen]
end
end Go.Proofs.YtceabbbmgfeofaaGreatDoor.Selss
namespace Go.Proofs.YtceabbbmgfeofaaGreatDoor.Selss
open Go.RowKit Words
set_option linter.unusedVariables false
set_option maxRecDepth 100000
def fdOf (r : RowS) : Fd := ⟨r.key, r.nm, r.f, r.u⟩
theorem opens_step {fr : List FragP} (hn : NoLoop fr) {i : Nat} {s : Sels} {k : Int} {key nm : ByteArray} {f : Int} {u r : Sels} (h : s.drop i = .cons k key nm f u r) :
    opens fr (s.drop i) = (if k = 1 then [⟨key, nm, f, u⟩] else if k = 2 then opens fr u else if k = 3 then opens fr (fragOr nm fr).sels else []) ++ opens fr (s.drop (i + 1)) := by
  rw [Sels.drop_succ i s h, h]; exact opens_cons hn k key nm f u r
theorem full_step {fr : List FragP} (hn : NoLoop fr) {i : Nat} {s : Sels} {k : Int} {key nm : ByteArray} {f : Int} {u r : Sels} (h : s.drop i = .cons k key nm f u r) :
    full fr (s.drop i) = 1 + full fr u + (if k = 3 then full fr (fragOr nm fr).sels else 0) + full fr (s.drop (i + 1)) := by
  rw [Sels.drop_succ i s h, h]; exact full_cons hn k key nm f u r
theorem full_drop {fr : List FragP} (hn : NoLoop fr) : ∀ (i : Nat) (s : Sels), full fr (s.drop i) ≤ full fr s
  | 0, s => Nat.le_refl _
  | i + 1, .nil => Nat.le_refl _
  | i + 1, .cons k key nm f u r => by
    have := full_drop hn i r
    rw [full_cons hn]; simp only [Sels.drop]; omega
theorem fragOr_some {nm : ByteArray} {l : List FragP} {i : Nat} {x : FragP} (h : findN nm l 0 = (i : Int)) (hx : l[i]? = some x) : fragOr nm l = x := by
  unfold fragOr; rw [findN_some (k := 0) (i := i) (by rw [h]; simp) hx]; rfl
theorem fragOr_no {nm : ByteArray} {l : List FragP} (h : findN nm l 0 = -1) : (fragOr nm l).sels = .nil := by unfold fragOr; rw [findN_none h]; rfl
theorem opens_len {fr : List FragP} (hn : NoLoop fr) (s : Sels) : (opens fr s).length ≤ full fr s := Nat.le_trans (sumF_len fr _) (sumF_opens hn _ s (Low.top fr s))
theorem len_of_map {R cur : List RowS} {X : List Fd} (h : R.map fdOf = cur.map fdOf ++ X) : R.length = cur.length + X.length := by
  have := congrArg List.length h
  simpa using this
/-- What l05Open tells. -/
def OpenOut (fr : List FragP) (A B base : Nat) (vo : Value) (R : List RowS) (s : Sels) (w : World) (e : Ending) (w' : World) : Prop :=
  ∃ v' R', e = .returned v' ∧ OwnSs w' base v' R' ∧ R'.map fdOf = R.map fdOf ++ opens fr s ∧ (∀ r, r ∈ R' → r.k = 1 ∧ RowS.ok w' A B r) ∧ MadeS vo v' w w'
set_option maxHeartbeats 4000000 in
theorem specOpen {d : DocP} (hn : NoLoop d.frags) : ∀ (N : Nat) (s : Sels), full d.frags s < N → ∀ (w : World) (A B : Nat) (v : Value) (a : Option Addr) (cap base : Nat) (vo : Value) (R : List RowS), DocAt w A B v d → SelsAt w A B a s.len s → B ≤ base → base ≤ w.heap.size → OwnSs w base vo R → (∀ r, r ∈ R → r.k = 1 ∧ RowS.ok w A B r) → R.length + full d.frags s ≤ 100000000000 →
    Calls Tryz.prog 109 #[v, .slice a s.len cap, vo] w fun e w' => OpenOut d.frags A B base vo R s w e w' := by
  intro N
  induction N with
  | zero => intro s h; omega
  | succ N ih =>
    intro s hfull w A B v a cap base vo R hd hs hB hbase hown hok hlen
    have hsl := hs.2.1
    have IH := Lib.hid ih
    have HDC := Lib.hid hd
    have HS := Lib.hid hs
    have HOK := Lib.hid hok
    have HFU := Lib.hid hfull
    have HLN := Lib.hid hlen
    have HOWN := Lib.hid hown
    have HVB := Lib.hid hown.base
    obtain ⟨da, dca, db, dcb, rfl, _, hdf, _⟩ := hd
    have HF := Lib.hid hdf
    have hfl := hdf.2.1
    obtain ⟨av, cv, rfl⟩ := hown.slice
    obtain ⟨w0, hw0⟩ : ∃ w0, w.alloc (.cells #[.slice da d.sels.len dca, .slice db d.frags.length dcb] 29) = w0 := ⟨_, rfl⟩
    have HB0 : Hid (Below w.heap.size w w0) := Lib.hid (by rw [← hw0]; exact (Below.refl _ _).alloc (Nat.le_refl _) _)
    have hz0 : w0.heap.size = w.heap.size + 1 := by rw [← hw0]; simp
    have HZ0 := Lib.hid hz0
    have HK0 : Hid (w0.heap[w.heap.size]? = some (.cells #[.slice da d.sels.len dca, .slice db d.frags.length dcb] 29 (0, 0))) := Lib.hid (by rw [← hw0]; exact heap_alloc_new w _)
    have HO0 := Lib.hid (hown.below HB0.out)
    clear ih hs hown hok hlen hdf hfull hz0
    go_enter Tryz.func109, Tryz.ntmps109
    go_wp2_with fail
    clear hw0
    go_loopw [2, 7] (fun v i wr => ∃ (i' : Nat) (cur : List RowS) (av' : Option Addr) (cv' : Nat), i' ≤ s.len ∧ Hid (R.map fdOf ++ opens d.frags s = cur.map fdOf ++ opens d.frags (s.drop i')) ∧ v = .slice av' cur.length cv' ∧ i = .int .i64 i' ∧ Hid (OwnSs wr base (.slice av' cur.length cv') cur) ∧ Hid (∀ r, r ∈ cur → r.k = 1 ∧ RowS.ok wr A B r) ∧ Hid (cur.length + full d.frags (s.drop i') ≤ 100000000000) ∧ MadeS (.slice av R.length cv) (.slice av' cur.length cv') w0 wr) (fun _ i _ => s.len - (intOf i).toNat)
    case atStart => exact ⟨0, R, av, cv, by omega, Lib.hid (by rw [Sels.drop_zero]), rfl, rfl, HO0, Lib.hid (fun r hr => ⟨(HOK.out r hr).1, (HOK.out r hr).2.below (Nat.le_trans hB hbase) HB0.out⟩), Lib.hid (by rw [Sels.drop_zero]; exact HLN.out), MadeS.refl _ _⟩
    case round =>
      obtain ⟨i, cur, av', cv', hi, hm, rfl, rfl, HO, HOKC, HN, hmade⟩ := hrel
      have HMD := Lib.hid hmade
      have HOV : Hid (∀ g, (Value.slice av R.length cv).ownBlock = some g → base ≤ g) := Lib.hid fun g hg => (HVB.out g hg).1
      have HBW : Hid (Below base w0 wr) := Lib.hid (hmade.to HOV.out (by have := HZ0.out; omega))
      have HBA : Hid (Below base w wr) := Lib.hid ((HB0.out.mono hbase).trans HBW.out)
      have hzr : w.heap.size < wr.heap.size := by have h1 := hmade.size; have h2 := HZ0.out; omega
      have HBOX : Hid (wr.heap[w.heap.size]? = some (.cells #[.slice da d.sels.len dca, .slice db d.frags.length dcb] 29 (0, 0))) := Lib.hid ((hmade.block (by have := HZ0.out; omega) (fun g hg => by have := (HVB.out g hg).2; omega)).trans HK0.out)
      have ⟨⟨k0, k1⟩, _⟩ := keep2 HBOX.out
      have HOWNB : Hid (∀ g, (Value.slice av' cur.length cv').ownBlock = some g → base ≤ g ∧ g < wr.heap.size ∧ g ≠ w.heap.size) := Lib.hid fun g hg => ⟨(HO.out.base g hg).1, (HO.out.base g hg).2, fun e => by
        rcases HMD.out.own g hg with h | h
        · have := (HVB.out g h).2; omega
        · have := HZ0.out; omega⟩
      by_cases hlt : i < s.len
      · have hli : (i : Int) < (s.len : Int) := by omega
        obtain ⟨k, key, nm, f, u, r, b, off, a', cap', hd, rfl, hbb, hok, ⟨hc0, hc1, hc2, hc3, hc4⟩, hu⟩ := (HS.out.below hB HBA.out).at hlt
        have HU := Lib.hid hu
        have HOKI := Lib.hid hok
        have HST := Lib.hid (opens_step hn hd)
        have HFT := Lib.hid (full_step hn hd)
        have HFD := Lib.hid (full_drop hn i s)
        have hbB : b < base := by omega
        clear hlt hd hok hu
        by_cases hk1 : k = 1
        · subst hk1
          have hrel : Hid (R.map fdOf ++ opens d.frags s = (cur ++ [(⟨1, key, nm, f, u, a', cap'⟩ : RowS)]).map fdOf ++ opens d.frags (s.drop (i + 1))) := Lib.hid (by
            rw [hm.out, HST.out, if_pos rfl, List.map_append, List.append_assoc]; rfl)
          have HN2 : Hid ((cur ++ [(⟨1, key, nm, f, u, a', cap'⟩ : RowS)]).length + full d.frags (s.drop (i + 1)) ≤ 100000000000) := Lib.hid (by
            have e1 := HN.out; have e2 := HFT.out; rw [List.length_append]; simp only [List.length_cons, List.length_nil]; split at e2 <;> omega)
          have HO1 : Hid (OwnSs (wr.alloc (.cells #[.int .i64 1, .string key, .string nm, .int .i64 f, .slice a' u.len cap'] 114)) base (.slice av' cur.length cv') cur) := Lib.hid (HO.out.below ((Below.refl _ _).alloc (Nat.le_refl _) _))
          have HHN := Lib.hid (heap_alloc_new wr (.cells #[.int .i64 1, .string key, .string nm, .int .i64 f, .slice a' u.len cap'] 114))
          have HMA : Hid (MadeS (.slice av R.length cv) (.slice av' cur.length cv') w0 (wr.alloc (.cells #[.int .i64 1, .string key, .string nm, .int .i64 f, .slice a' u.len cap'] 114))) := Lib.hid (HMD.out.below ((Below.refl _ _).alloc (Nat.le_refl _) _))
          have hzb : base ≤ wr.heap.size := by omega
          clear hmade
          go_wp2_with (at_builtin; refine app_one rfl _ _ rfl base (.slice av' cur.length cv') cur rfl HO1.out wr.heap.size 1 rfl ⟨1, key, nm, f, u, a', cap'⟩ HHN.out (by have := HN2.out; rw [List.length_append] at this; simp only [List.length_cons, List.length_nil] at this; omega) (by simp; omega) ?_; intro a3 cap3 w3 hown3 hmd3)
          have HMF := Lib.hid (HMA.out.trans hmd3)
          have HO3 := Lib.hid hown3
          have HB3 : Hid (Below base wr w3) := Lib.hid (((Below.refl _ _).alloc hzb _).trans (hmd3.to (fun g hg => (HO1.out.base g hg).1) (by simp; omega)))
          have HOK3 : Hid (∀ x, x ∈ cur ++ [(⟨1, key, nm, f, u, a', cap'⟩ : RowS)] → x.k = 1 ∧ RowS.ok w3 A B x) := Lib.hid fun x hx => by
            rcases List.mem_append.1 hx with h | h
            · exact ⟨(HOKC.out x h).1, (HOKC.out x h).2.below hB HB3.out⟩
            · simp at h; subst h
              exact ⟨rfl, HOKI.out, HU.out.below hB HB3.out⟩
          clear hown3 hmd3
          go_roundw
          case rel => exact ⟨i + 1, cur ++ [⟨1, key, nm, f, u, a', cap'⟩], a3, cap3, by omega, hrel, by simp, by go_num, Lib.hid (by rw [List.length_append]; exact HO3.out), HOK3, HN2, by rw [List.length_append]; exact HMF.out⟩
          case measure => simp [intOf]; omega
        · have HK1 : Hid ((k == 1) = false) := Lib.hid (by rw [beq_eq_false_iff_ne]; exact hk1)
          have HDD : Hid (DocAt wr.drew A B (.agg #[.slice da d.sels.len dca, .slice db d.frags.length dcb]) d) := Lib.hid (HDC.out.below hB HBA.out.drew)
          have e0 : wr.drew.cell? ⟨w.heap.size, 0, none⟩ = _ := k0
          have e1 : wr.drew.cell? ⟨w.heap.size, 1, none⟩ = _ := k1
          have e2 : wr.drew.cell? ⟨b, off + i * 5 + 2, none⟩ = _ := hc2
          have e4 : wr.drew.cell? ⟨b, off + i * 5 + 4, none⟩ = _ := hc4
          have hzb : base ≤ wr.drew.heap.size := by show base ≤ wr.heap.size; omega
          have HZB := Lib.hid hzb
          have HMDR : Hid (MadeS (.slice av' cur.length cv') (.slice av' cur.length cv') wr wr.drew) := Lib.hid (MadeS.of_below (Below.refl _ _).drew)
          by_cases hk2 : k = 2
          · subst hk2
            have HX : Hid (opens d.frags (s.drop i) = opens d.frags u ++ opens d.frags (s.drop (i + 1))) := Lib.hid (by rw [HST.out, if_neg (by omega), if_pos rfl])
            have CU : Hid (Calls Tryz.prog 109 #[.agg #[.slice da d.sels.len dca, .slice db d.frags.length dcb], .slice a' u.len cap', .slice av' cur.length cv'] wr.drew fun e w' => OpenOut d.frags A B base (.slice av' cur.length cv') cur u wr.drew e w') := Lib.hid
              (IH.out u (by have e1 := HFT.out; have e2 := HFD.out; have e3 := HFU.out; omega) wr.drew A B _ a' cap' base _ cur HDD.out HU.out.drew hB hzb HO.out (fun x hx => ⟨(HOKC.out x hx).1, (HOKC.out x hx).2.1, (HOKC.out x hx).2.2.drew⟩) (by have e1 := HN.out; have e2 := HFT.out; omega))
            clear hmade hzb hk1 k0 k1
            go_wp2_with fail
            go_region_with (go_at_call 109; refine CU.out.mono ?_; rintro e w3 ⟨v3, R3, rfl, ho3, hm3, hok3, hmd3⟩; obtain ⟨a3, c3, rfl⟩ := ho3.slice)
            all_goals
              have HO3 := Lib.hid ho3
              have HMF := Lib.hid (HMD.out.trans (HMDR.out.trans hmd3))
              have HOK3 := Lib.hid hok3
              have hrel : Hid (R.map fdOf ++ opens d.frags s = R3.map fdOf ++ opens d.frags (s.drop (i + 1))) := Lib.hid (by
                rw [hm.out, HX.out, hm3, List.append_assoc])
              have HN2 : Hid (R3.length + full d.frags (s.drop (i + 1)) ≤ 100000000000) := Lib.hid (by
                have e1 := HN.out; have e2 := HFT.out; have e3 := len_of_map hm3; have e4 := opens_len hn u; omega)
              clear ho3 hm3 hok3 hmd3 e0 e1 e2 e4
              go_wp2_with fail
              go_roundw
              case rel => exact ⟨i + 1, R3, a3, c3, by omega, hrel, rfl, by go_num, HO3, HOK3, HN2, HMF.out⟩
              case measure => simp [intOf]; omega
          · have HK2 : Hid ((k == 2) = false) := Lib.hid (by rw [beq_eq_false_iff_ne]; exact hk2)
            by_cases hk3 : k = 3
            · subst hk3
              have HX : Hid (opens d.frags (s.drop i) = opens d.frags (fragOr nm d.frags).sels ++ opens d.frags (s.drop (i + 1))) := Lib.hid (by rw [HST.out, if_neg (by omega), if_neg (by omega), if_pos rfl])
              have HFX : Hid (full d.frags (s.drop i) = 1 + full d.frags u + full d.frags (fragOr nm d.frags).sels + full d.frags (s.drop (i + 1))) := Lib.hid (by rw [HFT.out, if_pos rfl])
              obtain ⟨fn, hfn⟩ : ∃ fn, findN nm d.frags 0 = fn := ⟨_, rfl⟩
              have HFN := Lib.hid hfn
              have CF : Hid (Calls Tryz.prog 97 #[.agg #[.slice da d.sels.len dca, .slice db d.frags.length dcb], .string nm] wr.drew fun e w'' => e = .returned (.int .i64 fn) ∧ Below wr.drew.heap.size wr.drew w'') := Lib.hid (by
                rw [← hfn]; exact specFrag wr.drew A B _ d nm HOKI.out.2.2.1 HDD.out (Nat.le_trans hB hzb))
              clear hmade hk1 hk2 hfn k0 k1
              go_wp2_with fail
              go_region_with (go_at_call 97; refine CF.out.mono ?_; rintro e w3 ⟨rfl, hb3⟩)
              all_goals
                have hHr : w.heap.size < wr.drew.heap.size := hzr
                have q0 := Rw.kcell hb3 hHr e0
                have q1 := Rw.kcell hb3 hHr e1
                have HM3 : Hid (MadeS (.slice av' cur.length cv') (.slice av' cur.length cv') wr w3) := Lib.hid (HMDR.out.below hb3)
                have HB3 : Hid (Below base wr w3) := Lib.hid ((Below.refl base wr).drew.trans (hb3.mono HZB.out))
                have HO3 : Hid (OwnSs w3 base (.slice av' cur.length cv') cur) := Lib.hid (OwnSs.below (w := wr.drew) HO.out hb3)
                have hz3 : base ≤ w3.heap.size := Nat.le_trans HZB.out hb3.size
                clear hb3 e0 e1 e2 e4
                rcases (findN_lt (nm := nm) (l := d.frags) (k := 0)).2 with hneg | hpos
                · obtain rfl : fn = -1 := by rw [← HFN.out]; exact hneg
                  have hrel : Hid (R.map fdOf ++ opens d.frags s = cur.map fdOf ++ opens d.frags (s.drop (i + 1))) := Lib.hid (by
                    rw [hm.out, HX.out, fragOr_no hneg, opens_nil, List.nil_append])
                  have HN2 : Hid (cur.length + full d.frags (s.drop (i + 1)) ≤ 100000000000) := Lib.hid (by have e1 := HN.out; have e2 := HFX.out; omega)
                  have HMF := Lib.hid (HMD.out.trans HM3.out)
                  have HOK3 : Hid (∀ x, x ∈ cur → x.k = 1 ∧ RowS.ok w3 A B x) := Lib.hid fun x hx => ⟨(HOKC.out x hx).1, (HOKC.out x hx).2.below hB HB3.out⟩
                  clear hneg hzb
                  go_wp2_with fail
                  go_roundw
                  case rel => exact ⟨i + 1, cur, _, _, by omega, hrel, rfl, by go_num, HO3, HOK3, HN2, HMF.out⟩
                  case measure => simp [intOf]; omega
                · obtain ⟨j, rfl⟩ : ∃ j : Nat, fn = (j : Int) := ⟨fn.toNat, by rw [HFN.out] at hpos; omega⟩
                  have hj : j < d.frags.length := by have := (findN_lt (nm := nm) (l := d.frags) (k := 0)).1; rw [HFN.out] at this; omega
                  have hjl : (j : Int) < (d.frags.length : Int) := by omega
                  have hj0 : 0 ≤ (j : Int) := by omega
                  obtain ⟨y, yb, yo, ya, ycap, hyd, hye, hybb, hyok, ⟨hy0, hy1, hy2⟩, hyu⟩ := (HF.out.below hB (HBA.out.trans HB3.out)).at hj
                  subst hye
                  have HFO := Lib.hid (fragOr_some HFN.out hyd)
                  have r0 : w3.drew.cell? ⟨w.heap.size, 0, none⟩ = _ := q0
                  have r1 : w3.drew.cell? ⟨w.heap.size, 1, none⟩ = _ := q1
                  have r2 : w3.drew.cell? ⟨yb, yo + j * 3 + 2, none⟩ = _ := hy2
                  have HM4 : Hid (MadeS (.slice av' cur.length cv') (.slice av' cur.length cv') wr w3.drew) := Lib.hid (HM3.out.below (Below.refl _ _).drew)
                  have HDE : Hid (DocAt w3.drew A B (.agg #[.slice da d.sels.len dca, .slice (some ⟨yb, yo, none⟩) d.frags.length dcb]) d) := Lib.hid (HDC.out.below hB (HBA.out.trans HB3.out).drew)
                  have CY : Hid (Calls Tryz.prog 109 #[.agg #[.slice da d.sels.len dca, .slice (some ⟨yb, yo, none⟩) d.frags.length dcb], .slice ya y.sels.len ycap, .slice av' cur.length cv'] w3.drew fun e w' => OpenOut d.frags A B base (.slice av' cur.length cv') cur y.sels w3.drew e w') := Lib.hid
                    (IH.out y.sels (by have e1 := HFX.out; have e2 := HFD.out; have e3 := HFU.out; rw [HFO.out] at e1; omega) w3.drew A B _ ya ycap base _ cur HDE.out hyu.drew hB hz3 HO3.out (fun x hx => ⟨(HOKC.out x hx).1, (HOKC.out x hx).2.1, ((HOKC.out x hx).2.2.below hB HB3.out).drew⟩) (by have e1 := HN.out; have e2 := HFX.out; rw [HFO.out] at e2; omega))
                  clear hpos hj hyd hyok hy0 hy1 hyu hzb hy2 q0 q1
                  go_wp2_with fail
                  go_region_with (go_at_call 109; refine CY.out.mono ?_; rintro e w5 ⟨v5, R5, rfl, ho5, hm5, hok5, hmd5⟩; obtain ⟨a5, c5, rfl⟩ := ho5.slice)
                  all_goals
                    have HO5 := Lib.hid ho5
                    have HMF := Lib.hid (HMD.out.trans (HM4.out.trans hmd5))
                    have HOK5 := Lib.hid hok5
                    have hrel : Hid (R.map fdOf ++ opens d.frags s = R5.map fdOf ++ opens d.frags (s.drop (i + 1))) := Lib.hid (by
                      rw [hm.out, HX.out, HFO.out, hm5, List.append_assoc])
                    have HN2 : Hid (R5.length + full d.frags (s.drop (i + 1)) ≤ 100000000000) := Lib.hid (by
                      have e1 := HN.out; have e2 := HFX.out; rw [HFO.out] at e2; have e3 := len_of_map hm5; have e4 := opens_len hn y.sels; omega)
                    clear ho5 hm5 hok5 hmd5 r0 r1 r2
                    go_wp2_with fail
                    go_roundw
                    case rel => exact ⟨i + 1, R5, a5, c5, by omega, hrel, rfl, by go_num, HO5, HOK5, HN2, HMF.out⟩
                    case measure => simp [intOf]; omega
            · have hk1b := HK1.out
              have hk2b := HK2.out
              have hk3b : (k == 3) = false := by rw [beq_eq_false_iff_ne]; exact hk3
              have hrel : Hid (R.map fdOf ++ opens d.frags s = cur.map fdOf ++ opens d.frags (s.drop (i + 1))) := Lib.hid (by
                rw [hm.out, HST.out, if_neg hk1, if_neg hk2, if_neg hk3, List.nil_append])
              have HN2 : Hid (cur.length + full d.frags (s.drop (i + 1)) ≤ 100000000000) := Lib.hid (by have e1 := HN.out; have e2 := HFT.out; omega)
              clear hmade hk1 hk2 hk3 hzb e0 e1 e2 e4
              go_wp2_with fail
              go_roundw
              case rel => exact ⟨i + 1, cur, _, _, by omega, hrel, rfl, by go_num, HO, HOKC, HN2, HMD.out⟩
              case measure => simp [intOf]; omega
      · obtain rfl : i = s.len := by omega
        have hf := Lib.hid (show R.map fdOf ++ opens d.frags s = cur.map fdOf by rw [hm.out, Sels.drop_end (Nat.le_refl _), opens_nil, List.append_nil])
        clear hlt hmade
        go_wp2_with fail
        go_ret
        exact ⟨_, cur, rfl, HO.out, hf.out.symm, HOKC.out, MadeS.after HB0.out HMD.out⟩
end Go.Proofs.YtceabbbmgfeofaaGreatDoor.Selss
