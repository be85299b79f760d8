/-
  The state of a schema that is being drawn, and what writing into it leaves; weights of the three schemas; no walk. Conditions: as each theorem says.
-/
import Derived.Test.YtcogbmcnljlnaaaRows
import Derived.Test.YtcogbmcnljlnaaaDrawSch
import Derived.Test.YtcogbmcnljlnaaaSetRow
namespace Go.Proofs.Ytcogbmcnljlnaaa.Draws
open Go.RowKit Texts Bytes Rw Words
set_option linter.unusedVariables false
set_option maxRecDepth 100000

/-- A schema that is being drawn: its types, the cells that hold it, the source. -/
structure StS (w W : World) (p len cap : Nat) (a : Option Addr) (g E : Nat) (sa : Option Addr) (ca : Nat) (s : List TypeP) : Prop where
  ty : TypesX W (w.heap.size + 1) E sa 5 s
  cap5 : 5 ≤ ca
  res : W.heap[w.heap.size]? = some (.cells #[.slice none 0 0] 25 (0, 0))
  box : W.heap[g]? = some (.cells #[.slice sa 5 ca] 25 (0, 0))
  src : Src W p a len cap
  only : Only p w W
  plt : p < w.heap.size
  end_ : E ≤ W.heap.size
  far : w.heap.size < g
theorem StS.drew {w W : World} {p len cap g E ca : Nat} {a sa : Option Addr} {s : List TypeP} (h : StS w W p len cap a g E sa ca s) : StS w W.drew p len cap a g E sa ca s :=
  ⟨RowsX.block (w := W) (w' := W.drew) typeLiesX h.ty (fun _ _ _ => rfl), h.cap5, h.res, h.box, ⟨h.src.ex, h.src.row, h.src.small, h.src.lt⟩, h.only.drew, h.plt, h.end_, h.far⟩
/-- What leaves all blocks but the source's as they were. -/
theorem StS.keep {w W W' : World} {p len cap g E ca : Nat} {a sa : Option Addr} {s : List TypeP} (h : StS w W p len cap a g E sa ca s) (ho : Only p W W') (hs : Src W' p a len cap) : StS w W' p len cap a g E sa ca s := by
  have hp := h.plt
  have hw := h.only.size
  have e := h.end_
  exact ⟨h.ty.block typeLiesX fun c c1 c2 => ho.block c (by omega) (by omega), h.cap5, (ho.block _ (lt_of_get h.res) (by omega)).trans h.res, (ho.block _ (lt_of_get h.box) (by have := h.far; omega)).trans h.box, hs, h.only.trans ho, hp, Nat.le_trans e ho.size, h.far⟩
/-- New blocks. -/
theorem StS.alloc {w W : World} {p len cap g E ca : Nat} {a sa : Option Addr} {s : List TypeP} (h : StS w W p len cap a g E sa ca s) (o : Obj) : StS w (W.alloc o) p len cap a g E sa ca s := by
  have hb : Below W.heap.size W (W.alloc o) := (Below.refl _ _).alloc (Nat.le_refl _) o
  have hp := h.plt
  have hw := h.only.size
  exact h.keep ((Only.refl p W).of_below (Nat.le_refl _) hb) (h.src.below (by omega) hb)
/-- The schema that is told in the end. -/
theorem StS.fin {w W : World} {p len cap g E ca : Nat} {a sa : Option Addr} {s : List TypeP} (h : StS w W p len cap a g E sa ca s) :
    (W.setCell ⟨w.heap.size, 0, none⟩ (.slice sa 5 ca)).heap[w.heap.size]? = some (.cells #[.slice sa 5 ca] 25 (0, 0)) ∧
    SchemaX (W.setCell ⟨w.heap.size, 0, none⟩ (.slice sa 5 ca)) w.heap.size (W.setCell ⟨w.heap.size, 0, none⟩ (.slice sa 5 ca)).heap.size (.agg #[.slice sa 5 ca]) s ∧
    Src (W.setCell ⟨w.heap.size, 0, none⟩ (.slice sa 5 ca)) p a len cap ∧ Only p w (W.setCell ⟨w.heap.size, 0, none⟩ (.slice sa 5 ca)) := by
  have hBW : Below w.heap.size W (W.setCell ⟨w.heap.size, 0, none⟩ (.slice sa 5 ca)) := (Below.refl w.heap.size W).setCell (Nat.le_refl _) _
  have hl := h.ty.1
  have e := h.end_
  refine ⟨heap_setCell_same W w.heap.size 0 _ _ _ h.res, ⟨sa, ca, by rw [hl], ?_, by rw [hl]; exact h.cap5⟩, h.src.below h.plt hBW, h.only.of_below (Nat.le_refl _) hBW⟩
  rw [hl]
  exact (h.ty.block typeLiesX fun c c1 _ => Go.Deep.blk_setCell_other _ ⟨w.heap.size, 0, none⟩ _ _ (by show c ≠ w.heap.size; omega)).wide (by omega) (by simp; exact e)
theorem StS.at {w W : World} {p len cap g E ca : Nat} {a sa : Option Addr} {s : List TypeP} (h : StS w W p len cap a g E sa ca s) {i : Nat} (hi : i < 5) : ∃ x, s[i]? = some x ∧ x ∈ s := by
  have hl := h.ty.1
  exact ⟨s[i]'(by omega), List.getElem?_eq_getElem (by omega), List.getElem_mem _⟩
theorem StS.place {w W : World} {p len cap g E ca : Nat} {a sa : Option Addr} {s : List TypeP} (h : StS w W p len cap a g E sa ca s) (hg : E ≤ g) : ∃ b off, sa = some ⟨b, off, none⟩ ∧ b ≠ g ∧ g ≠ b ∧ b ≠ w.heap.size ∧ w.heap.size ≠ b := by
  obtain ⟨h1, _, _, h2⟩ := h.ty
  rcases h2 with rfl | ⟨b, off, rfl, hA, hB, _⟩
  · simp at h1
  · exact ⟨b, off, rfl, by omega, by omega, by omega, by omega⟩
/-- A scalar of a type is written. -/
theorem StS.scalar {w W : World} {p len cap g E ca b off i k : Nat} {a : Option Addr} {s : List TypeP} {x y : TypeP} (h : StS w W p len cap a g E (some ⟨b, off, none⟩) ca s) (hg : E ≤ g) (hi : s[i]? = some x) (hk : k < 3) (hf : y.fields = x.fields) (hm : y.members = x.members) (hy : y.ok)
    {v : Value} (hv : ∀ a ca c cc, y.cells a ca c cc = (x.cells a ca c cc).set k v) :
    (∃ u, W.cell? ⟨b, off + i * 5 + k, none⟩ = some u) ∧ W.frozen? ⟨b, off + i * 5 + k, none⟩ = false ∧ StS w (W.setCell ⟨b, off + i * 5 + k, none⟩ v) p len cap a g E (some ⟨b, off, none⟩) ca (s.set i y) := by
  obtain ⟨b', off', ha, hA, hB, hfr, hu, hset⟩ := h.ty.setScalar hi hk hf hm hy hv
  cases ha
  have hoth : ∀ c, c ≠ b → (W.setCell ⟨b, off + i * 5 + k, none⟩ v).heap[c]? = W.heap[c]? := fun c hc => Go.Deep.blk_setCell_other _ ⟨b, off + i * 5 + k, none⟩ _ _ hc
  have hp := h.plt
  have hBl : Below (w.heap.size + 1) W (W.setCell ⟨b, off + i * 5 + k, none⟩ v) := (Below.refl _ W).setCell hA v
  exact ⟨hu, hfr.frozen _, hset, h.cap5, (hoth _ (by omega)).trans h.res, (hoth _ (by omega)).trans h.box, h.src.below (by omega) hBl, h.only.of_below (by omega) hBl, hp, by simp; exact h.end_, h.far⟩
/-- A scalar of a field of a type is written. -/
theorem StS.field {w W : World} {p len cap g E ca b off i q k : Nat} {a : Option Addr} {s : List TypeP} {x : TypeP} {f y : FieldP} (h : StS w W p len cap a g E (some ⟨b, off, none⟩) ca s) (hg : E ≤ g) (hi : s[i]? = some x) (hq : x.fields[q]? = some f) (hk : k < 6) (hy : y.ok)
    {v : Value} (hv : y.cells = f.cells.set k v) :
    ∃ fb fo fc, W.cell? ⟨b, off + i * 5 + 3, none⟩ = some (.slice (some ⟨fb, fo, none⟩) x.fields.length fc) ∧ x.fields.length ≤ fc ∧ fb ≠ g ∧ g ≠ fb ∧ (∃ u, W.cell? ⟨fb, fo + q * 6 + k, none⟩ = some u) ∧ W.frozen? ⟨fb, fo + q * 6 + k, none⟩ = false ∧
      StS w (W.setCell ⟨fb, fo + q * 6 + k, none⟩ v) p len cap a g E (some ⟨b, off, none⟩) ca (s.set i { x with fields := x.fields.set q y }) := by
  obtain ⟨b', off', fb, fo, fc, ha, hc, hl, hA, hB, hfr, hu, hset⟩ := h.ty.setField hi hq hk hy hv
  cases ha
  have hoth : ∀ c, c ≠ fb → (W.setCell ⟨fb, fo + q * 6 + k, none⟩ v).heap[c]? = W.heap[c]? := fun c hc => Go.Deep.blk_setCell_other _ ⟨fb, fo + q * 6 + k, none⟩ _ _ hc
  have hp := h.plt
  have hBl : Below (w.heap.size + 1) W (W.setCell ⟨fb, fo + q * 6 + k, none⟩ v) := (Below.refl _ W).setCell hA v
  exact ⟨fb, fo, fc, hc, hl, by omega, by omega, hu, hfr.frozen _, hset, h.cap5, (hoth _ (by omega)).trans h.res, (hoth _ (by omega)).trans h.box, h.src.below (by omega) hBl, h.only.of_below (by omega) hBl, hp, by simp; exact h.end_, h.far⟩

theorem StS.apart {w W : World} {p len cap g E ca b off : Nat} {a : Option Addr} {s : List TypeP} (h : StS w W p len cap a g E (some ⟨b, off, none⟩) ca s) : b ≠ p := by
  obtain ⟨h1, _, _, h2⟩ := h.ty
  have hp := h.plt
  rcases h2 with rfl | ⟨b', off', e, hA, hB, _⟩
  · simp at h1
  · cases e; omega
/-- A scalar of a field is written, later. -/
theorem StS.field2 {w W : World} {p len cap g E ca b off i q k : Nat} {a : Option Addr} {s : List TypeP} {x : TypeP} {f : FieldP} (h : StS w W p len cap a g E (some ⟨b, off, none⟩) ca s) (hg : E ≤ g) (hi : s[i]? = some x) (hq : x.fields[q]? = some f) (hk : k < 6) (hfo : f.ok) :
    ∃ fb fo fc, W.cell? ⟨b, off + i * 5 + 3, none⟩ = some (.slice (some ⟨fb, fo, none⟩) x.fields.length fc) ∧ x.fields.length ≤ fc ∧ fb ≠ g ∧ g ≠ fb ∧
      ∀ (W' : World) (y : FieldP) (v : Value), StS w W' p len cap a g E (some ⟨b, off, none⟩) ca s → Only p W W' → y.ok → y.cells = f.cells.set k v →
        W'.cell? ⟨b, off + i * 5 + 3, none⟩ = some (.slice (some ⟨fb, fo, none⟩) x.fields.length fc) ∧ (∃ u, W'.cell? ⟨fb, fo + q * 6 + k, none⟩ = some u) ∧ W'.frozen? ⟨fb, fo + q * 6 + k, none⟩ = false ∧
        StS w (W'.setCell ⟨fb, fo + q * 6 + k, none⟩ v) p len cap a g E (some ⟨b, off, none⟩) ca (s.set i { x with fields := x.fields.set q y }) := by
  obtain ⟨fb, fo, fc, hc, hl, h1, h2, _⟩ := h.field hg hi hq hk hfo (v := f.cells.getD k .nilIface) (by
    match k, hk with
    | 0, _ => rfl
    | 1, _ => rfl
    | 2, _ => rfl
    | 3, _ => rfl
    | 4, _ => rfl
    | 5, _ => rfl)
  refine ⟨fb, fo, fc, hc, hl, h1, h2, fun W' y v h' ho hy hv => ?_⟩
  have hc' := (World.cell?_of_block (w := W) (a := ⟨b, off + i * 5 + 3, none⟩) (ho.block b (lt_of_cell hc) h.apart)).trans hc
  obtain ⟨fb', fo', fc', hcx, _, _, _, hu, hfz, hst⟩ := h'.field hg hi hq hk hy hv
  rw [hc'] at hcx
  cases hcx
  exact ⟨hc', hu, hfz, hst⟩
theorem MembersO.keep {W W' : World} {B p : Nat} {v : Value} {s : List TypeP} (h : MembersO W B v s) (ho : Only p W W') (hp : p < B) : MembersO W' B v s := fun i x hi => by
  obtain ⟨gb, cap', c, cc, base, e1, e2, e3, e4, e5⟩ := h i x hi
  exact ⟨gb, cap', c, cc, base, e1, e2, e3, (World.cell?_of_block (w := W) (ho.block gb (lt_of_cell e4) (by omega))).trans e4, OwnTs.frame e5 fun q q1 q2 => ho.block q q2 (by omega)⟩

/-! ### weights -/
theorem sumOf_set {α : Type} (f : α → Nat) (y : α) : ∀ (l : List α) (i : Nat), sumOf f (l.set i y) ≤ sumOf f l + f y
  | [], i => by simp [sumOf]
  | x :: l, 0 => by simp only [List.set_cons_zero, sumOf]; omega
  | x :: l, i + 1 => by have := sumOf_set f y l i; simp only [List.set_cons_succ, sumOf]; omega
theorem three_wt {s : List TypeP} (h : IsThree s) : s.length = 5 ∧ schWt s ≤ 400 := by
  rcases h with rfl | rfl | rfl <;> exact ⟨rfl, by decide⟩
theorem wt_set {s : List TypeP} {i : Nat} {y : TypeP} (h : schWt s ≤ 400) (hy : y.wt ≤ 5000) : schWt (s.set i y) ≤ 10000 := by
  unfold schWt at *
  have := sumOf_set TypeP.wt y s i
  rw [List.length_set]; omega
theorem wt_mem {s : List TypeP} {x : TypeP} {i : Nat} (h : schWt s ≤ 400) (hx : s[i]? = some x) : x.wt ≤ 400 := by
  have := sumOf_mem (f := TypeP.wt) hx
  unfold schWt at h; omega
theorem three_ok {s : List TypeP} (h : IsThree s) : ∀ x ∈ s, x.ok ∧ ∀ f ∈ x.fields, f.ok := by
  have key : ∀ s : List TypeP, (s.all fun x => (decide (x.name.size ≤ 9223372036854775807) && (decide (-9223372036854775808 ≤ x.kind) && decide (x.kind ≤ 9223372036854775807))) && ((decide (-9223372036854775808 ≤ x.bytes) && decide (x.bytes ≤ 9223372036854775807)) && x.fields.all fun f => (decide (f.name.size ≤ 9223372036854775807) && decide (f.typ.size ≤ 9223372036854775807)) && ((decide (-9223372036854775808 ≤ f.size) && decide (f.size ≤ 9223372036854775807)) && (decide (-9223372036854775808 ≤ f.cap) && decide (f.cap ≤ 9223372036854775807))))) = true → ∀ x ∈ s, x.ok ∧ ∀ f ∈ x.fields, f.ok := fun s hs x hx => by
    simp only [List.all_eq_true, Bool.and_eq_true, decide_eq_true_eq] at hs
    have := hs x hx
    refine ⟨⟨this.1.1, this.1.2, this.2.1⟩, fun f hf => ?_⟩
    have := this.2.2 f hf
    exact ⟨this.1.1, this.1.2, this.2.1, this.2.2⟩
  rcases h with rfl | rfl | rfl <;> exact key _ (by decide)
theorem three_fields {s : List TypeP} (h : IsThree s) : ∃ x f0 f1, s[0]? = some x ∧ x.fields[0]? = some f0 ∧ x.fields[1]? = some f1 := by
  rcases h with rfl | rfl | rfl <;> exact ⟨_, _, _, rfl, rfl, rfl⟩
theorem wt_field {x : TypeP} {f g : FieldP} {q : Nat} (h : x.wt ≤ 400) (_hq : x.fields[q]? = some f) (hg : g.wt ≤ f.wt + 100) : ({ x with fields := x.fields.set q g } : TypeP).wt ≤ 5000 := by
  have h1 := sumOf_set FieldP.wt g x.fields q
  have h2 := sumOf_mem (f := FieldP.wt) _hq
  unfold TypeP.wt at *
  simp only [List.length_set]
  omega
theorem small3 {r : ByteArray} (h : r ∈ ([⟨#[81]⟩, ⟨#[113]⟩, ⟨#[78, 69, 87]⟩] : List ByteArray)) : r.size ≤ 4 := by
  simp only [List.mem_cons, List.not_mem_nil, or_false] at h
  rcases h with rfl | rfl | rfl <;> decide
theorem small4 {r : ByteArray} (h : r ∈ ([⟨#[78, 79]⟩, ⟨#[83, 84, 82]⟩, ⟨#[65, 78, 89]⟩] : List ByteArray)) : r.size ≤ 4 := by
  simp only [List.mem_cons, List.not_mem_nil, or_false] at h
  rcases h with rfl | rfl | rfl <;> decide
theorem four_at {W : World} {g m : Nat} (h : W.heap[g]? = some (.cells #[.int .i64 (-1), .int .i64 0, .int .i64 100, .int .i64 101] 2 (0, 0))) (hm : m < 4) : ∃ v : Int, Hid (-1 ≤ v ∧ v ≤ 101) ∧ W.cell? ⟨g, m, none⟩ = some (.int .i64 v) := by
  match m, hm with
  | 0, _ => exact ⟨-1, Lib.hid (by omega), cell_of h rfl⟩
  | 1, _ => exact ⟨0, Lib.hid (by omega), cell_of h rfl⟩
  | 2, _ => exact ⟨100, Lib.hid (by omega), cell_of h rfl⟩
  | 3, _ => exact ⟨101, Lib.hid (by omega), cell_of h rfl⟩
end Go.Proofs.Ytcogbmcnljlnaaa.Draws
