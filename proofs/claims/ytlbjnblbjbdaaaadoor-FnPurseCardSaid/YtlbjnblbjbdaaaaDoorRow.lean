/-
  Rows of things in memory, n cells each: as they came in (RowsAt), or each list in blocks of its own (RowsX); what of that lasts when memory changes; no program. Conditions: as each theorem says.
-/
import Derived.Test.YtlbjnblbjbdaaaaDoorRows
import Derived.WalkKit
import Derived.Below
import Derived.Outline
import Derived.Lib.Hide
import Derived.RegionTactic
import Derived.BigRegion
import Derived.Laws.BytesArg
import Derived.Laws.OwnMore
import Derived.Laws.MakeOwn
import Derived.Deep.OwnRows
import Derived.Deep.RegionWith
namespace Go.Proofs.YtlbjnblbjbdaaaaDoor.Rw
open Go.RowKit
set_option linter.unusedVariables false
set_option maxRecDepth 100000

def OkI (n : Int) : Prop := -9223372036854775808 ≤ n ∧ n ≤ 9223372036854775807
def OkS (b : ByteArray) : Prop := b.size ≤ 9223372036854775807
/-- What is left of a number behind a weight; -1: it is too much. -/
def leftOf (left : Int) (n : Nat) : Int := if (n : Int) ≤ left then left - n else -1
theorem leftOf_no {left : Int} {n : Nat} (h : left < n) : (-1 : Int) = leftOf left n := (if_neg (by omega)).symm
theorem leftOf_yes {left m : Int} {n : Nat} (h : 0 ≤ m) (e : m = left - n) : m = leftOf left n := by unfold leftOf; rw [if_pos (by omega)]; exact e
theorem ret_i {k : IntKind} {a b : Int} (h : a = b) : Ending.returned (.int k a) = .returned (.int k b) := by rw [h]
theorem row_cell {W : World} {g k : Nat} {C : Array Value} {T : TypeId} (h : W.heap[g]? = some (.cells C T (0, 0))) (hk : k < C.size) : W.cell? ⟨g, k, none⟩ = some C[k] := by
  simp [World.cell?, h, hk]
theorem cell_of {w : World} {g i : Nat} {Y : Array Value} {T : TypeId} {v : Value} (h : w.heap[g]? = some (.cells Y T (0, 0))) (hi : Y[i]? = some v) : w.cell? ⟨g, i, none⟩ = some v := by
  simp [World.cell?, h, hi]
theorem lt_of_get {w : World} {b : Nat} {o : Obj} (h : w.heap[b]? = some o) : b < w.heap.size := (Array.getElem?_eq_some_iff.1 h).1
theorem lt_of_cell {w : World} {b off : Nat} {v : Value} (h : w.cell? ⟨b, off, none⟩ = some v) : b < w.heap.size := by
  rcases Nat.lt_or_ge b w.heap.size with k | k
  · exact k
  · unfold World.cell? at h; rw [Array.getElem?_eq_none k] at h; simp at h
theorem add_plain (b off i : Nat) : (⟨b, off, none⟩ : Addr).add i = ⟨b, off + i, none⟩ := by unfold Addr.add; split <;> simp_all
theorem kcell {wr w' : World} {g j : Nat} {v : Value} (h : Below wr.heap.size wr w') (hg : g < wr.heap.size) (k : wr.cell? ⟨g, j, none⟩ = some v) : w'.cell? ⟨g, j, none⟩ = some v := (h.cell (p := ⟨g, j, none⟩) hg).trans k

/-- Three new blocks, kept behind a call. -/
theorem kept3 {w w1 : World} {o1 o2 o3 : Obj} (hb : Below (((w.alloc o1).alloc o2).alloc o3).heap.size (((w.alloc o1).alloc o2).alloc o3) w1) :
    w1.heap[w.heap.size]? = some o1 ∧ w1.heap[w.heap.size + 1]? = some o2 ∧ w1.heap[w.heap.size + 1 + 1]? = some o3 := by
  have e1 : (w.alloc o1).heap.size = w.heap.size + 1 := by simp
  have e2 : ((w.alloc o1).alloc o2).heap.size = w.heap.size + 1 + 1 := by simp
  refine ⟨?_, ?_, ?_⟩
  · rw [hb.block _ (by simp; omega), Go.Deep.blk_alloc_lt _ _ _ (by simp; omega), Go.Deep.blk_alloc_lt _ _ _ (by simp)]; exact Go.Deep.blk_alloc_new _ _
  · rw [hb.block _ (by simp), Go.Deep.blk_alloc_lt _ _ _ (by rw [e2]; omega), ← e1]; exact Go.Deep.blk_alloc_new _ _
  · rw [hb.block _ (by simp), ← e2]; exact Go.Deep.blk_alloc_new _ _
/-- A row of cells. -/
def RowN (w : World) (b o : Nat) (l : List Value) : Prop := ∀ j v, l[j]? = some v → w.cell? ⟨b, o + j, none⟩ = some v
theorem RowN.block {w w' : World} {b o : Nat} {l : List Value} (h : RowN w b o l) (e : w'.heap[b]? = w.heap[b]?) : RowN w' b o l := fun j v hj => (World.cell?_of_block (w := w) e).trans (h j v hj)
theorem RowN.same {w w' : World} {b o : Nat} {l : List Value} (h : RowN w b o l) (e : ∀ j, o ≤ j → j < o + l.length → w'.cell? ⟨b, j, none⟩ = w.cell? ⟨b, j, none⟩) : RowN w' b o l := fun j v hj => (e _ (by omega) (by have := (List.getElem?_eq_some_iff.1 hj).1; omega)).trans (h j v hj)
theorem RowN.put {w : World} {b o j : Nat} {l : List Value} (h : RowN w b o l) (hj : j < l.length) (v : Value) : RowN (w.setCell ⟨b, o + j, none⟩ v) b o (l.set j v) := fun i u hi => by
  by_cases e : i = j
  · subst e
    rw [List.getElem?_set_self hj] at hi
    cases hi
    exact World.cell?_setCell_same' _ _ _ (by rw [h i _ (List.getElem?_eq_getElem hj)]; rfl)
  · rw [List.getElem?_set_ne (fun g => e g.symm)] at hi
    rw [World.cell?_setCell_other _ _ _ _ (by simp <;> omega)]
    exact h i u hi
theorem RowN.of_block {w : World} {b : Nat} {l : List Value} {T : TypeId} (h : w.heap[b]? = some (.cells l.toArray T (0, 0))) : RowN w b 0 l := fun j v hj => by
  rw [Nat.zero_add]; exact cell_of h (by simpa using hj)

/-- A block of cells that may be written. -/
def Free (w : World) (b : Nat) : Prop := ∃ C T, w.heap[b]? = some (.cells C T (0, 0))
theorem Free.of {w w' : World} {b : Nat} (h : Free w b) (e : w'.heap[b]? = w.heap[b]?) : Free w' b := by
  obtain ⟨C, T, hc⟩ := h; exact ⟨C, T, e.trans hc⟩
theorem Free.frozen {w : World} {b : Nat} (h : Free w b) (i : Nat) : w.frozen? ⟨b, i, none⟩ = false := by
  obtain ⟨C, T, hc⟩ := h; exact frozen_of_row w b i _ _ hc
theorem Free.set {w : World} {b : Nat} (h : Free w b) (g i : Nat) (v : Value) : Free (w.setCell ⟨g, i, none⟩ v) b := by
  obtain ⟨C, T, hc⟩ := h
  by_cases e : b = g
  · subst e; exact ⟨_, T, heap_setCell_same w b i _ _ v hc⟩
  · exact ⟨C, T, (Go.Deep.blk_setCell_other _ ⟨g, i, none⟩ _ _ e).trans hc⟩
theorem Free.lt {w : World} {b : Nat} (h : Free w b) : b < w.heap.size := by
  obtain ⟨C, T, hc⟩ := h; exact lt_of_get hc

/-- Stores into a row, one behind the other. -/
def putL (w : World) (g : Nat) : Nat → List Value → World
  | _, [] => w
  | o, v :: l => putL (w.setCell ⟨g, o, none⟩ v) g (o + 1) l
theorem putL_size : ∀ (l : List Value) (w : World) (g o : Nat), (putL w g o l).heap.size = w.heap.size
  | [], _, _, _ => rfl
  | v :: l, w, g, o => (putL_size l _ g (o + 1)).trans (by simp)
theorem putL_other : ∀ (l : List Value) (w : World) (g o : Nat) (c : Nat), c ≠ g → (putL w g o l).heap[c]? = w.heap[c]?
  | [], _, _, _, _, _ => rfl
  | v :: l, w, g, o, c, h => (putL_other l _ g (o + 1) c h).trans (Go.Deep.blk_setCell_other _ ⟨g, o, none⟩ _ _ h)
theorem putL_below {B g : Nat} {a : World} (hg : B ≤ g) : ∀ (l : List Value) {w : World} (o : Nat), Below B a w → Below B a (putL w g o l)
  | [], _, _, h => h
  | v :: l, w, o, h => putL_below hg l (o + 1) (h.setCell (p := ⟨g, o, none⟩) hg v)
theorem putL_row {g : Nat} {T : TypeId} : ∀ (l : List Value) {w : World} {o : Nat} {Y : Array Value}, w.heap[g]? = some (.cells Y T (0, 0)) → o + l.length ≤ Y.size →
    ∃ Z : Array Value, Z.size = Y.size ∧ (putL w g o l).heap[g]? = some (.cells Z T (0, 0)) ∧ (∀ j v, l[j]? = some v → Z[o + j]? = some v) ∧ ∀ j, (j < o ∨ o + l.length ≤ j) → Z[j]? = Y[j]?
  | [], w, o, Y, h, _ => ⟨Y, rfl, h, fun j v hj => by simp at hj, fun _ _ => rfl⟩
  | v :: l, w, o, Y, h, hs => by
    simp only [List.length_cons] at hs ⊢
    obtain ⟨Z, h1, h2, h3, h4⟩ := putL_row l (o := o + 1) (heap_setCell_same w g o _ _ v h) (by rw [Array.size_setIfInBounds]; omega)
    refine ⟨Z, by rw [h1, Array.size_setIfInBounds], h2, fun j u hj => ?_, fun j hj => ?_⟩
    · cases j with
      | zero =>
        simp at hj; subst hj
        rw [Nat.add_zero, h4 o (by omega)]
        simp only [Array.getElem?_setIfInBounds]
        rw [if_pos trivial, if_pos (by omega)]
      | succ j =>
        have := h3 j u (by simpa using hj)
        rwa [show o + (j + 1) = o + 1 + j by omega]
    · rw [h4 j (by omega), Array.getElem?_setIfInBounds_ne (by omega)]
theorem putL_cells {g : Nat} {T : TypeId} {l : List Value} {w : World} {o : Nat} {Y : Array Value} (h : w.heap[g]? = some (.cells Y T (0, 0))) (hs : o + l.length ≤ Y.size) :
    RowN (putL w g o l) g o l ∧ (∀ j, j < o → (putL w g o l).cell? ⟨g, j, none⟩ = w.cell? ⟨g, j, none⟩) ∧ ∃ Z : Array Value, Z.size = Y.size ∧ (putL w g o l).heap[g]? = some (.cells Z T (0, 0)) := by
  obtain ⟨Z, h1, h2, h3, h4⟩ := putL_row l h hs
  refine ⟨fun j v hj => cell_of h2 (h3 j v hj), fun j hj => ?_, Z, h1, h2⟩
  have hy : Y[j]? = some (Y[j]'(by omega)) := Array.getElem?_eq_getElem (by omega)
  rw [cell_of h hy, cell_of h2 ((h4 j (.inl hj)).trans hy)]

/-- Of what was there the blocks from A to B alone may have changed. -/
structure Within (A B : Nat) (w w' : World) : Prop where
  os : w'.os = w.os
  tape : w'.tape = w.tape
  output : w'.output = w.output
  size : w.heap.size ≤ w'.heap.size
  block : ∀ c, c < w.heap.size → (c < A ∨ B ≤ c) → w'.heap[c]? = w.heap[c]?
theorem Within.refl (A B : Nat) (w : World) : Within A B w w := ⟨rfl, rfl, rfl, Nat.le_refl _, fun _ _ _ => rfl⟩
theorem Within.trans {A B : Nat} {a b c : World} (h : Within A B a b) (g : Within A B b c) : Within A B a c :=
  ⟨g.os.trans h.os, g.tape.trans h.tape, g.output.trans h.output, Nat.le_trans h.size g.size, fun k hk hp => (g.block k (Nat.lt_of_lt_of_le hk h.size) hp).trans (h.block k hk hp)⟩
theorem Within.wide {A B A' B' : Nat} {a b : World} (h : Within A B a b) (hA : A' ≤ A) (hB : B ≤ B') : Within A' B' a b :=
  ⟨h.os, h.tape, h.output, h.size, fun k hk hp => h.block k hk (by omega)⟩
theorem Within.of_below {A B : Nat} {w w' : World} (g : Below w.heap.size w w') : Within A B w w' := ⟨g.os, g.tape, g.output, g.size, fun k hk _ => g.block k hk⟩
theorem Within.set {A B : Nat} {a w : World} (h : Within A B a w) {p : Addr} (h1 : A ≤ p.block) (h2 : p.block < B) (v : Value) : Within A B a (w.setCell p v) :=
  ⟨h.os, h.tape, h.output, by simpa using h.size, fun k hk hp => (Go.Deep.blk_setCell_other _ _ _ _ (by omega)).trans (h.block k hk hp)⟩
theorem Within.below {A B C : Nat} {w w' : World} (h : Within A B w w') (hC : C ≤ A) (hs : C ≤ w.heap.size) : Below C w w' := ⟨h.os, h.tape, h.output, h.size, fun k hk => h.block k (by omega) (by omega)⟩

/-- What a round of writes leaves as it was: other blocks, other cells of the row's block. -/
structure Round (n b o lo hi : Nat) (w w' : World) : Prop where
  os : w'.os = w.os
  tape : w'.tape = w.tape
  output : w'.output = w.output
  size : w.heap.size ≤ w'.heap.size
  other : ∀ c, c < w.heap.size → c ≠ b → (c < lo ∨ hi ≤ c) → w'.heap[c]? = w.heap[c]?
  cells : ∀ j, (j < o ∨ o + n ≤ j) → w'.cell? ⟨b, j, none⟩ = w.cell? ⟨b, j, none⟩
  free : Free w b → Free w' b
theorem Round.refl (n b o lo hi : Nat) (w : World) : Round n b o lo hi w w := ⟨rfl, rfl, rfl, Nat.le_refl _, fun _ _ _ _ => rfl, fun _ _ => rfl, id⟩
theorem Round.set {n b o lo hi : Nat} {a w : World} (h : Round n b o lo hi a w) {j : Nat} (h1 : o ≤ j) (h2 : j < o + n) (v : Value) : Round n b o lo hi a (w.setCell ⟨b, j, none⟩ v) :=
  ⟨h.os, h.tape, h.output, by simpa using h.size, fun c hc hb hl => (Go.Deep.blk_setCell_other _ ⟨b, j, none⟩ _ _ hb).trans (h.other c hc hb hl), fun i hi => (World.cell?_setCell_other _ _ _ _ (by simp <;> omega)).trans (h.cells i hi), fun hf => (h.free hf).set _ _ _⟩
theorem Round.below {n b o lo hi : Nat} {a w w' : World} (h : Round n b o lo hi a w) (hf : Free a b) (g : Below w.heap.size w w') : Round n b o lo hi a w' := by
  have hlt := (h.free hf).lt
  exact ⟨g.os.trans h.os, g.tape.trans h.tape, g.output.trans h.output, Nat.le_trans h.size g.size, fun c hc hb hl => (g.block c (Nat.lt_of_lt_of_le hc h.size)).trans (h.other c hc hb hl), fun i hi => (g.cell (p := ⟨b, i, none⟩) hlt).trans (h.cells i hi), fun _ => (h.free hf).of (g.block b hlt)⟩
theorem Round.within {n b o lo hi : Nat} {a w w' : World} (h : Round n b o lo hi a w) (hf : Free a b) (hb : b < lo ∨ hi ≤ b) (g : Within lo hi w w') : Round n b o lo hi a w' := by
  have hlt := (h.free hf).lt
  have hbb := g.block b hlt (by omega)
  exact ⟨g.os.trans h.os, g.tape.trans h.tape, g.output.trans h.output, Nat.le_trans h.size g.size, fun c hc hcb hl => (g.block c (Nat.lt_of_lt_of_le hc h.size) (by omega)).trans (h.other c hc hcb hl), fun i hi => (World.cell?_of_block (w := w) hbb).trans (h.cells i hi), fun _ => (h.free hf).of hbb⟩
theorem Round.wide {n b o lo hi lo' hi' : Nat} {w w' : World} (h : Round n b o lo hi w w') (h1 : lo' ≤ lo) (h2 : hi ≤ hi') : Round n b o lo' hi' w w' :=
  ⟨h.os, h.tape, h.output, h.size, fun c hc hcb hl => h.other c hc hcb (by omega), h.cells, h.free⟩
theorem Round.weak {n b o lo hi : Nat} {w w' : World} (h : Round n b o 0 0 w w') : Round n b o lo hi w w' :=
  ⟨h.os, h.tape, h.output, h.size, fun c hc hcb _ => h.other c hc hcb (by omega), h.cells, h.free⟩
theorem Round.toWithin {n b o lo hi A B : Nat} {w w' : World} (h : Round n b o lo hi w w') (h1 : A ≤ b) (h2 : b < B) (h3 : A ≤ lo) (h4 : hi ≤ B) (h5 : lo ≤ hi) : Within A B w w' :=
  ⟨h.os, h.tape, h.output, h.size, fun c hc hp => h.other c hc (by omega) (by omega)⟩

section
variable {α : Type}
/-- What 'x lies at cell o of block b, what is within from A on, below B' has to keep. -/
structure Lies (n : Nat) (L : World → Nat → Nat → Nat → Nat → α → Prop) : Prop where
  frame : ∀ {w w' : World} {A B b o : Nat} {x : α}, L w A B b o x → (∀ c, A ≤ c → c < B → w'.heap[c]? = w.heap[c]?) → (∀ j, o ≤ j → j < o + n → w'.cell? ⟨b, j, none⟩ = w.cell? ⟨b, j, none⟩) → L w' A B b o x
  wide : ∀ {w : World} {A B A' B' b o : Nat} {x : α}, L w A B b o x → A' ≤ A → B ≤ B' → L w A' B' b o x
/-- A slice that holds the things l, n cells each. -/
def RowsAt (n : Nat) (L : World → Nat → Nat → Nat → Nat → α → Prop) (w : World) (A B : Nat) (a : Option Addr) (len : Nat) (l : List α) : Prop :=
  l.length = len ∧ len ≤ 9223372036854775807 ∧ (l = [] ∨ ∃ b off, a = some ⟨b, off, none⟩ ∧ A ≤ b ∧ b < B ∧ ∀ i x, l[i]? = some x → L w A B b (off + i * n) x)
variable {n : Nat} {L : World → Nat → Nat → Nat → Nat → α → Prop}
theorem RowsAt.block {w w' : World} {A B len : Nat} {a : Option Addr} {l : List α} (P : Lies n L) (h : RowsAt n L w A B a len l) (hw : ∀ c, A ≤ c → c < B → w'.heap[c]? = w.heap[c]?) : RowsAt n L w' A B a len l :=
  ⟨h.1, h.2.1, h.2.2.imp id fun ⟨b, off, ha, hA, hB, hl⟩ => ⟨b, off, ha, hA, hB, fun i x hx => P.frame (hl i x hx) hw fun j _ _ => World.cell?_of_block (w := w) (hw b hA hB)⟩⟩
theorem RowsAt.below {w w' : World} {A B C len : Nat} {a : Option Addr} {l : List α} (P : Lies n L) (h : RowsAt n L w A B a len l) (hB : B ≤ C) (g : Below C w w') : RowsAt n L w' A B a len l := h.block P fun c _ hc => g.block c (by omega)
theorem RowsAt.wide {w : World} {A B A' B' len : Nat} {a : Option Addr} {l : List α} (P : Lies n L) (h : RowsAt n L w A B a len l) (hA : A' ≤ A) (hB : B ≤ B') : RowsAt n L w A' B' a len l :=
  ⟨h.1, h.2.1, h.2.2.imp id fun ⟨b, off, ha, hb, hb', hl⟩ => ⟨b, off, ha, by omega, by omega, fun i x hx => P.wide (hl i x hx) hA hB⟩⟩
theorem RowsAt.drew {w : World} {A B len : Nat} {a : Option Addr} {l : List α} (P : Lies n L) (h : RowsAt n L w A B a len l) : RowsAt n L w.drew A B a len l := RowsAt.block (w := w) (w' := w.drew) P h (fun _ _ _ => rfl)
theorem RowsAt.at {w : World} {A B len : Nat} {a : Option Addr} {l : List α} (h : RowsAt n L w A B a len l) {i : Nat} (hi : i < len) :
    ∃ x b off, l[i]? = some x ∧ a = some ⟨b, off, none⟩ ∧ A ≤ b ∧ b < B ∧ L w A B b (off + i * n) x := by
  have hl : i < l.length := by rw [h.1]; exact hi
  have hx : l[i]? = some l[i] := List.getElem?_eq_getElem hl
  rcases h.2.2 with rfl | ⟨b, off, ha, hA, hB, hl⟩
  · simp at hl
  · exact ⟨_, b, off, hx, ha, hA, hB, hl i _ hx⟩

/-- The things l lie in block b from cell off on; what is within each lies in blocks of its own, one behind the other. -/
def LieRX (n : Nat) (LX : World → Nat → Nat → Nat → Nat → α → Prop) (w : World) : List α → Nat → Nat → Nat → Nat → Prop
  | [], A, B, _, _ => A ≤ B
  | x :: l, A, B, b, off => Free w b ∧ ∃ lo hi : Nat, A ≤ lo ∧ lo ≤ hi ∧ hi ≤ B ∧ (b < lo ∨ hi ≤ b) ∧ LX w lo hi b off x ∧ LieRX n LX w l hi B b (off + n)
def RowsX (n : Nat) (LX : World → Nat → Nat → Nat → Nat → α → Prop) (w : World) (A B : Nat) (a : Option Addr) (len : Nat) (l : List α) : Prop :=
  l.length = len ∧ len ≤ 9223372036854775807 ∧ A ≤ B ∧ (l = [] ∨ ∃ b off, a = some ⟨b, off, none⟩ ∧ A ≤ b ∧ b < B ∧ LieRX n LX w l A B b off)
variable {LX : World → Nat → Nat → Nat → Nat → α → Prop}
theorem LieRX.le {w : World} : ∀ {l : List α} {A B b off : Nat}, LieRX n LX w l A B b off → A ≤ B
  | [], _, _, _, _, h => h
  | x :: l, A, B, b, off, ⟨_, lo, hi, h1, h2, h3, _⟩ => by omega
theorem LieRX.rows {w : World} {A' B' : Nat} (P : Lies n L) (hL : ∀ {w A B b o x}, LX w A B b o x → L w A B b o x) : ∀ {l : List α} {A B b off : Nat}, LieRX n LX w l A B b off → A' ≤ A → B ≤ B' → ∀ i x, l[i]? = some x → L w A' B' b (off + i * n) x
  | [], _, _, _, _, _, _, _, i, x, hx => by simp at hx
  | y :: l, A, B, b, off, ⟨hb, lo, hi, g1, g2, g3, g4, hs, hr⟩, hA, hB, i, x, hx => by
    cases i with
    | zero =>
      simp at hx; subst hx
      rw [Nat.zero_mul, Nat.add_zero]
      exact P.wide (hL hs) (by omega) (by omega)
    | succ i =>
      have := LieRX.rows (A' := A') P hL hr (by omega) hB i x (by simpa using hx)
      have e : off + (i + 1) * n = off + n + i * n := by rw [Nat.succ_mul]; omega
      rw [e]; exact this
theorem RowsX.at_ {w : World} {A B len : Nat} {a : Option Addr} {l : List α} (P : Lies n L) (hL : ∀ {w A B b o x}, LX w A B b o x → L w A B b o x) (h : RowsX n LX w A B a len l) : RowsAt n L w A B a len l := by
  obtain ⟨h1, h2, _, h3⟩ := h
  exact ⟨h1, h2, h3.imp id fun ⟨b, off, e, hA, hB, hl⟩ => ⟨b, off, e, hA, hB, hl.rows P hL (Nat.le_refl _) (Nat.le_refl _)⟩⟩
theorem LieRX.frame {w w' : World} (P : Lies n LX) : ∀ {l : List α} {A B b off : Nat}, (∀ c, A ≤ c → c < B → c ≠ b → w'.heap[c]? = w.heap[c]?) → (Free w b → Free w' b) → (∀ j, off ≤ j → j < off + l.length * n → w'.cell? ⟨b, j, none⟩ = w.cell? ⟨b, j, none⟩) → LieRX n LX w l A B b off → LieRX n LX w' l A B b off
  | [], _, _, _, _, _, _, _, h => h
  | x :: l, A, B, b, off, hw, hf, he, ⟨hb, lo, hi, g1, g2, g3, g4, hs, hr⟩ => by
    simp only [List.length_cons, Nat.succ_mul] at he
    have hle2 := hr.le
    exact ⟨hf hb, lo, hi, g1, g2, g3, g4, P.frame hs (fun d d1 d2 => hw d (by omega) (by omega) (by omega)) (fun j j1 j2 => he j j1 (by omega)), LieRX.frame P (fun c c1 c2 c3 => hw c (by omega) c2 c3) hf (fun j j1 j2 => he j (by omega) (by omega)) hr⟩
theorem LieRX.wide {w : World} : ∀ {l : List α} {A B A' B' b off : Nat}, LieRX n LX w l A B b off → A' ≤ A → B ≤ B' → LieRX n LX w l A' B' b off
  | [], A, B, A', B', _, _, h, hA, hB => by have : A ≤ B := h; show A' ≤ B'; omega
  | x :: l, A, B, A', B', b, off, ⟨hb, lo, hi, g1, g2, g3, g4, hs, hr⟩, hA, hB => ⟨hb, lo, hi, by omega, g2, by omega, g4, hs, LieRX.wide hr (Nat.le_refl _) hB⟩
theorem RowsX.block {w w' : World} {A B len : Nat} {a : Option Addr} {l : List α} (P : Lies n LX) (h : RowsX n LX w A B a len l) (hw : ∀ c, A ≤ c → c < B → w'.heap[c]? = w.heap[c]?) : RowsX n LX w' A B a len l :=
  ⟨h.1, h.2.1, h.2.2.1, h.2.2.2.imp id fun ⟨b, off, e, hA, hB, hl⟩ => ⟨b, off, e, hA, hB, hl.frame P (fun c c1 c2 _ => hw c c1 c2) (fun hx => hx.of (hw b hA hB)) (fun j _ _ => World.cell?_of_block (w := w) (hw b hA hB))⟩⟩
theorem RowsX.below {w w' : World} {A B C len : Nat} {a : Option Addr} {l : List α} (P : Lies n LX) (h : RowsX n LX w A B a len l) (hB : B ≤ C) (g : Below C w w') : RowsX n LX w' A B a len l := h.block P fun c _ hc => g.block c (by omega)
theorem RowsX.wide {w : World} {A B A' B' len : Nat} {a : Option Addr} {l : List α} (h : RowsX n LX w A B a len l) (hA : A' ≤ A) (hB : B ≤ B') : RowsX n LX w A' B' a len l :=
  ⟨h.1, h.2.1, by have := h.2.2.1; omega, h.2.2.2.imp id fun ⟨b, off, e, h1, h2, hl⟩ => ⟨b, off, e, by omega, by omega, hl.wide hA hB⟩⟩
theorem LieRX.split {w : World} : ∀ {l : List α} {A B b off : Nat} (i : Nat), LieRX n LX w l A B b off → ∃ M, LieRX n LX w (l.take i) A M b off ∧ LieRX n LX w (l.drop i) M B b (off + i * n)
  | s, A, B, b, off, 0, h => ⟨A, by rw [List.take_zero]; exact Nat.le_refl _, by rw [Nat.zero_mul, Nat.add_zero]; exact h⟩
  | [], A, B, b, off, i + 1, h => ⟨A, by rw [List.take_nil]; exact Nat.le_refl _, h⟩
  | x :: l, A, B, b, off, i + 1, ⟨hb, lo, hi, g1, g2, g3, g4, hs, hr⟩ => by
    obtain ⟨M, e1, e2⟩ := LieRX.split i hr
    refine ⟨M, ⟨hb, lo, hi, g1, g2, e1.le, g4, hs, e1⟩, ?_⟩
    have e : off + (i + 1) * n = off + n + i * n := by rw [Nat.succ_mul]; omega
    rw [e]; exact e2
theorem LieRX.join {w : World} : ∀ {p t : List α} {A M B b off : Nat}, LieRX n LX w p A M b off → LieRX n LX w t M B b (off + p.length * n) → LieRX n LX w (p ++ t) A B b off
  | [], t, A, M, B, b, off, h1, h2 => by
    rw [List.length_nil, Nat.zero_mul, Nat.add_zero] at h2
    exact h2.wide h1 (Nat.le_refl _)
  | x :: l, t, A, M, B, b, off, ⟨hb, lo, hi, g1, g2, g3, g4, hs, hr⟩, ht => by
    have e : off + (x :: l).length * n = off + n + l.length * n := by rw [List.length_cons, Nat.succ_mul]; omega
    rw [e] at ht
    exact ⟨hb, lo, hi, g1, g2, by have := ht.le; have := hr.le; omega, g4, hs, LieRX.join hr ht⟩
theorem RowsX.nil {w : World} {A B : Nat} {a : Option Addr} (h : A ≤ B) : RowsX n LX w A B a 0 ([] : List α) := ⟨rfl, Nat.zero_le _, h, .inl rfl⟩
/-- One thing more behind those that lie there. -/
theorem LieRX.snoc {w : World} {l : List α} {x : α} {A M hi b off : Nat} (h : LieRX n LX w l A M b off) (hb : Free w b) (h1 : M ≤ hi) (h2 : b < M ∨ hi ≤ b) (hx : LX w M hi b (off + l.length * n) x) : LieRX n LX w (l ++ [x]) A hi b off :=
  h.join ⟨hb, M, hi, Nat.le_refl _, h1, Nat.le_refl _, h2, hx, Nat.le_refl _⟩
/-- Things with nothing within, in one block. -/
theorem LieRX.flat {w : World} {B b : Nat} (hf : Free w b) (hb : b < B) : ∀ {l : List α} {A off : Nat}, A ≤ B → (∀ i x, l[i]? = some x → LX w B B b (off + i * n) x) → LieRX n LX w l A B b off
  | [], _, _, hA, _ => hA
  | x :: l, A, off, hA, h => ⟨hf, B, B, hA, Nat.le_refl _, Nat.le_refl _, .inl hb, by have := h 0 x rfl; rwa [Nat.zero_mul, Nat.add_zero] at this, LieRX.flat hf hb (Nat.le_refl _) fun i y hy => by
      have := h (i + 1) y (by simpa using hy)
      rwa [show off + (i + 1) * n = off + n + i * n by rw [Nat.succ_mul]; omega] at this⟩
/-- One thing more is written into a row that is being made. -/
theorem LieRX.step (P : Lies n LX) {w w1 w2 : World} {A g i : Nat} {l : List α} {x : α} (ht : LieRX n LX w (l.take i) A w.heap.size g 0) (hi : l[i]? = some x) (hgA : g < A) (hb : Below w.heap.size w w1) (hg : g < w.heap.size)
    (hz : w2.heap.size = w1.heap.size) (hoth : ∀ c, c ≠ g → w2.heap[c]? = w1.heap[c]?) (hfree : Free w2 g) (hc : ∀ j, j < i * n → w2.cell? ⟨g, j, none⟩ = w1.cell? ⟨g, j, none⟩)
    (hx : LX w2 w.heap.size w1.heap.size g (i * n) x) : LieRX n LX w2 (l.take (i + 1)) A w2.heap.size g 0 := by
  obtain ⟨hl, rfl⟩ := List.getElem?_eq_some_iff.1 hi
  have hlen : (l.take i).length = i := by rw [List.length_take]; omega
  rw [List.take_add_one, hi, hz]
  have hs := hb.size
  refine LieRX.snoc (M := w.heap.size) (LieRX.frame P (fun c c1 c2 c3 => (hoth c c3).trans (hb.block c c2)) (fun _ => hfree) (fun j _ j2 => ?_) ht) hfree hs (.inl hg) (by rw [hlen, Nat.zero_add]; exact hx)
  rw [hlen, Nat.zero_add] at j2
  rw [hc j j2]; exact hb.cell (p := ⟨g, j, none⟩) hg
/-- A whole row that was made. -/
theorem RowsX.made {w : World} {g : Nat} {l : List α} (hl : l.length ≤ 9223372036854775807) (hg : g < w.heap.size) (h : LieRX n LX w l (g + 1) w.heap.size g 0) : RowsX n LX w g w.heap.size (some ⟨g, 0, none⟩) l.length l :=
  ⟨rfl, hl, Nat.le_of_lt hg, .inr ⟨g, 0, rfl, Nat.le_refl _, hg, h.wide (Nat.le_succ _) (Nat.le_refl _)⟩⟩
/-- What lists weigh. -/
def sumOf (f : α → Nat) : List α → Nat
  | [] => 0
  | x :: l => f x + sumOf f l
theorem sumOf_drop {f : α → Nat} {l : List α} {i : Nat} {x : α} (h : l[i]? = some x) : sumOf f (l.drop i) = f x + sumOf f (l.drop (i + 1)) := by
  obtain ⟨hl, rfl⟩ := List.getElem?_eq_some_iff.1 h
  rw [List.drop_eq_getElem_cons hl]; rfl
theorem sumOf_le (f : α → Nat) : ∀ (i : Nat) (l : List α), sumOf f (l.drop i) ≤ sumOf f l
  | 0, l => Nat.le_refl _
  | i + 1, [] => Nat.le_refl _
  | i + 1, x :: l => by have := sumOf_le f i l; simp only [List.drop_succ_cons, sumOf]; omega
theorem sumOf_mem {f : α → Nat} {x : α} : ∀ {l : List α} {i : Nat}, l[i]? = some x → f x ≤ sumOf f l
  | y :: l, 0, h => by cases h; simp only [sumOf]; omega
  | y :: l, i + 1, h => by have := sumOf_mem (f := f) (l := l) (i := i) (by simpa using h); simp only [sumOf]; omega
end

/-! ### texts -/
def TextLie (w : World) (_A _B b o : Nat) (x : ByteArray) : Prop := OkS x ∧ w.cell? ⟨b, o, none⟩ = some (.string x)
theorem textLies : Lies 1 TextLie := ⟨fun h _ he => ⟨h.1, (he _ (Nat.le_refl _) (by omega)).trans h.2⟩, fun h _ _ => h⟩
abbrev TextsAt (w : World) (A B : Nat) (a : Option Addr) (len : Nat) (l : List ByteArray) : Prop := RowsAt 1 TextLie w A B a len l
abbrev TextsX (w : World) (A B : Nat) (a : Option Addr) (len : Nat) (l : List ByteArray) : Prop := RowsX 1 TextLie w A B a len l
end Go.Proofs.YtlbjnblbjbdaaaaDoor.Rw
