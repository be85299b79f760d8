/-
  Laws on selections in memory, blocks of a few cells; no program. Conditions: as each theorem says.
-/
import Derived.Test.YthdncjdopejkkaaDoorRows
import Derived.Test.YthdncjdopejkkaaDoorSels
import Derived.Outline
import Derived.Lib.Hide
import Derived.RegionTactic
import Derived.BigRegion
import Derived.Laws.BytesArg
import Derived.Laws.OwnMore
import Derived.Laws.MakeOwn
import Derived.Deep.OwnRows
import Derived.Deep.RegionWith
namespace Go.Proofs.YthdncjdopejkkaaDoor.Selss
open Go.RowKit
set_option linter.unusedVariables false
set_option maxRecDepth 100000


/-- What selections weigh, beside how many stand at the top. -/
def Sels.wt : Sels → Nat
  | nil => 0
  | cons _ key nm _ u r => key.size + nm.size + u.len + u.wt + r.wt
/-- What is left of a number behind a weight; -1: it is too much. -/
def leftOf (left : Int) (n : Nat) : Int := if (n : Int) ≤ left then left - n else -1
theorem leftOf_no {left : Int} {n : Nat} (h : left < n) : (-1 : Int) = leftOf left n := (if_neg (by omega)).symm
theorem leftOf_yes {left m : Int} {n : Nat} (h : 0 ≤ m) (e : m = left - n) : m = leftOf left n := by unfold leftOf; rw [if_pos (by omega)]; exact e
theorem ret_i {k : IntKind} {a b : Int} (h : a = b) : Ending.returned (.int k a) = .returned (.int k b) := by rw [h]
theorem Sels.wt_drop {i : Nat} {s : Sels} {k : Int} {key nm : ByteArray} {f : Int} {u r : Sels} (h : s.drop i = .cons k key nm f u r) : (s.drop i).wt = key.size + nm.size + u.len + u.wt + (s.drop (i + 1)).wt := by
  rw [Sels.drop_succ i s h, h]; rfl
theorem Sels.all_drop {i : Nat} {s : Sels} {k : Int} {key nm : ByteArray} {f : Int} {u r : Sels} (h : s.drop i = .cons k key nm f u r) : u.all < s.all := by
  have := Sels.drop_all i s; rw [h] at this; simp only [Sels.all] at this; omega

theorem row_cell {W : World} {g k : Nat} {C : Array Value} {T : TypeId} (h : W.heap[g]? = some (.cells C T (0, 0))) (hk : k < C.size) : W.cell? ⟨g, k, none⟩ = some C[k] := by
  simp [World.cell?, h, hk]
/-- A block of five cells. -/
theorem keep5 {w1 : World} {g : Nat} {v0 v1 v2 v3 v4 : Value} {T : TypeId} (h1 : w1.heap[g]? = some (.cells #[v0, v1, v2, v3, v4] T (0, 0))) :
    (w1.cell? ⟨g, 0, none⟩ = some v0 ∧ w1.cell? ⟨g, 1, none⟩ = some v1 ∧ w1.cell? ⟨g, 2, none⟩ = some v2 ∧ w1.cell? ⟨g, 3, none⟩ = some v3 ∧ w1.cell? ⟨g, 4, none⟩ = some v4) ∧
    (w1.frozen? ⟨g, 0, none⟩ = false ∧ w1.frozen? ⟨g, 1, none⟩ = false ∧ w1.frozen? ⟨g, 2, none⟩ = false ∧ w1.frozen? ⟨g, 3, none⟩ = false ∧ w1.frozen? ⟨g, 4, none⟩ = false) := by
  simp [World.cell?, World.frozen?, h1]
/-- The last two of three new blocks, kept behind a call. -/
theorem kept {w w1 : World} {o1 o2 o3 : Obj} (hb : Below (((w.alloc o1).alloc o2).alloc o3).heap.size (((w.alloc o1).alloc o2).alloc o3) w1) :
    w1.heap[w.heap.size + 1]? = some o2 ∧ w1.heap[w.heap.size + 1 + 1]? = some o3 := by
  have e1 : (w.alloc o1).heap.size = w.heap.size + 1 := by simp
  have e2 : ((w.alloc o1).alloc o2).heap.size = w.heap.size + 1 + 1 := by simp
  constructor
  · rw [hb.block _ (by simp), Go.Deep.blk_alloc_lt _ _ _ (by rw [e2]; omega), ← e1]; exact Go.Deep.blk_alloc_new _ _
  · rw [hb.block _ (by simp), ← e2]; exact Go.Deep.blk_alloc_new _ _
/-- Five stores into a block of five cells. -/
def set5 (w : World) (g : Nat) (v0 v1 v2 v3 v4 : Value) : World := ((((w.setCell ⟨g, 0, none⟩ v0).setCell ⟨g, 1, none⟩ v1).setCell ⟨g, 2, none⟩ v2).setCell ⟨g, 3, none⟩ v3).setCell ⟨g, 4, none⟩ v4
theorem set5_block {w : World} {g : Nat} {x0 x1 x2 x3 x4 : Value} {T : TypeId} (h : w.heap[g]? = some (.cells #[x0, x1, x2, x3, x4] T (0, 0))) (v0 v1 v2 v3 v4 : Value) :
    (set5 w g v0 v1 v2 v3 v4).heap[g]? = some (.cells #[v0, v1, v2, v3, v4] T (0, 0)) := by
  unfold set5
  rw [heap_setCell_same _ _ _ _ _ _ (heap_setCell_same _ _ _ _ _ _ (heap_setCell_same _ _ _ _ _ _ (heap_setCell_same _ _ _ _ _ _ (heap_setCell_same _ _ _ _ _ _ h))))]
  simp
theorem set5_below {B g : Nat} {a w : World} (h : Below B a w) (hg : B ≤ g) (v0 v1 v2 v3 v4 : Value) : Below B a (set5 w g v0 v1 v2 v3 v4) :=
  ((((h.setCell (p := ⟨g, 0, none⟩) hg v0).setCell (p := ⟨g, 1, none⟩) hg v1).setCell (p := ⟨g, 2, none⟩) hg v2).setCell (p := ⟨g, 3, none⟩) hg v3).setCell (p := ⟨g, 4, none⟩) hg v4
theorem set5_size (w : World) (g : Nat) (v0 v1 v2 v3 v4 : Value) : (set5 w g v0 v1 v2 v3 v4).heap.size = w.heap.size := by simp [set5]
theorem SelsAt.set {w : World} {A B len g j : Nat} {a : Option Addr} {s : Sels} (h : SelsAt w A B a len s) (hg : g < A) (v : Value) : SelsAt (w.setCell ⟨g, j, none⟩ v) A B a len s :=
  ⟨h.1, h.2.1, h.2.2.imp id fun ⟨b, off, ha, hA, hl⟩ => ⟨b, off, ha, hA, hl.block (fun c hc _ => Go.Deep.blk_setCell_other _ _ _ _ (by show c ≠ g; omega)) hA⟩⟩
theorem SelsAt.set5 {w : World} {A B len g : Nat} {a : Option Addr} {s : Sels} (h : SelsAt w A B a len s) (hg : g < A) (v0 v1 v2 v3 v4 : Value) : SelsAt (set5 w g v0 v1 v2 v3 v4) A B a len s :=
  ((((h.set hg v0).set hg v1).set hg v2).set hg v3).set hg v4
def Sels.take : Nat → Sels → Sels
  | 0, _ => .nil
  | _ + 1, .nil => .nil
  | i + 1, .cons k key nm f u r => .cons k key nm f u (Sels.take i r)
theorem Sels.take_all : ∀ s : Sels, s.take s.len = s
  | .nil => rfl
  | .cons k key nm f u r => by simp only [Sels.len, Sels.take]; rw [Sels.take_all r]
theorem Sels.take_len : ∀ (i : Nat) (s : Sels), i ≤ s.len → (s.take i).len = i
  | 0, _, _ => rfl
  | i + 1, .nil, h => by simp [Sels.len] at h
  | i + 1, .cons k key nm f u r, h => by
    simp only [Sels.take, Sels.len] at h ⊢
    rw [Sels.take_len i r (by omega)]
/-- Five stores into a row, from cell o on. -/
def set5at (w : World) (g o : Nat) (v0 v1 v2 v3 v4 : Value) : World := ((((w.setCell ⟨g, o, none⟩ v0).setCell ⟨g, o + 1, none⟩ v1).setCell ⟨g, o + 2, none⟩ v2).setCell ⟨g, o + 3, none⟩ v3).setCell ⟨g, o + 4, none⟩ v4
theorem set5at_row {w : World} {g o : Nat} {Y : Array Value} {T : TypeId} (h : w.heap[g]? = some (.cells Y T (0, 0))) (ho : o + 4 < Y.size) (v0 v1 v2 v3 v4 : Value) :
    ∃ Z : Array Value, Z.size = Y.size ∧ (set5at w g o v0 v1 v2 v3 v4).heap[g]? = some (.cells Z T (0, 0)) ∧ Z[o]? = some v0 ∧ Z[o + 1]? = some v1 ∧ Z[o + 2]? = some v2 ∧ Z[o + 3]? = some v3 ∧ Z[o + 4]? = some v4 ∧ ∀ j, j < o → Z[j]? = Y[j]? := by
  refine ⟨((((Y.setIfInBounds o v0).setIfInBounds (o + 1) v1).setIfInBounds (o + 2) v2).setIfInBounds (o + 3) v3).setIfInBounds (o + 4) v4, by simp, ?_, ?_, ?_, ?_, ?_, ?_, fun j hj => ?_⟩
  · unfold set5at
    rw [heap_setCell_same _ _ _ _ _ _ (heap_setCell_same _ _ _ _ _ _ (heap_setCell_same _ _ _ _ _ _ (heap_setCell_same _ _ _ _ _ _ (heap_setCell_same _ _ _ _ _ _ h))))]
  all_goals simp only [Array.getElem?_setIfInBounds, Array.size_setIfInBounds]
  · rw [if_neg (by omega), if_neg (by omega), if_neg (by omega), if_neg (by omega), if_pos trivial, if_pos (by omega)]
  · rw [if_neg (by omega), if_neg (by omega), if_neg (by omega), if_pos trivial, if_pos (by omega)]
  · rw [if_neg (by omega), if_neg (by omega), if_pos trivial, if_pos (by omega)]
  · rw [if_neg (by omega), if_pos trivial, if_pos (by omega)]
  · rw [if_pos trivial, if_pos (by omega)]
  · rw [if_neg (by omega), if_neg (by omega), if_neg (by omega), if_neg (by omega), if_neg (by omega)]
theorem set5at_below {B g o : Nat} {a w : World} (h : Below B a w) (hg : B ≤ g) (v0 v1 v2 v3 v4 : Value) : Below B a (set5at w g o v0 v1 v2 v3 v4) :=
  ((((h.setCell (p := ⟨g, o, none⟩) hg v0).setCell (p := ⟨g, o + 1, none⟩) hg v1).setCell (p := ⟨g, o + 2, none⟩) hg v2).setCell (p := ⟨g, o + 3, none⟩) hg v3).setCell (p := ⟨g, o + 4, none⟩) hg v4
theorem set5at_size (w : World) (g o : Nat) (v0 v1 v2 v3 v4 : Value) : (set5at w g o v0 v1 v2 v3 v4).heap.size = w.heap.size := by simp [set5at]
theorem set5at_other (w : World) (g o : Nat) (v0 v1 v2 v3 v4 : Value) (c : Nat) (h : c ≠ g) : (set5at w g o v0 v1 v2 v3 v4).heap[c]? = w.heap[c]? := by
  unfold set5at
  rw [Go.Deep.blk_setCell_other _ _ _ _ h, Go.Deep.blk_setCell_other _ _ _ _ h, Go.Deep.blk_setCell_other _ _ _ _ h, Go.Deep.blk_setCell_other _ _ _ _ h, Go.Deep.blk_setCell_other _ _ _ _ h]
theorem SelsAt.set5at {w : World} {A B len g o : Nat} {a : Option Addr} {s : Sels} (h : SelsAt w A B a len s) (hg : g < A) (v0 v1 v2 v3 v4 : Value) : SelsAt (set5at w g o v0 v1 v2 v3 v4) A B a len s :=
  ((((h.set hg v0).set hg v1).set hg v2).set hg v3).set hg v4
theorem cell_of {w : World} {g i : Nat} {Y : Array Value} {T : TypeId} {v : Value} (h : w.heap[g]? = some (.cells Y T (0, 0))) (hi : Y[i]? = some v) : w.cell? ⟨g, i, none⟩ = some v := by
  simp [World.cell?, h, hi]
/-- No list of more than 2^20 within. -/
def Sels.small : Sels → Prop
  | .nil => True
  | .cons _ _ _ _ u r => u.len ≤ 1048576 ∧ u.small ∧ r.small
theorem Sels.small_of_wt : ∀ {s : Sels}, s.wt ≤ 1048576 → s.small
  | .nil, _ => trivial
  | .cons k key nm f u r, h => by
    simp only [Sels.wt] at h
    exact ⟨by omega, Sels.small_of_wt (by omega), Sels.small_of_wt (by omega)⟩
theorem Sels.small_drop : ∀ (i : Nat) {s : Sels}, s.small → (s.drop i).small
  | 0, s, h => h
  | i + 1, .nil, h => trivial
  | i + 1, .cons _ _ _ _ u r, h => Sels.small_drop i h.2.2

theorem SelsAt.drew {w : World} {A B len : Nat} {a : Option Addr} {s : Sels} (h : SelsAt w A B a len s) : SelsAt w.drew A B a len s :=
  ⟨h.1, h.2.1, h.2.2.imp id fun ⟨b, off, ha, hA, hl⟩ => ⟨b, off, ha, hA, Lie.block (w := w) (w' := w.drew) (fun _ _ _ => rfl) hA hl⟩⟩
theorem leftOf_two {left : Int} {m n : Nat} (h : (m : Int) ≤ left) : leftOf (leftOf left m) n = leftOf left (m + n) := by
  unfold leftOf; rw [if_pos h]; split <;> split <;> omega
theorem leftOf_wide {left : Int} {m n : Nat} (h : ¬ (m : Int) ≤ left) : leftOf left (m + n) = -1 := if_neg (by omega)

/-- A block of three cells. -/
theorem keep3 {w1 : World} {g : Nat} {v0 v1 v2 : Value} {T : TypeId} (h1 : w1.heap[g]? = some (.cells #[v0, v1, v2] T (0, 0))) :
    (w1.cell? ⟨g, 0, none⟩ = some v0 ∧ w1.cell? ⟨g, 1, none⟩ = some v1 ∧ w1.cell? ⟨g, 2, none⟩ = some v2) ∧
    (w1.frozen? ⟨g, 0, none⟩ = false ∧ w1.frozen? ⟨g, 1, none⟩ = false ∧ w1.frozen? ⟨g, 2, none⟩ = false) := by
  simp [World.cell?, World.frozen?, h1]
/-- Three stores into a row, from cell o on. -/
def set3at (w : World) (g o : Nat) (v0 v1 v2 : Value) : World := ((w.setCell ⟨g, o, none⟩ v0).setCell ⟨g, o + 1, none⟩ v1).setCell ⟨g, o + 2, none⟩ v2
theorem set3at_row {w : World} {g o : Nat} {Y : Array Value} {T : TypeId} (h : w.heap[g]? = some (.cells Y T (0, 0))) (ho : o + 2 < Y.size) (v0 v1 v2 : Value) :
    ∃ Z : Array Value, Z.size = Y.size ∧ (set3at w g o v0 v1 v2).heap[g]? = some (.cells Z T (0, 0)) ∧ Z[o]? = some v0 ∧ Z[o + 1]? = some v1 ∧ Z[o + 2]? = some v2 ∧ ∀ j, j < o → Z[j]? = Y[j]? := by
  refine ⟨((Y.setIfInBounds o v0).setIfInBounds (o + 1) v1).setIfInBounds (o + 2) v2, by simp, ?_, ?_, ?_, ?_, fun j hj => ?_⟩
  · unfold set3at
    rw [heap_setCell_same _ _ _ _ _ _ (heap_setCell_same _ _ _ _ _ _ (heap_setCell_same _ _ _ _ _ _ h))]
  all_goals simp only [Array.getElem?_setIfInBounds, Array.size_setIfInBounds]
  · rw [if_neg (by omega), if_neg (by omega), if_pos trivial, if_pos (by omega)]
  · rw [if_neg (by omega), if_pos trivial, if_pos (by omega)]
  · rw [if_pos trivial, if_pos (by omega)]
  · rw [if_neg (by omega), if_neg (by omega), if_neg (by omega)]
theorem set3at_below {B g o : Nat} {a w : World} (h : Below B a w) (hg : B ≤ g) (v0 v1 v2 : Value) : Below B a (set3at w g o v0 v1 v2) :=
  ((h.setCell (p := ⟨g, o, none⟩) hg v0).setCell (p := ⟨g, o + 1, none⟩) hg v1).setCell (p := ⟨g, o + 2, none⟩) hg v2
theorem set3at_size (w : World) (g o : Nat) (v0 v1 v2 : Value) : (set3at w g o v0 v1 v2).heap.size = w.heap.size := by simp [set3at]
theorem set3at_other (w : World) (g o : Nat) (v0 v1 v2 : Value) (c : Nat) (h : c ≠ g) : (set3at w g o v0 v1 v2).heap[c]? = w.heap[c]? := by
  unfold set3at
  rw [Go.Deep.blk_setCell_other _ _ _ _ h, Go.Deep.blk_setCell_other _ _ _ _ h, Go.Deep.blk_setCell_other _ _ _ _ h]

/-- A block of two cells. -/
theorem keep2 {w1 : World} {g : Nat} {v0 v1 : Value} {T : TypeId} (h1 : w1.heap[g]? = some (.cells #[v0, v1] T (0, 0))) :
    (w1.cell? ⟨g, 0, none⟩ = some v0 ∧ w1.cell? ⟨g, 1, none⟩ = some v1) ∧ (w1.frozen? ⟨g, 0, none⟩ = false ∧ w1.frozen? ⟨g, 1, none⟩ = false) := by
  simp [World.cell?, World.frozen?, h1]
theorem kept1 {w w1 : World} {o1 o2 o3 : Obj} (hb : Below (((w.alloc o1).alloc o2).alloc o3).heap.size (((w.alloc o1).alloc o2).alloc o3) w1) : w1.heap[w.heap.size]? = some o1 := by
  rw [hb.block _ (by simp; omega), Go.Deep.blk_alloc_lt _ _ _ (by simp; omega), Go.Deep.blk_alloc_lt _ _ _ (by simp)]; exact Go.Deep.blk_alloc_new _ _
end Go.Proofs.YthdncjdopejkkaaDoor.Selss
