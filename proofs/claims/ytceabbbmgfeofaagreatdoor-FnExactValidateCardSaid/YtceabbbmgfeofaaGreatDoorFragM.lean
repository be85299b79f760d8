/-
  Frags and Docs in memory; no program. Conditions: as each theorem says.
-/
import Derived.Test.YtceabbbmgfeofaaGreatDoorRows
import Derived.WalkKit
import Derived.Below
import Derived.Outline
import Derived.Lib.Hide
import Derived.RegionTactic
import Derived.BigRegion
import Derived.Laws.BytesArg
import Derived.Laws.OwnMore
import Derived.Laws.MakeOwn
import Derived.Deep.OwnRows
import Derived.Deep.RegionWith
namespace Go.Proofs.YtceabbbmgfeofaaGreatDoor.Selss
open Go.RowKit
set_option linter.unusedVariables false
/-- Selections: none; or one (its kind, key, name, first, what is within), and the rest. -/
inductive Sels where
  | nil : Sels
  | cons (kind : Int) (key name : ByteArray) (first : Int) (sub rest : Sels) : Sels
namespace Sels
def len : Sels → Nat
  | nil => 0
  | cons _ _ _ _ _ r => r.len + 1
/-- All of them, within others too. -/
def all : Sels → Nat
  | nil => 0
  | cons _ _ _ _ s r => s.all + r.all + 1
theorem len_le_all : ∀ s : Sels, s.len ≤ s.all
  | nil => Nat.le_refl _
  | cons _ _ _ _ s r => by have := len_le_all r; simp only [len, all]; omega
def drop : Nat → Sels → Sels
  | 0, s => s
  | _ + 1, nil => nil
  | i + 1, cons _ _ _ _ _ r => drop i r
theorem drop_zero (s : Sels) : drop 0 s = s := rfl
theorem drop_len : ∀ (i : Nat) (s : Sels), (drop i s).len = s.len - i
  | 0, s => rfl
  | i + 1, nil => by simp [drop, len]
  | i + 1, cons _ _ _ _ _ r => by simp only [drop, len]; rw [drop_len i r]; omega
theorem drop_all : ∀ (i : Nat) (s : Sels), (drop i s).all ≤ s.all
  | 0, s => Nat.le_refl _
  | i + 1, nil => Nat.le_refl _
  | i + 1, cons _ _ _ _ _ r => by have := drop_all i r; simp only [drop, all]; omega
theorem drop_succ : ∀ (i : Nat) (s : Sels) {k : Int} {key nm : ByteArray} {f : Int} {u r : Sels}, drop i s = cons k key nm f u r → drop (i + 1) s = r
  | 0, nil, _, _, _, _, _, _, h => by cases h
  | 0, cons _ _ _ _ _ _, _, _, _, _, _, _, h => by cases h; rfl
  | i + 1, nil, _, _, _, _, _, _, h => by cases h
  | i + 1, cons _ _ _ _ _ r, _, _, _, _, _, _, h => drop_succ i r h
theorem drop_at {i : Nat} {s : Sels} (h : i < s.len) : ∃ k key nm f u r, drop i s = cons k key nm f u r := by
  have hl := drop_len i s
  cases hd : drop i s with
  | nil => rw [hd] at hl; simp only [len] at hl; omega
  | cons k key nm f u r => exact ⟨k, key, nm, f, u, r, rfl⟩
theorem drop_end {i : Nat} {s : Sels} (h : s.len ≤ i) : drop i s = nil := by
  have hl := drop_len i s
  cases hd : drop i s with
  | nil => rfl
  | cons k key nm f u r => rw [hd] at hl; simp only [len] at hl; omega
end Sels
/-- A number, a text of a field, as they may be. -/
def OkI (n : Int) : Prop := -9223372036854775808 ≤ n ∧ n ≤ 9223372036854775807
def OkS (b : ByteArray) : Prop := b.size ≤ 9223372036854775807
/-- The selections s lie in block b from cell off on, b below B; what is within them lies in blocks from A on, below B. -/
def Lie (w : World) (A B : Nat) : Sels → Nat → Nat → Prop
  | .nil, _, _ => True
  | .cons k key nm f u r, b, off =>
    (OkI k ∧ OkS key ∧ OkS nm ∧ OkI f) ∧ b < B ∧
    w.cell? ⟨b, off, none⟩ = some (.int .i64 k) ∧ w.cell? ⟨b, off + 1, none⟩ = some (.string key) ∧ w.cell? ⟨b, off + 2, none⟩ = some (.string nm) ∧ w.cell? ⟨b, off + 3, none⟩ = some (.int .i64 f) ∧
    (∃ (a : Option Addr) (cap : Nat), w.cell? ⟨b, off + 4, none⟩ = some (.slice a u.len cap) ∧ u.len ≤ 9223372036854775807 ∧ (u = .nil ∨ ∃ c o, a = some ⟨c, o, none⟩ ∧ A ≤ c ∧ Lie w A B u c o)) ∧
    Lie w A B r b (off + 5)
/-- A slice that holds the selections s. -/
def SelsAt (w : World) (A B : Nat) (a : Option Addr) (len : Nat) (s : Sels) : Prop := s.len = len ∧ s.len ≤ 9223372036854775807 ∧ (s = .nil ∨ ∃ b off, a = some ⟨b, off, none⟩ ∧ A ≤ b ∧ Lie w A B s b off)
/-- What lies so is read from its own cells of block b, and from the blocks from A to B. -/
theorem Lie.frame {w w' : World} {A B : Nat} (hw : ∀ c, A ≤ c → c < B → w'.heap[c]? = w.heap[c]?) : ∀ {s : Sels} {b off : Nat}, (∀ j, off ≤ j → j < off + s.len * 5 → w'.cell? ⟨b, j, none⟩ = w.cell? ⟨b, j, none⟩) → Lie w A B s b off → Lie w' A B s b off
  | .nil, _, _, _, _ => trivial
  | .cons k key nm f u r, b, off, e, ⟨hk, hb, h0, h1, h2, h3, ⟨a, cap, h4, hul, hu⟩, hr⟩ => by
    simp only [Sels.len] at e
    refine ⟨hk, hb, (e _ (by omega) (by omega)).trans h0, (e _ (by omega) (by omega)).trans h1, (e _ (by omega) (by omega)).trans h2, (e _ (by omega) (by omega)).trans h3, ⟨a, cap, (e _ (by omega) (by omega)).trans h4, hul, ?_⟩, Lie.frame hw (fun j hj hj' => e j (by omega) (by omega)) hr⟩
    rcases hu with h | ⟨c, o, ha, hc, h⟩
    · exact .inl h
    · refine .inr ⟨c, o, ha, hc, ?_⟩
      cases u with
      | nil => trivial
      | cons k' key' nm' f' u' r' => exact Lie.frame hw (fun j _ _ => World.cell?_of_block (w := w) (hw c hc h.2.1)) h
theorem Lie.block {w w' : World} {A B : Nat} (hw : ∀ c, A ≤ c → c < B → w'.heap[c]? = w.heap[c]?) {s : Sels} {b off : Nat} (hA : A ≤ b) (h : Lie w A B s b off) : Lie w' A B s b off := by
  cases s with
  | nil => trivial
  | cons k key nm f u r => exact Lie.frame hw (fun j _ _ => World.cell?_of_block (w := w) (hw b hA h.2.1)) h
theorem Lie.wide {w : World} {A B A' B' : Nat} (hA : A' ≤ A) (hB : B ≤ B') : ∀ {s : Sels} {b off : Nat}, Lie w A B s b off → Lie w A' B' s b off
  | .nil, _, _, _ => trivial
  | .cons k key nm f u r, b, off, ⟨hk, hb, h0, h1, h2, h3, ⟨a, cap, h4, hul, hu⟩, hr⟩ => by
    refine ⟨hk, by omega, h0, h1, h2, h3, ⟨a, cap, h4, hul, ?_⟩, Lie.wide hA hB hr⟩
    rcases hu with h | ⟨c, o, ha, hc, h⟩
    · exact .inl h
    · exact .inr ⟨c, o, ha, by omega, Lie.wide hA hB h⟩
theorem Lie.drop {w : World} {A B : Nat} : ∀ (i : Nat) {s : Sels} {b off : Nat}, Lie w A B s b off → Lie w A B (s.drop i) b (off + i * 5)
  | 0, s, b, off, h => by rw [Nat.zero_mul, Nat.add_zero]; exact h
  | i + 1, .nil, b, off, h => trivial
  | i + 1, .cons k key nm f u r, b, off, ⟨_, _, _, _, _, _, _, hr⟩ => by
    have := Lie.drop i hr
    have e : off + (i + 1) * 5 = off + 5 + i * 5 := by omega
    rw [e]; exact this
theorem SelsAt.below {w w' : World} {A B C len : Nat} {a : Option Addr} {s : Sels} (h : SelsAt w A B a len s) (hB : B ≤ C) (g : Below C w w') : SelsAt w' A B a len s :=
  ⟨h.1, h.2.1, h.2.2.imp id fun ⟨b, off, ha, hA, hl⟩ => ⟨b, off, ha, hA, hl.block (fun c _ hc => g.block c (by omega)) hA⟩⟩
theorem SelsAt.wide {w : World} {A B A' B' len : Nat} {a : Option Addr} {s : Sels} (h : SelsAt w A B a len s) (hA : A' ≤ A) (hB : B ≤ B') : SelsAt w A' B' a len s :=
  ⟨h.1, h.2.1, h.2.2.imp id fun ⟨b, off, ha, hb, hl⟩ => ⟨b, off, ha, by omega, hl.wide hA hB⟩⟩
/-- The one at place i. -/
theorem SelsAt.at {w : World} {A B len : Nat} {a : Option Addr} {s : Sels} (h : SelsAt w A B a len s) {i : Nat} (hi : i < len) :
    ∃ k key nm f u r b off a' cap, s.drop i = .cons k key nm f u r ∧ a = some ⟨b, off, none⟩ ∧ b < B ∧ (OkI k ∧ OkS key ∧ OkS nm ∧ OkI f) ∧
      (w.cell? ⟨b, off + i * 5, none⟩ = some (.int .i64 k) ∧ w.cell? ⟨b, off + i * 5 + 1, none⟩ = some (.string key) ∧ w.cell? ⟨b, off + i * 5 + 2, none⟩ = some (.string nm) ∧ w.cell? ⟨b, off + i * 5 + 3, none⟩ = some (.int .i64 f) ∧ w.cell? ⟨b, off + i * 5 + 4, none⟩ = some (.slice a' u.len cap)) ∧ SelsAt w A B a' u.len u := by
  obtain ⟨k, key, nm, f, u, r, hd⟩ := Sels.drop_at (show i < s.len by rw [h.1]; exact hi)
  rcases h.2.2 with rfl | ⟨b, off, ha, hA, hl⟩
  · have := h.1; simp only [Sels.len] at this; omega
  · have hx := Lie.drop i hl
    rw [hd] at hx
    obtain ⟨hk, hb, h0, h1, h2, h3, ⟨a', cap, h4, hul, hu⟩, hr⟩ := hx
    exact ⟨k, key, nm, f, u, r, b, off, a', cap, hd, ha, hb, hk, ⟨h0, h1, h2, h3, h4⟩, rfl, hul, hu⟩
end Go.Proofs.YtceabbbmgfeofaaGreatDoor.Selss
namespace Go.Proofs.YtceabbbmgfeofaaGreatDoor.Selss
open Go.RowKit
set_option linter.unusedVariables false
set_option maxRecDepth 100000
/-- What selections weigh, beside how many stand at the top. -/
def Sels.wt : Sels → Nat
  | nil => 0
  | cons _ key nm _ u r => key.size + nm.size + u.len + u.wt + r.wt
/-- What is left of a number behind a weight; -1: it is too much. -/
def leftOf (left : Int) (n : Nat) : Int := if (n : Int) ≤ left then left - n else -1
theorem leftOf_no {left : Int} {n : Nat} (h : left < n) : (-1 : Int) = leftOf left n := (if_neg (by omega)).symm
theorem leftOf_yes {left m : Int} {n : Nat} (h : 0 ≤ m) (e : m = left - n) : m = leftOf left n := by unfold leftOf; rw [if_pos (by omega)]; exact e
theorem ret_i {k : IntKind} {a b : Int} (h : a = b) : Ending.returned (.int k a) = .returned (.int k b) := by rw [h]
theorem Sels.wt_drop {i : Nat} {s : Sels} {k : Int} {key nm : ByteArray} {f : Int} {u r : Sels} (h : s.drop i = .cons k key nm f u r) : (s.drop i).wt = key.size + nm.size + u.len + u.wt + (s.drop (i + 1)).wt := by
  rw [Sels.drop_succ i s h, h]; rfl
theorem Sels.all_drop {i : Nat} {s : Sels} {k : Int} {key nm : ByteArray} {f : Int} {u r : Sels} (h : s.drop i = .cons k key nm f u r) : u.all < s.all := by
  have := Sels.drop_all i s; rw [h] at this; simp only [Sels.all] at this; omega
theorem row_cell {W : World} {g k : Nat} {C : Array Value} {T : TypeId} (h : W.heap[g]? = some (.cells C T (0, 0))) (hk : k < C.size) : W.cell? ⟨g, k, none⟩ = some C[k] := by
  simp [World.cell?, h, hk]
/-- A block of five cells. -/
theorem keep5 {w1 : World} {g : Nat} {v0 v1 v2 v3 v4 : Value} {T : TypeId} (h1 : w1.heap[g]? = some (.cells #[v0, v1, v2, v3, v4] T (0, 0))) :
    (w1.cell? ⟨g, 0, none⟩ = some v0 ∧ w1.cell? ⟨g, 1, none⟩ = some v1 ∧ w1.cell? ⟨g, 2, none⟩ = some v2 ∧ w1.cell? ⟨g, 3, none⟩ = some v3 ∧ w1.cell? ⟨g, 4, none⟩ = some v4) ∧
    (w1.frozen? ⟨g, 0, none⟩ = false ∧ w1.frozen? ⟨g, 1, none⟩ = false ∧ w1.frozen? ⟨g, 2, none⟩ = false ∧ w1.frozen? ⟨g, 3, none⟩ = false ∧ w1.frozen? ⟨g, 4, none⟩ = false) := by
  simp [World.cell?, World.frozen?, h1]
/-- The last two of three new blocks, kept behind a call. -/
theorem kept {w w1 : World} {o1 o2 o3 : Obj} (hb : Below (((w.alloc o1).alloc o2).alloc o3).heap.size (((w.alloc o1).alloc o2).alloc o3) w1) :
    w1.heap[w.heap.size + 1]? = some o2 ∧ w1.heap[w.heap.size + 1 + 1]? = some o3 := by
  have e1 : (w.alloc o1).heap.size = w.heap.size + 1 := by simp
  have e2 : ((w.alloc o1).alloc o2).heap.size = w.heap.size + 1 + 1 := by simp
  constructor
  · rw [hb.block _ (by simp), Go.Deep.blk_alloc_lt _ _ _ (by rw [e2]; omega), ← e1]; exact Go.Deep.blk_alloc_new _ _
  · rw [hb.block _ (by simp), ← e2]; exact Go.Deep.blk_alloc_new _ _
/-- Five stores into a block of five cells. -/
def set5 (w : World) (g : Nat) (v0 v1 v2 v3 v4 : Value) : World := ((((w.setCell ⟨g, 0, none⟩ v0).setCell ⟨g, 1, none⟩ v1).setCell ⟨g, 2, none⟩ v2).setCell ⟨g, 3, none⟩ v3).setCell ⟨g, 4, none⟩ v4
theorem set5_block {w : World} {g : Nat} {x0 x1 x2 x3 x4 : Value} {T : TypeId} (h : w.heap[g]? = some (.cells #[x0, x1, x2, x3, x4] T (0, 0))) (v0 v1 v2 v3 v4 : Value) :
    (set5 w g v0 v1 v2 v3 v4).heap[g]? = some (.cells #[v0, v1, v2, v3, v4] T (0, 0)) := by
  unfold set5
  rw [heap_setCell_same _ _ _ _ _ _ (heap_setCell_same _ _ _ _ _ _ (heap_setCell_same _ _ _ _ _ _ (heap_setCell_same _ _ _ _ _ _ (heap_setCell_same _ _ _ _ _ _ h))))]
  simp
theorem set5_below {B g : Nat} {a w : World} (h : Below B a w) (hg : B ≤ g) (v0 v1 v2 v3 v4 : Value) : Below B a (set5 w g v0 v1 v2 v3 v4) :=
  ((((h.setCell (p := ⟨g, 0, none⟩) hg v0).setCell (p := ⟨g, 1, none⟩) hg v1).setCell (p := ⟨g, 2, none⟩) hg v2).setCell (p := ⟨g, 3, none⟩) hg v3).setCell (p := ⟨g, 4, none⟩) hg v4
theorem set5_size (w : World) (g : Nat) (v0 v1 v2 v3 v4 : Value) : (set5 w g v0 v1 v2 v3 v4).heap.size = w.heap.size := by simp [set5]
theorem SelsAt.set {w : World} {A B len g j : Nat} {a : Option Addr} {s : Sels} (h : SelsAt w A B a len s) (hg : g < A) (v : Value) : SelsAt (w.setCell ⟨g, j, none⟩ v) A B a len s :=
  ⟨h.1, h.2.1, h.2.2.imp id fun ⟨b, off, ha, hA, hl⟩ => ⟨b, off, ha, hA, hl.block (fun c hc _ => Go.Deep.blk_setCell_other _ _ _ _ (by show c ≠ g; omega)) hA⟩⟩
theorem SelsAt.set5 {w : World} {A B len g : Nat} {a : Option Addr} {s : Sels} (h : SelsAt w A B a len s) (hg : g < A) (v0 v1 v2 v3 v4 : Value) : SelsAt (set5 w g v0 v1 v2 v3 v4) A B a len s :=
  ((((h.set hg v0).set hg v1).set hg v2).set hg v3).set hg v4
def Sels.take : Nat → Sels → Sels
  | 0, _ => .nil
  | _ + 1, .nil => .nil
  | i + 1, .cons k key nm f u r => .cons k key nm f u (Sels.take i r)
theorem Sels.take_all : ∀ s : Sels, s.take s.len = s
  | .nil => rfl
  | .cons k key nm f u r => by simp only [Sels.len, Sels.take]; rw [Sels.take_all r]
theorem Sels.take_len : ∀ (i : Nat) (s : Sels), i ≤ s.len → (s.take i).len = i
  | 0, _, _ => rfl
  | i + 1, .nil, h => by simp [Sels.len] at h
  | i + 1, .cons k key nm f u r, h => by
    simp only [Sels.take, Sels.len] at h ⊢
    rw [Sels.take_len i r (by omega)]
/-- Five stores into a row, from cell o on. -/
def set5at (w : World) (g o : Nat) (v0 v1 v2 v3 v4 : Value) : World := ((((w.setCell ⟨g, o, none⟩ v0).setCell ⟨g, o + 1, none⟩ v1).setCell ⟨g, o + 2, none⟩ v2).setCell ⟨g, o + 3, none⟩ v3).setCell ⟨g, o + 4, none⟩ v4
theorem set5at_row {w : World} {g o : Nat} {Y : Array Value} {T : TypeId} (h : w.heap[g]? = some (.cells Y T (0, 0))) (ho : o + 4 < Y.size) (v0 v1 v2 v3 v4 : Value) :
    ∃ Z : Array Value, Z.size = Y.size ∧ (set5at w g o v0 v1 v2 v3 v4).heap[g]? = some (.cells Z T (0, 0)) ∧ Z[o]? = some v0 ∧ Z[o + 1]? = some v1 ∧ Z[o + 2]? = some v2 ∧ Z[o + 3]? = some v3 ∧ Z[o + 4]? = some v4 ∧ ∀ j, j < o → Z[j]? = Y[j]? := by
  refine ⟨((((Y.setIfInBounds o v0).setIfInBounds (o + 1) v1).setIfInBounds (o + 2) v2).setIfInBounds (o + 3) v3).setIfInBounds (o + 4) v4, by simp, ?_, ?_, ?_, ?_, ?_, ?_, fun j hj => ?_⟩
  · unfold set5at
    rw [heap_setCell_same _ _ _ _ _ _ (heap_setCell_same _ _ _ _ _ _ (heap_setCell_same _ _ _ _ _ _ (heap_setCell_same _ _ _ _ _ _ (heap_setCell_same _ _ _ _ _ _ h))))]
  all_goals simp only [Array.getElem?_setIfInBounds, Array.size_setIfInBounds]
  · rw [if_neg (by omega), if_neg (by omega), if_neg (by omega), if_neg (by omega), if_pos trivial, if_pos (by omega)]
  · rw [if_neg (by omega), if_neg (by omega), if_neg (by omega), if_pos trivial, if_pos (by omega)]
  · rw [if_neg (by omega), if_neg (by omega), if_pos trivial, if_pos (by omega)]
  · rw [if_neg (by omega), if_pos trivial, if_pos (by omega)]
  · rw [if_pos trivial, if_pos (by omega)]
  · rw [if_neg (by omega), if_neg (by omega), if_neg (by omega), if_neg (by omega), if_neg (by omega)]
theorem set5at_below {B g o : Nat} {a w : World} (h : Below B a w) (hg : B ≤ g) (v0 v1 v2 v3 v4 : Value) : Below B a (set5at w g o v0 v1 v2 v3 v4) :=
  ((((h.setCell (p := ⟨g, o, none⟩) hg v0).setCell (p := ⟨g, o + 1, none⟩) hg v1).setCell (p := ⟨g, o + 2, none⟩) hg v2).setCell (p := ⟨g, o + 3, none⟩) hg v3).setCell (p := ⟨g, o + 4, none⟩) hg v4
theorem set5at_size (w : World) (g o : Nat) (v0 v1 v2 v3 v4 : Value) : (set5at w g o v0 v1 v2 v3 v4).heap.size = w.heap.size := by simp [set5at]
theorem set5at_other (w : World) (g o : Nat) (v0 v1 v2 v3 v4 : Value) (c : Nat) (h : c ≠ g) : (set5at w g o v0 v1 v2 v3 v4).heap[c]? = w.heap[c]? := by
  unfold set5at
  rw [Go.Deep.blk_setCell_other _ _ _ _ h, Go.Deep.blk_setCell_other _ _ _ _ h, Go.Deep.blk_setCell_other _ _ _ _ h, Go.Deep.blk_setCell_other _ _ _ _ h, Go.Deep.blk_setCell_other _ _ _ _ h]
theorem SelsAt.set5at {w : World} {A B len g o : Nat} {a : Option Addr} {s : Sels} (h : SelsAt w A B a len s) (hg : g < A) (v0 v1 v2 v3 v4 : Value) : SelsAt (set5at w g o v0 v1 v2 v3 v4) A B a len s :=
  ((((h.set hg v0).set hg v1).set hg v2).set hg v3).set hg v4
theorem cell_of {w : World} {g i : Nat} {Y : Array Value} {T : TypeId} {v : Value} (h : w.heap[g]? = some (.cells Y T (0, 0))) (hi : Y[i]? = some v) : w.cell? ⟨g, i, none⟩ = some v := by
  simp [World.cell?, h, hi]
/-- No list of more than 2^20 within. -/
def Sels.small : Sels → Prop
  | .nil => True
  | .cons _ _ _ _ u r => u.len ≤ 1048576 ∧ u.small ∧ r.small
theorem Sels.small_of_wt : ∀ {s : Sels}, s.wt ≤ 1048576 → s.small
  | .nil, _ => trivial
  | .cons k key nm f u r, h => by
    simp only [Sels.wt] at h
    exact ⟨by omega, Sels.small_of_wt (by omega), Sels.small_of_wt (by omega)⟩
theorem Sels.small_drop : ∀ (i : Nat) {s : Sels}, s.small → (s.drop i).small
  | 0, s, h => h
  | i + 1, .nil, h => trivial
  | i + 1, .cons _ _ _ _ u r, h => Sels.small_drop i h.2.2
theorem SelsAt.drew {w : World} {A B len : Nat} {a : Option Addr} {s : Sels} (h : SelsAt w A B a len s) : SelsAt w.drew A B a len s :=
  ⟨h.1, h.2.1, h.2.2.imp id fun ⟨b, off, ha, hA, hl⟩ => ⟨b, off, ha, hA, Lie.block (w := w) (w' := w.drew) (fun _ _ _ => rfl) hA hl⟩⟩
theorem leftOf_two {left : Int} {m n : Nat} (h : (m : Int) ≤ left) : leftOf (leftOf left m) n = leftOf left (m + n) := by
  unfold leftOf; rw [if_pos h]; split <;> split <;> omega
theorem leftOf_wide {left : Int} {m n : Nat} (h : ¬ (m : Int) ≤ left) : leftOf left (m + n) = -1 := if_neg (by omega)
/-- A block of three cells. -/
theorem keep3 {w1 : World} {g : Nat} {v0 v1 v2 : Value} {T : TypeId} (h1 : w1.heap[g]? = some (.cells #[v0, v1, v2] T (0, 0))) :
    (w1.cell? ⟨g, 0, none⟩ = some v0 ∧ w1.cell? ⟨g, 1, none⟩ = some v1 ∧ w1.cell? ⟨g, 2, none⟩ = some v2) ∧
    (w1.frozen? ⟨g, 0, none⟩ = false ∧ w1.frozen? ⟨g, 1, none⟩ = false ∧ w1.frozen? ⟨g, 2, none⟩ = false) := by
  simp [World.cell?, World.frozen?, h1]
/-- Three stores into a row, from cell o on. -/
def set3at (w : World) (g o : Nat) (v0 v1 v2 : Value) : World := ((w.setCell ⟨g, o, none⟩ v0).setCell ⟨g, o + 1, none⟩ v1).setCell ⟨g, o + 2, none⟩ v2
theorem set3at_row {w : World} {g o : Nat} {Y : Array Value} {T : TypeId} (h : w.heap[g]? = some (.cells Y T (0, 0))) (ho : o + 2 < Y.size) (v0 v1 v2 : Value) :
    ∃ Z : Array Value, Z.size = Y.size ∧ (set3at w g o v0 v1 v2).heap[g]? = some (.cells Z T (0, 0)) ∧ Z[o]? = some v0 ∧ Z[o + 1]? = some v1 ∧ Z[o + 2]? = some v2 ∧ ∀ j, j < o → Z[j]? = Y[j]? := by
  refine ⟨((Y.setIfInBounds o v0).setIfInBounds (o + 1) v1).setIfInBounds (o + 2) v2, by simp, ?_, ?_, ?_, ?_, fun j hj => ?_⟩
  · unfold set3at
    rw [heap_setCell_same _ _ _ _ _ _ (heap_setCell_same _ _ _ _ _ _ (heap_setCell_same _ _ _ _ _ _ h))]
  all_goals simp only [Array.getElem?_setIfInBounds, Array.size_setIfInBounds]
  · rw [if_neg (by omega), if_neg (by omega), if_pos trivial, if_pos (by omega)]
  · rw [if_neg (by omega), if_pos trivial, if_pos (by omega)]
  · rw [if_pos trivial, if_pos (by omega)]
  · rw [if_neg (by omega), if_neg (by omega), if_neg (by omega)]
theorem set3at_below {B g o : Nat} {a w : World} (h : Below B a w) (hg : B ≤ g) (v0 v1 v2 : Value) : Below B a (set3at w g o v0 v1 v2) :=
  ((h.setCell (p := ⟨g, o, none⟩) hg v0).setCell (p := ⟨g, o + 1, none⟩) hg v1).setCell (p := ⟨g, o + 2, none⟩) hg v2
theorem set3at_size (w : World) (g o : Nat) (v0 v1 v2 : Value) : (set3at w g o v0 v1 v2).heap.size = w.heap.size := by simp [set3at]
theorem set3at_other (w : World) (g o : Nat) (v0 v1 v2 : Value) (c : Nat) (h : c ≠ g) : (set3at w g o v0 v1 v2).heap[c]? = w.heap[c]? := by
  unfold set3at
  rw [Go.Deep.blk_setCell_other _ _ _ _ h, Go.Deep.blk_setCell_other _ _ _ _ h, Go.Deep.blk_setCell_other _ _ _ _ h]
/-- A block of two cells. -/
theorem keep2 {w1 : World} {g : Nat} {v0 v1 : Value} {T : TypeId} (h1 : w1.heap[g]? = some (.cells #[v0, v1] T (0, 0))) :
    (w1.cell? ⟨g, 0, none⟩ = some v0 ∧ w1.cell? ⟨g, 1, none⟩ = some v1) ∧ (w1.frozen? ⟨g, 0, none⟩ = false ∧ w1.frozen? ⟨g, 1, none⟩ = false) := by
  simp [World.cell?, World.frozen?, h1]
theorem kept1 {w w1 : World} {o1 o2 o3 : Obj} (hb : Below (((w.alloc o1).alloc o2).alloc o3).heap.size (((w.alloc o1).alloc o2).alloc o3) w1) : w1.heap[w.heap.size]? = some o1 := by
  rw [hb.block _ (by simp; omega), Go.Deep.blk_alloc_lt _ _ _ (by simp; omega), Go.Deep.blk_alloc_lt _ _ _ (by simp)]; exact Go.Deep.blk_alloc_new _ _
structure FragP where
  name : ByteArray
  on : ByteArray
  sels : Sels
/-- Frag x lies in block b at cell o. -/
structure FragLie (w : World) (A B : Nat) (b o : Nat) (x : FragP) : Prop where
  okn : OkS x.name
  oko : OkS x.on
  c0 : w.cell? ⟨b, o, none⟩ = some (.string x.name)
  c1 : w.cell? ⟨b, o + 1, none⟩ = some (.string x.on)
  c2 : ∃ a cap, w.cell? ⟨b, o + 2, none⟩ = some (.slice a x.sels.len cap) ∧ SelsAt w A B a x.sels.len x.sels
/-- A slice that holds the Frags l. -/
def FragsAt (w : World) (A B : Nat) (a : Option Addr) (len : Nat) (l : List FragP) : Prop :=
  l.length = len ∧ len ≤ 9223372036854775807 ∧ (l = [] ∨ ∃ b off, a = some ⟨b, off, none⟩ ∧ A ≤ b ∧ b < B ∧ ∀ i x, l[i]? = some x → FragLie w A B b (off + i * 3) x)
theorem SelsAt.block {w w' : World} {A B len : Nat} {a : Option Addr} {s : Sels} (h : SelsAt w A B a len s) (hw : ∀ c, A ≤ c → c < B → w'.heap[c]? = w.heap[c]?) : SelsAt w' A B a len s :=
  ⟨h.1, h.2.1, h.2.2.imp id fun ⟨b, off, ha, hA, hl⟩ => ⟨b, off, ha, hA, hl.block hw hA⟩⟩
theorem FragLie.frame {w w' : World} {A B b o : Nat} {x : FragP} (h : FragLie w A B b o x) (hw : ∀ c, A ≤ c → c < B → w'.heap[c]? = w.heap[c]?) (he : ∀ j, o ≤ j → j < o + 3 → w'.cell? ⟨b, j, none⟩ = w.cell? ⟨b, j, none⟩) : FragLie w' A B b o x := by
  obtain ⟨a, cap, hc, hs⟩ := h.c2
  exact ⟨h.okn, h.oko, (he _ (by omega) (by omega)).trans h.c0, (he _ (by omega) (by omega)).trans h.c1, a, cap, (he _ (by omega) (by omega)).trans hc, hs.block hw⟩
theorem FragLie.wide {w : World} {A B A' B' b o : Nat} {x : FragP} (h : FragLie w A B b o x) (hA : A' ≤ A) (hB : B ≤ B') : FragLie w A' B' b o x := by
  obtain ⟨a, cap, hc, hs⟩ := h.c2
  exact ⟨h.okn, h.oko, h.c0, h.c1, a, cap, hc, hs.wide hA hB⟩
theorem FragsAt.block {w w' : World} {A B len : Nat} {a : Option Addr} {l : List FragP} (h : FragsAt w A B a len l) (hw : ∀ c, A ≤ c → c < B → w'.heap[c]? = w.heap[c]?) : FragsAt w' A B a len l :=
  ⟨h.1, h.2.1, h.2.2.imp id fun ⟨b, off, ha, hA, hB, hl⟩ => ⟨b, off, ha, hA, hB, fun i x hx => (hl i x hx).frame hw fun j _ _ => World.cell?_of_block (w := w) (hw b hA hB)⟩⟩
theorem FragsAt.below {w w' : World} {A B C len : Nat} {a : Option Addr} {l : List FragP} (h : FragsAt w A B a len l) (hB : B ≤ C) (g : Below C w w') : FragsAt w' A B a len l := h.block fun c _ hc => g.block c (by omega)
theorem FragsAt.wide {w : World} {A B A' B' len : Nat} {a : Option Addr} {l : List FragP} (h : FragsAt w A B a len l) (hA : A' ≤ A) (hB : B ≤ B') : FragsAt w A' B' a len l :=
  ⟨h.1, h.2.1, h.2.2.imp id fun ⟨b, off, ha, hb, hb', hl⟩ => ⟨b, off, ha, by omega, by omega, fun i x hx => (hl i x hx).wide hA hB⟩⟩
theorem FragsAt.at {w : World} {A B len : Nat} {a : Option Addr} {l : List FragP} (h : FragsAt w A B a len l) {i : Nat} (hi : i < len) :
    ∃ x b off a' cap, l[i]? = some x ∧ a = some ⟨b, off, none⟩ ∧ b < B ∧ (OkS x.name ∧ OkS x.on) ∧
      (w.cell? ⟨b, off + i * 3, none⟩ = some (.string x.name) ∧ w.cell? ⟨b, off + i * 3 + 1, none⟩ = some (.string x.on) ∧ w.cell? ⟨b, off + i * 3 + 2, none⟩ = some (.slice a' x.sels.len cap)) ∧ SelsAt w A B a' x.sels.len x.sels := by
  have hl : i < l.length := by rw [h.1]; exact hi
  have hx : l[i]? = some l[i] := List.getElem?_eq_getElem hl
  rcases h.2.2 with rfl | ⟨b, off, ha, hA, hB, hl⟩
  · simp at hl
  · have hf := hl i _ hx
    obtain ⟨a', cap, hc, hs⟩ := hf.c2
    exact ⟨_, b, off, a', cap, hx, ha, hB, ⟨hf.okn, hf.oko⟩, ⟨hf.c0, hf.c1, hc⟩, hs⟩
/-- What Frags weigh, beside how many there are. -/
def fragWt : List FragP → Nat
  | [] => 0
  | x :: l => x.name.size + x.on.size + x.sels.len + x.sels.wt + fragWt l
theorem fragWt_drop {l : List FragP} {i : Nat} {x : FragP} (h : l[i]? = some x) : fragWt (l.drop i) = x.name.size + x.on.size + x.sels.len + x.sels.wt + fragWt (l.drop (i + 1)) := by
  obtain ⟨hl, rfl⟩ := List.getElem?_eq_some_iff.1 h
  rw [List.drop_eq_getElem_cons hl]; rfl
theorem fragWt_mem {x : FragP} : ∀ {l : List FragP} {i : Nat}, l[i]? = some x → x.sels.len + x.sels.wt ≤ fragWt l
  | y :: l, 0, h => by cases h; simp only [fragWt]; omega
  | y :: l, i + 1, h => by have := fragWt_mem (l := l) (i := i) (by simpa using h); simp only [fragWt]; omega
/-- A Doc. -/
structure DocP where
  sels : Sels
  frags : List FragP
def DocP.wt (d : DocP) : Nat := d.sels.len + d.sels.wt + (d.frags.length + fragWt d.frags)
/-- A value that is the Doc d. -/
def DocAt (w : World) (A B : Nat) (v : Value) (d : DocP) : Prop := ∃ a ca b cb, v = .agg #[.slice a d.sels.len ca, .slice b d.frags.length cb] ∧ SelsAt w A B a d.sels.len d.sels ∧ FragsAt w A B b d.frags.length d.frags ∧ d.frags.length ≤ cb
theorem DocAt.below {w w' : World} {A B C : Nat} {v : Value} {d : DocP} (h : DocAt w A B v d) (hB : B ≤ C) (g : Below C w w') : DocAt w' A B v d := by
  obtain ⟨a, ca, b, cb, hv, h1, h2, h3⟩ := h
  exact ⟨a, ca, b, cb, hv, h1.below hB g, h2.below hB g, h3⟩
theorem DocAt.wide {w : World} {A B A' B' : Nat} {v : Value} {d : DocP} (h : DocAt w A B v d) (hA : A' ≤ A) (hB : B ≤ B') : DocAt w A' B' v d := by
  obtain ⟨a, ca, b, cb, hv, h1, h2, h3⟩ := h
  exact ⟨a, ca, b, cb, hv, h1.wide hA hB, h2.wide hA hB, h3⟩
theorem FragsAt.set {w : World} {A B len g j : Nat} {a : Option Addr} {s : List FragP} (h : FragsAt w A B a len s) (hg : g < A) (v : Value) : FragsAt (w.setCell ⟨g, j, none⟩ v) A B a len s :=
  h.block fun c hc _ => Go.Deep.blk_setCell_other _ _ _ _ (by show c ≠ g; omega)
theorem frag_small {l : List FragP} {x : FragP} (h : fragWt l ≤ 1048576) (hx : x ∈ l) : x.sels.len ≤ 1048576 ∧ x.sels.small := by
  obtain ⟨i, hi⟩ := List.mem_iff_getElem?.1 hx
  have := fragWt_mem hi
  exact ⟨by omega, Sels.small_of_wt (by omega)⟩
theorem FragsAt.drew {w : World} {A B len : Nat} {a : Option Addr} {s : List FragP} (h : FragsAt w A B a len s) : FragsAt w.drew A B a len s := FragsAt.block (w := w) (w' := w.drew) h (fun _ _ _ => rfl)
/-- What a walk knows of its own Doc parameter, behind one call more. -/
theorem kstep {w wr w' : World} {v0 v1 : Value} (hb : Below w.heap.size w wr) (hz : w.heap.size < wr.heap.size) (k0 : wr.cell? ⟨w.heap.size, 0, none⟩ = some v0) (k1 : wr.cell? ⟨w.heap.size, 1, none⟩ = some v1) (h : Below wr.heap.size wr w') :
    Below w.heap.size w w' ∧ w.heap.size < w'.heap.size ∧ w'.cell? ⟨w.heap.size, 0, none⟩ = some v0 ∧ w'.cell? ⟨w.heap.size, 1, none⟩ = some v1 :=
  ⟨hb.trans (h.mono hb.size), Nat.lt_of_lt_of_le hz h.size, (h.cell (p := ⟨w.heap.size, 0, none⟩) hz).trans k0, (h.cell (p := ⟨w.heap.size, 1, none⟩) hz).trans k1⟩
theorem kcell {wr w' : World} {g j : Nat} {v : Value} (h : Below wr.heap.size wr w') (hg : g < wr.heap.size) (k : wr.cell? ⟨g, j, none⟩ = some v) : w'.cell? ⟨g, j, none⟩ = some v := (h.cell (p := ⟨g, j, none⟩) hg).trans k
end Go.Proofs.YtceabbbmgfeofaaGreatDoor.Selss
