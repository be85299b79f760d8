/-
  Selections as a plain tree (first child, next one), and what it means that they lie in memory: a row of five cells each. Conditions: none.
-/
import Derived.Test.YthdncjdopejkkaaDoorRows
import Derived.WalkKit
import Derived.Below
namespace Go.Proofs.YthdncjdopejkkaaDoor.Selss
open Go.RowKit
set_option linter.unusedVariables false

/-- Selections: none; or one (its kind, key, name, first, what is within), and the rest. -/
inductive Sels where
  | nil : Sels
  | cons (kind : Int) (key name : ByteArray) (first : Int) (sub rest : Sels) : Sels

namespace Sels
def len : Sels → Nat
  | nil => 0
  | cons _ _ _ _ _ r => r.len + 1
/-- All of them, within others too. -/
def all : Sels → Nat
  | nil => 0
  | cons _ _ _ _ s r => s.all + r.all + 1
theorem len_le_all : ∀ s : Sels, s.len ≤ s.all
  | nil => Nat.le_refl _
  | cons _ _ _ _ s r => by have := len_le_all r; simp only [len, all]; omega
def drop : Nat → Sels → Sels
  | 0, s => s
  | _ + 1, nil => nil
  | i + 1, cons _ _ _ _ _ r => drop i r
theorem drop_zero (s : Sels) : drop 0 s = s := rfl
theorem drop_len : ∀ (i : Nat) (s : Sels), (drop i s).len = s.len - i
  | 0, s => rfl
  | i + 1, nil => by simp [drop, len]
  | i + 1, cons _ _ _ _ _ r => by simp only [drop, len]; rw [drop_len i r]; omega
theorem drop_all : ∀ (i : Nat) (s : Sels), (drop i s).all ≤ s.all
  | 0, s => Nat.le_refl _
  | i + 1, nil => Nat.le_refl _
  | i + 1, cons _ _ _ _ _ r => by have := drop_all i r; simp only [drop, all]; omega
theorem drop_succ : ∀ (i : Nat) (s : Sels) {k : Int} {key nm : ByteArray} {f : Int} {u r : Sels}, drop i s = cons k key nm f u r → drop (i + 1) s = r
  | 0, nil, _, _, _, _, _, _, h => by cases h
  | 0, cons _ _ _ _ _ _, _, _, _, _, _, _, h => by cases h; rfl
  | i + 1, nil, _, _, _, _, _, _, h => by cases h
  | i + 1, cons _ _ _ _ _ r, _, _, _, _, _, _, h => drop_succ i r h
theorem drop_at {i : Nat} {s : Sels} (h : i < s.len) : ∃ k key nm f u r, drop i s = cons k key nm f u r := by
  have hl := drop_len i s
  cases hd : drop i s with
  | nil => rw [hd] at hl; simp only [len] at hl; omega
  | cons k key nm f u r => exact ⟨k, key, nm, f, u, r, rfl⟩
theorem drop_end {i : Nat} {s : Sels} (h : s.len ≤ i) : drop i s = nil := by
  have hl := drop_len i s
  cases hd : drop i s with
  | nil => rfl
  | cons k key nm f u r => rw [hd] at hl; simp only [len] at hl; omega
end Sels

/-- A number, a text of a field, as they may be. -/
def OkI (n : Int) : Prop := -9223372036854775808 ≤ n ∧ n ≤ 9223372036854775807
def OkS (b : ByteArray) : Prop := b.size ≤ 9223372036854775807
/-- The selections s lie in block b from cell off on, b below B; what is within them lies in blocks from A on, below B. -/
def Lie (w : World) (A B : Nat) : Sels → Nat → Nat → Prop
  | .nil, _, _ => True
  | .cons k key nm f u r, b, off =>
    (OkI k ∧ OkS key ∧ OkS nm ∧ OkI f) ∧ b < B ∧
    w.cell? ⟨b, off, none⟩ = some (.int .i64 k) ∧ w.cell? ⟨b, off + 1, none⟩ = some (.string key) ∧ w.cell? ⟨b, off + 2, none⟩ = some (.string nm) ∧ w.cell? ⟨b, off + 3, none⟩ = some (.int .i64 f) ∧
    (∃ (a : Option Addr) (cap : Nat), w.cell? ⟨b, off + 4, none⟩ = some (.slice a u.len cap) ∧ u.len ≤ 9223372036854775807 ∧ (u = .nil ∨ ∃ c o, a = some ⟨c, o, none⟩ ∧ A ≤ c ∧ Lie w A B u c o)) ∧
    Lie w A B r b (off + 5)
/-- A slice that holds the selections s. -/
def SelsAt (w : World) (A B : Nat) (a : Option Addr) (len : Nat) (s : Sels) : Prop := s.len = len ∧ s.len ≤ 9223372036854775807 ∧ (s = .nil ∨ ∃ b off, a = some ⟨b, off, none⟩ ∧ A ≤ b ∧ Lie w A B s b off)

/-- What lies so is read from its own cells of block b, and from the blocks from A to B. -/
theorem Lie.frame {w w' : World} {A B : Nat} (hw : ∀ c, A ≤ c → c < B → w'.heap[c]? = w.heap[c]?) : ∀ {s : Sels} {b off : Nat}, (∀ j, off ≤ j → j < off + s.len * 5 → w'.cell? ⟨b, j, none⟩ = w.cell? ⟨b, j, none⟩) → Lie w A B s b off → Lie w' A B s b off
  | .nil, _, _, _, _ => trivial
  | .cons k key nm f u r, b, off, e, ⟨hk, hb, h0, h1, h2, h3, ⟨a, cap, h4, hul, hu⟩, hr⟩ => by
    simp only [Sels.len] at e
    refine ⟨hk, hb, (e _ (by omega) (by omega)).trans h0, (e _ (by omega) (by omega)).trans h1, (e _ (by omega) (by omega)).trans h2, (e _ (by omega) (by omega)).trans h3, ⟨a, cap, (e _ (by omega) (by omega)).trans h4, hul, ?_⟩, Lie.frame hw (fun j hj hj' => e j (by omega) (by omega)) hr⟩
    rcases hu with h | ⟨c, o, ha, hc, h⟩
    · exact .inl h
    · refine .inr ⟨c, o, ha, hc, ?_⟩
      cases u with
      | nil => trivial
      | cons k' key' nm' f' u' r' => exact Lie.frame hw (fun j _ _ => World.cell?_of_block (w := w) (hw c hc h.2.1)) h
theorem Lie.block {w w' : World} {A B : Nat} (hw : ∀ c, A ≤ c → c < B → w'.heap[c]? = w.heap[c]?) {s : Sels} {b off : Nat} (hA : A ≤ b) (h : Lie w A B s b off) : Lie w' A B s b off := by
  cases s with
  | nil => trivial
  | cons k key nm f u r => exact Lie.frame hw (fun j _ _ => World.cell?_of_block (w := w) (hw b hA h.2.1)) h
theorem Lie.wide {w : World} {A B A' B' : Nat} (hA : A' ≤ A) (hB : B ≤ B') : ∀ {s : Sels} {b off : Nat}, Lie w A B s b off → Lie w A' B' s b off
  | .nil, _, _, _ => trivial
  | .cons k key nm f u r, b, off, ⟨hk, hb, h0, h1, h2, h3, ⟨a, cap, h4, hul, hu⟩, hr⟩ => by
    refine ⟨hk, by omega, h0, h1, h2, h3, ⟨a, cap, h4, hul, ?_⟩, Lie.wide hA hB hr⟩
    rcases hu with h | ⟨c, o, ha, hc, h⟩
    · exact .inl h
    · exact .inr ⟨c, o, ha, by omega, Lie.wide hA hB h⟩
theorem Lie.drop {w : World} {A B : Nat} : ∀ (i : Nat) {s : Sels} {b off : Nat}, Lie w A B s b off → Lie w A B (s.drop i) b (off + i * 5)
  | 0, s, b, off, h => by rw [Nat.zero_mul, Nat.add_zero]; exact h
  | i + 1, .nil, b, off, h => trivial
  | i + 1, .cons k key nm f u r, b, off, ⟨_, _, _, _, _, _, _, hr⟩ => by
    have := Lie.drop i hr
    have e : off + (i + 1) * 5 = off + 5 + i * 5 := by omega
    rw [e]; exact this
theorem SelsAt.below {w w' : World} {A B C len : Nat} {a : Option Addr} {s : Sels} (h : SelsAt w A B a len s) (hB : B ≤ C) (g : Below C w w') : SelsAt w' A B a len s :=
  ⟨h.1, h.2.1, h.2.2.imp id fun ⟨b, off, ha, hA, hl⟩ => ⟨b, off, ha, hA, hl.block (fun c _ hc => g.block c (by omega)) hA⟩⟩
theorem SelsAt.wide {w : World} {A B A' B' len : Nat} {a : Option Addr} {s : Sels} (h : SelsAt w A B a len s) (hA : A' ≤ A) (hB : B ≤ B') : SelsAt w A' B' a len s :=
  ⟨h.1, h.2.1, h.2.2.imp id fun ⟨b, off, ha, hb, hl⟩ => ⟨b, off, ha, by omega, hl.wide hA hB⟩⟩
/-- The one at place i. -/
theorem SelsAt.at {w : World} {A B len : Nat} {a : Option Addr} {s : Sels} (h : SelsAt w A B a len s) {i : Nat} (hi : i < len) :
    ∃ k key nm f u r b off a' cap, s.drop i = .cons k key nm f u r ∧ a = some ⟨b, off, none⟩ ∧ b < B ∧ (OkI k ∧ OkS key ∧ OkS nm ∧ OkI f) ∧
      (w.cell? ⟨b, off + i * 5, none⟩ = some (.int .i64 k) ∧ w.cell? ⟨b, off + i * 5 + 1, none⟩ = some (.string key) ∧ w.cell? ⟨b, off + i * 5 + 2, none⟩ = some (.string nm) ∧ w.cell? ⟨b, off + i * 5 + 3, none⟩ = some (.int .i64 f) ∧ w.cell? ⟨b, off + i * 5 + 4, none⟩ = some (.slice a' u.len cap)) ∧ SelsAt w A B a' u.len u := by
  obtain ⟨k, key, nm, f, u, r, hd⟩ := Sels.drop_at (show i < s.len by rw [h.1]; exact hi)
  rcases h.2.2 with rfl | ⟨b, off, ha, hA, hl⟩
  · have := h.1; simp only [Sels.len] at this; omega
  · have hx := Lie.drop i hl
    rw [hd] at hx
    obtain ⟨hk, hb, h0, h1, h2, h3, ⟨a', cap, h4, hul, hu⟩, hr⟩ := hx
    exact ⟨k, key, nm, f, u, r, b, off, a', cap, hd, ha, hb, hk, ⟨h0, h1, h2, h3, h4⟩, rfl, hul, hu⟩
end Go.Proofs.YthdncjdopejkkaaDoor.Selss
