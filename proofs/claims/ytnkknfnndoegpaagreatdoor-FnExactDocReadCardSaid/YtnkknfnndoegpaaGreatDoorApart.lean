/-
  Selections, Frags, a Doc in memory, each list in blocks of its own; what of that lasts when memory changes; no program. Conditions: as each theorem says.
-/
import Derived.Test.YtnkknfnndoegpaaGreatDoorRows
import Derived.Test.YtnkknfnndoegpaaGreatDoorFragM
namespace Go.Proofs.YtnkknfnndoegpaaGreatDoor.Selss
open Go.RowKit
set_option linter.unusedVariables false
set_option maxRecDepth 100000

/-- A block of cells that may be written. -/
def Free (w : World) (b : Nat) : Prop := ∃ C T, w.heap[b]? = some (.cells C T (0, 0))
theorem Free.of {w w' : World} {b : Nat} (h : Free w b) (e : w'.heap[b]? = w.heap[b]?) : Free w' b := by
  obtain ⟨C, T, hc⟩ := h; exact ⟨C, T, e.trans hc⟩
theorem Free.frozen {w : World} {b : Nat} (h : Free w b) (i : Nat) : w.frozen? ⟨b, i, none⟩ = false := by
  obtain ⟨C, T, hc⟩ := h; exact frozen_of_row w b i _ _ hc
theorem Free.set {w : World} {b : Nat} (h : Free w b) (g i : Nat) (v : Value) : Free (w.setCell ⟨g, i, none⟩ v) b := by
  obtain ⟨C, T, hc⟩ := h
  by_cases e : b = g
  · subst e; exact ⟨_, T, heap_setCell_same w b i _ _ v hc⟩
  · exact ⟨C, T, (Go.Deep.blk_setCell_other _ ⟨g, i, none⟩ _ _ e).trans hc⟩
/-- The selections s lie in block b from cell off on; what is within each lies in blocks of its own, from A on, below B, one behind the other. -/
def LieX (w : World) : Sels → Nat → Nat → Nat → Nat → Prop
  | .nil, A, B, _, _ => A ≤ B
  | .cons k key nm f u r, A, B, b, off =>
    (OkI k ∧ OkS key ∧ OkS nm ∧ OkI f) ∧ Free w b ∧
    w.cell? ⟨b, off, none⟩ = some (.int .i64 k) ∧ w.cell? ⟨b, off + 1, none⟩ = some (.string key) ∧ w.cell? ⟨b, off + 2, none⟩ = some (.string nm) ∧ w.cell? ⟨b, off + 3, none⟩ = some (.int .i64 f) ∧
    ∃ (a : Option Addr) (cap lo hi : Nat), w.cell? ⟨b, off + 4, none⟩ = some (.slice a u.len cap) ∧ u.len ≤ 9223372036854775807 ∧ A ≤ lo ∧ lo ≤ hi ∧ hi ≤ B ∧ (b < lo ∨ hi ≤ b) ∧
      (u = .nil ∨ ∃ c o, a = some ⟨c, o, none⟩ ∧ lo ≤ c ∧ c < hi ∧ LieX w u lo hi c o) ∧ LieX w r hi B b (off + 5)
theorem LieX.le {w : World} : ∀ {s : Sels} {A B b off : Nat}, LieX w s A B b off → A ≤ B
  | .nil, _, _, _, _, h => h
  | .cons k key nm f u r, A, B, b, off, ⟨_, _, _, _, _, _, a, cap, lo, hi, _, _, h1, h2, h3, _⟩ => by omega
/-- A slice that holds the selections s, apart. -/
def SelsX (w : World) (A B : Nat) (a : Option Addr) (len : Nat) (s : Sels) : Prop :=
  s.len = len ∧ s.len ≤ 9223372036854775807 ∧ A ≤ B ∧ (s = .nil ∨ ∃ b off, a = some ⟨b, off, none⟩ ∧ A ≤ b ∧ b < B ∧ LieX w s A B b off)

theorem LieX.lie {w : World} {A' B' : Nat} : ∀ {s : Sels} {A B b off : Nat}, LieX w s A B b off → b < B' → A' ≤ A → B ≤ B' → Lie w A' B' s b off
  | .nil, _, _, _, _, _, _, _, _ => trivial
  | .cons k key nm f u r, A, B, b, off, ⟨ok, hb, h0, h1, h2, h3, a, cap, lo, hi, h4, h5, g1, g2, g3, g4, hu, hr⟩, hlt, hA, hB => by
    refine ⟨ok, hlt, h0, h1, h2, h3, ⟨a, cap, h4, h5, ?_⟩, LieX.lie hr hlt (by omega) hB⟩
    rcases hu with h | ⟨c, o, e, c1, c2, hu⟩
    · exact .inl h
    · exact .inr ⟨c, o, e, by omega, LieX.lie hu (by omega) (by omega) (by omega)⟩
theorem SelsX.sels {w : World} {A B len : Nat} {a : Option Addr} {s : Sels} (h : SelsX w A B a len s) : SelsAt w A B a len s := by
  obtain ⟨h1, h2, _, h3⟩ := h
  exact ⟨h1, h2, h3.imp id fun ⟨b, off, e, hA, hB, hl⟩ => ⟨b, off, e, hA, hl.lie hB (Nat.le_refl _) (Nat.le_refl _)⟩⟩
/-- What is read: the rows' own cells in block b, and the blocks from A to B but b. -/
theorem LieX.frame {w w' : World} : ∀ {s : Sels} {A B b off : Nat}, (∀ c, A ≤ c → c < B → c ≠ b → w'.heap[c]? = w.heap[c]?) → (Free w b → Free w' b) → (∀ j, off ≤ j → j < off + s.len * 5 → w'.cell? ⟨b, j, none⟩ = w.cell? ⟨b, j, none⟩) → LieX w s A B b off → LieX w' s A B b off
  | .nil, _, _, _, _, _, _, _, h => h
  | .cons k key nm f u r, A, B, b, off, hw, hf, he, ⟨ok, hb, h0, h1, h2, h3, a, cap, lo, hi, h4, h5, g1, g2, g3, g4, hu, hr⟩ => by
    simp only [Sels.len] at he
    refine ⟨ok, hf hb, (he _ (by omega) (by omega)).trans h0, (he _ (by omega) (by omega)).trans h1, (he _ (by omega) (by omega)).trans h2, (he _ (by omega) (by omega)).trans h3, a, cap, lo, hi, (he _ (by omega) (by omega)).trans h4, h5, g1, g2, g3, g4, ?_, LieX.frame (fun c c1 c2 c3 => hw c (by have := hr.le; omega) c2 c3) hf (fun j j1 j2 => he j (by omega) (by omega)) hr⟩
    rcases hu with h | ⟨c, o, e, c1, c2, hu⟩
    · exact .inl h
    · have hc : ∀ d, lo ≤ d → d < hi → w'.heap[d]? = w.heap[d]? := fun d d1 d2 => hw d (by omega) (by omega) (by omega)
      exact .inr ⟨c, o, e, c1, c2, LieX.frame (fun d d1 d2 _ => hc d d1 d2) (fun hx => hx.of (hc c c1 c2)) (fun j _ _ => World.cell?_of_block (w := w) (hc c c1 c2)) hu⟩
theorem LieX.block {w w' : World} {s : Sels} {A B b off : Nat} (h : LieX w s A B b off) (hA : A ≤ b) (hB : b < B) (hw : ∀ c, A ≤ c → c < B → w'.heap[c]? = w.heap[c]?) : LieX w' s A B b off :=
  h.frame (fun c c1 c2 _ => hw c c1 c2) (fun hx => hx.of (hw b hA hB)) (fun j _ _ => World.cell?_of_block (w := w) (hw b hA hB))
theorem SelsX.block {w w' : World} {A B len : Nat} {a : Option Addr} {s : Sels} (h : SelsX w A B a len s) (hw : ∀ c, A ≤ c → c < B → w'.heap[c]? = w.heap[c]?) : SelsX w' A B a len s :=
  ⟨h.1, h.2.1, h.2.2.1, h.2.2.2.imp id fun ⟨b, off, e, hA, hB, hl⟩ => ⟨b, off, e, hA, hB, hl.block hA hB hw⟩⟩
theorem LieX.wide {w : World} : ∀ {s : Sels} {A B A' B' b off : Nat}, LieX w s A B b off → A' ≤ A → B ≤ B' → LieX w s A' B' b off
  | .nil, A, B, A', B', _, _, h, hA, hB => by have : A ≤ B := h; show A' ≤ B'; omega
  | .cons k key nm f u r, A, B, A', B', b, off, ⟨ok, hb, h0, h1, h2, h3, a, cap, lo, hi, h4, h5, g1, g2, g3, g4, hu, hr⟩, hA, hB =>
    ⟨ok, hb, h0, h1, h2, h3, a, cap, lo, hi, h4, h5, by omega, g2, by omega, g4, hu, LieX.wide hr (Nat.le_refl _) hB⟩
theorem SelsX.wide {w : World} {A B A' B' len : Nat} {a : Option Addr} {s : Sels} (h : SelsX w A B a len s) (hA : A' ≤ A) (hB : B ≤ B') : SelsX w A' B' a len s :=
  ⟨h.1, h.2.1, by have := h.2.2.1; omega, h.2.2.2.imp id fun ⟨b, off, e, h1, h2, hl⟩ => ⟨b, off, e, by omega, by omega, hl.wide hA hB⟩⟩
theorem SelsX.below {w w' : World} {A B C len : Nat} {a : Option Addr} {s : Sels} (h : SelsX w A B a len s) (hB : B ≤ C) (g : Below C w w') : SelsX w' A B a len s :=
  h.block fun c _ hc => g.block c (by omega)
def Sels.app : Sels → Sels → Sels
  | .nil, t => t
  | .cons k key nm f u r, t => .cons k key nm f u (r.app t)
theorem Sels.app_len : ∀ (s t : Sels), (s.app t).len = s.len + t.len
  | .nil, t => by simp [Sels.app, Sels.len]
  | .cons _ _ _ _ _ r, t => by simp only [Sels.app, Sels.len, Sels.app_len r t]; omega
theorem LieX.split {w : World} : ∀ {s : Sels} {A B b off : Nat} (i : Nat), LieX w s A B b off → ∃ M, LieX w (s.take i) A M b off ∧ LieX w (s.drop i) M B b (off + i * 5)
  | s, A, B, b, off, 0, h => ⟨A, by cases s <;> exact Nat.le_refl _, by rw [Nat.zero_mul, Nat.add_zero]; exact h⟩
  | .nil, A, B, b, off, i + 1, h => ⟨A, Nat.le_refl _, h⟩
  | .cons k key nm f u r, A, B, b, off, i + 1, ⟨ok, hb, h0, h1, h2, h3, a, cap, lo, hi, h4, h5, g1, g2, g3, g4, hu, hr⟩ => by
    obtain ⟨M, e1, e2⟩ := LieX.split i hr
    refine ⟨M, ⟨ok, hb, h0, h1, h2, h3, a, cap, lo, hi, h4, h5, g1, g2, e1.le, g4, hu, e1⟩, ?_⟩
    have e : off + (i + 1) * 5 = off + 5 + i * 5 := by omega
    rw [e]; exact e2
theorem LieX.join {w : World} : ∀ {p t : Sels} {A M B b off : Nat}, LieX w p A M b off → LieX w t M B b (off + p.len * 5) → LieX w (p.app t) A B b off
  | .nil, t, A, M, B, b, off, h1, h2 => by
    rw [Sels.len, Nat.zero_mul, Nat.add_zero] at h2
    exact h2.wide h1 (Nat.le_refl _)
  | .cons k key nm f u r, t, A, M, B, b, off, ⟨ok, hb, h0, h1, h2, h3, a, cap, lo, hi, h4, h5, g1, g2, g3, g4, hu, hr⟩, ht => by
    have e : off + (Sels.cons k key nm f u r).len * 5 = off + 5 + r.len * 5 := by simp only [Sels.len]; omega
    rw [e] at ht
    exact ⟨ok, hb, h0, h1, h2, h3, a, cap, lo, hi, h4, h5, g1, g2, by have := ht.le; omega, g4, hu, LieX.join hr ht⟩

/-! ### Frags, a Doc -/
def LieFX (w : World) : List FragP → Nat → Nat → Nat → Nat → Prop
  | [], A, B, _, _ => A ≤ B
  | x :: l, A, B, b, off =>
    (OkS x.name ∧ OkS x.on) ∧ Free w b ∧ w.cell? ⟨b, off, none⟩ = some (.string x.name) ∧ w.cell? ⟨b, off + 1, none⟩ = some (.string x.on) ∧
    ∃ (a : Option Addr) (cap lo hi : Nat), w.cell? ⟨b, off + 2, none⟩ = some (.slice a x.sels.len cap) ∧ A ≤ lo ∧ hi ≤ B ∧ (b < lo ∨ hi ≤ b) ∧ SelsX w lo hi a x.sels.len x.sels ∧ LieFX w l hi B b (off + 3)
theorem LieFX.le {w : World} : ∀ {s : List FragP} {A B b off : Nat}, LieFX w s A B b off → A ≤ B
  | [], _, _, _, _, h => h
  | x :: l, A, B, b, off, ⟨_, _, _, _, a, cap, lo, hi, _, h1, h3, _, h2, _⟩ => by have := h2.2.2.1; omega
def FragsX (w : World) (A B : Nat) (a : Option Addr) (len : Nat) (l : List FragP) : Prop :=
  l.length = len ∧ len ≤ 9223372036854775807 ∧ A ≤ B ∧ (l = [] ∨ ∃ b off, a = some ⟨b, off, none⟩ ∧ A ≤ b ∧ b < B ∧ LieFX w l A B b off)
theorem LieFX.frags {w : World} {A' B' : Nat} : ∀ {l : List FragP} {A B b off : Nat}, LieFX w l A B b off → b < B' → A' ≤ A → B ≤ B' → ∀ i x, l[i]? = some x → FragLie w A' B' b (off + i * 3) x
  | [], _, _, _, _, _, _, _, _, i, x, hx => by simp at hx
  | y :: l, A, B, b, off, ⟨ok, hb, h0, h1, a, cap, lo, hi, h2, g1, g3, g4, hs, hr⟩, hlt, hA, hB, i, x, hx => by
    have hle := hs.2.2.1
    cases i with
    | zero =>
      simp at hx; subst hx
      rw [Nat.zero_mul, Nat.add_zero]
      exact ⟨ok.1, ok.2, h0, h1, a, cap, h2, hs.sels.wide (by omega) (by omega)⟩
    | succ i =>
      have := LieFX.frags (A' := A') hr hlt (by omega) hB i x (by simpa using hx)
      have e : off + (i + 1) * 3 = off + 3 + i * 3 := by omega
      rw [e]; exact this
theorem FragsX.frags {w : World} {A B len : Nat} {a : Option Addr} {l : List FragP} (h : FragsX w A B a len l) : FragsAt w A B a len l := by
  obtain ⟨h1, h2, _, h3⟩ := h
  exact ⟨h1, h2, h3.imp id fun ⟨b, off, e, hA, hB, hl⟩ => ⟨b, off, e, hA, hB, hl.frags hB (Nat.le_refl _) (Nat.le_refl _)⟩⟩
theorem LieFX.frame {w w' : World} : ∀ {s : List FragP} {A B b off : Nat}, (∀ c, A ≤ c → c < B → c ≠ b → w'.heap[c]? = w.heap[c]?) → (Free w b → Free w' b) → (∀ j, off ≤ j → j < off + s.length * 3 → w'.cell? ⟨b, j, none⟩ = w.cell? ⟨b, j, none⟩) → LieFX w s A B b off → LieFX w' s A B b off
  | [], _, _, _, _, _, _, _, h => h
  | x :: l, A, B, b, off, hw, hf, he, ⟨ok, hb, h0, h1, a, cap, lo, hi, h2, g1, g3, g4, hs, hr⟩ => by
    simp only [List.length_cons] at he
    have hle := hs.2.2.1
    have hle2 := hr.le
    exact ⟨ok, hf hb, (he _ (by omega) (by omega)).trans h0, (he _ (by omega) (by omega)).trans h1, a, cap, lo, hi, (he _ (by omega) (by omega)).trans h2, g1, g3, g4, hs.block (fun d d1 d2 => hw d (by omega) (by omega) (by omega)), LieFX.frame (fun c c1 c2 c3 => hw c (by omega) c2 c3) hf (fun j j1 j2 => he j (by omega) (by omega)) hr⟩
theorem FragsX.block {w w' : World} {A B len : Nat} {a : Option Addr} {s : List FragP} (h : FragsX w A B a len s) (hw : ∀ c, A ≤ c → c < B → w'.heap[c]? = w.heap[c]?) : FragsX w' A B a len s :=
  ⟨h.1, h.2.1, h.2.2.1, h.2.2.2.imp id fun ⟨b, off, e, hA, hB, hl⟩ => ⟨b, off, e, hA, hB, hl.frame (fun c c1 c2 _ => hw c c1 c2) (fun hx => hx.of (hw b hA hB)) (fun j _ _ => World.cell?_of_block (w := w) (hw b hA hB))⟩⟩
theorem FragsX.below {w w' : World} {A B C len : Nat} {a : Option Addr} {s : List FragP} (h : FragsX w A B a len s) (hB : B ≤ C) (g : Below C w w') : FragsX w' A B a len s := h.block fun c _ hc => g.block c (by omega)
theorem LieFX.wide {w : World} : ∀ {s : List FragP} {A B A' B' b off : Nat}, LieFX w s A B b off → A' ≤ A → B ≤ B' → LieFX w s A' B' b off
  | [], A, B, A', B', _, _, h, hA, hB => by have : A ≤ B := h; show A' ≤ B'; omega
  | x :: l, A, B, A', B', b, off, ⟨ok, hb, h0, h1, a, cap, lo, hi, h2, g1, g3, g4, hs, hr⟩, hA, hB =>
    ⟨ok, hb, h0, h1, a, cap, lo, hi, h2, by omega, by omega, g4, hs, LieFX.wide hr (Nat.le_refl _) hB⟩
theorem FragsX.wide {w : World} {A B A' B' len : Nat} {a : Option Addr} {s : List FragP} (h : FragsX w A B a len s) (hA : A' ≤ A) (hB : B ≤ B') : FragsX w A' B' a len s :=
  ⟨h.1, h.2.1, by have := h.2.2.1; omega, h.2.2.2.imp id fun ⟨b, off, e, h1, h2, hl⟩ => ⟨b, off, e, by omega, by omega, hl.wide hA hB⟩⟩
theorem LieFX.split {w : World} : ∀ {s : List FragP} {A B b off : Nat} (i : Nat), LieFX w s A B b off → ∃ M, LieFX w (s.take i) A M b off ∧ LieFX w (s.drop i) M B b (off + i * 3)
  | s, A, B, b, off, 0, h => ⟨A, by rw [List.take_zero]; exact Nat.le_refl _, by rw [Nat.zero_mul, Nat.add_zero]; exact h⟩
  | [], A, B, b, off, i + 1, h => ⟨A, by rw [List.take_nil]; exact Nat.le_refl _, h⟩
  | x :: l, A, B, b, off, i + 1, ⟨ok, hb, h0, h1, a, cap, lo, hi, h2, g1, g3, g4, hs, hr⟩ => by
    obtain ⟨M, e1, e2⟩ := LieFX.split i hr
    refine ⟨M, ⟨ok, hb, h0, h1, a, cap, lo, hi, h2, g1, e1.le, g4, hs, e1⟩, ?_⟩
    have e : off + (i + 1) * 3 = off + 3 + i * 3 := by omega
    rw [e]; exact e2
theorem LieFX.join {w : World} : ∀ {p t : List FragP} {A M B b off : Nat}, LieFX w p A M b off → LieFX w t M B b (off + p.length * 3) → LieFX w (p ++ t) A B b off
  | [], t, A, M, B, b, off, h1, h2 => by
    rw [List.length_nil, Nat.zero_mul, Nat.add_zero] at h2
    exact h2.wide h1 (Nat.le_refl _)
  | x :: l, t, A, M, B, b, off, ⟨ok, hb, h0, h1, a, cap, lo, hi, h2, g1, g3, g4, hs, hr⟩, ht => by
    have e : off + (x :: l).length * 3 = off + 3 + l.length * 3 := by simp only [List.length_cons]; omega
    rw [e] at ht
    exact ⟨ok, hb, h0, h1, a, cap, lo, hi, h2, g1, by have := ht.le; have := hr.le; omega, g4, hs, LieFX.join hr ht⟩
/-- A Doc, apart. -/
def DocX (w : World) (A B : Nat) (v : Value) (d : DocP) : Prop := ∃ a ca b cb M, v = .agg #[.slice a d.sels.len ca, .slice b d.frags.length cb] ∧ SelsX w A M a d.sels.len d.sels ∧ FragsX w M B b d.frags.length d.frags ∧ d.frags.length ≤ cb
theorem DocX.doc {w : World} {A B : Nat} {v : Value} {d : DocP} (h : DocX w A B v d) : DocAt w A B v d := by
  obtain ⟨a, ca, b, cb, M, hv, h1, h2, h3⟩ := h
  exact ⟨a, ca, b, cb, hv, h1.sels.wide (Nat.le_refl _) h2.2.2.1, h2.frags.wide h1.2.2.1 (Nat.le_refl _), h3⟩
theorem DocX.block {w w' : World} {A B : Nat} {v : Value} {d : DocP} (h : DocX w A B v d) (hw : ∀ c, A ≤ c → c < B → w'.heap[c]? = w.heap[c]?) : DocX w' A B v d := by
  obtain ⟨a, ca, b, cb, M, hv, h1, h2, h3⟩ := h
  have e1 := h1.2.2.1
  have e2 := h2.2.2.1
  exact ⟨a, ca, b, cb, M, hv, h1.block (fun c c1 c2 => hw c c1 (by omega)), h2.block (fun c c1 c2 => hw c (by omega) c2), h3⟩
theorem DocX.below {w w' : World} {A B C : Nat} {v : Value} {d : DocP} (h : DocX w A B v d) (hB : B ≤ C) (g : Below C w w') : DocX w' A B v d := h.block fun c _ hc => g.block c (by omega)
theorem DocX.wide {w : World} {A B A' B' : Nat} {v : Value} {d : DocP} (h : DocX w A B v d) (hA : A' ≤ A) (hB : B ≤ B') : DocX w A' B' v d := by
  obtain ⟨a, ca, b, cb, M, hv, h1, h2, h3⟩ := h
  exact ⟨a, ca, b, cb, M, hv, h1.wide hA (Nat.le_refl _), h2.wide (Nat.le_refl _) hB, h3⟩

/-- Of what was there the blocks from A to B alone may have changed. -/
structure Within (A B : Nat) (w w' : World) : Prop where
  os : w'.os = w.os
  tape : w'.tape = w.tape
  output : w'.output = w.output
  size : w.heap.size ≤ w'.heap.size
  block : ∀ c, c < w.heap.size → (c < A ∨ B ≤ c) → w'.heap[c]? = w.heap[c]?
theorem Within.refl (A B : Nat) (w : World) : Within A B w w := ⟨rfl, rfl, rfl, Nat.le_refl _, fun _ _ _ => rfl⟩
theorem Within.trans {A B : Nat} {a b c : World} (h : Within A B a b) (g : Within A B b c) : Within A B a c :=
  ⟨g.os.trans h.os, g.tape.trans h.tape, g.output.trans h.output, Nat.le_trans h.size g.size, fun k hk hp => (g.block k (Nat.lt_of_lt_of_le hk h.size) hp).trans (h.block k hk hp)⟩
theorem Within.wide {A B A' B' : Nat} {a b : World} (h : Within A B a b) (hA : A' ≤ A) (hB : B ≤ B') : Within A' B' a b :=
  ⟨h.os, h.tape, h.output, h.size, fun k hk hp => h.block k hk (by omega)⟩
theorem Within.of_below {A B : Nat} {w w' : World} (g : Below w.heap.size w w') : Within A B w w' := ⟨g.os, g.tape, g.output, g.size, fun k hk _ => g.block k hk⟩
theorem Within.set {A B : Nat} {a w : World} (h : Within A B a w) {p : Addr} (h1 : A ≤ p.block) (h2 : p.block < B) (v : Value) : Within A B a (w.setCell p v) :=
  ⟨h.os, h.tape, h.output, by simpa using h.size, fun k hk hp => (Go.Deep.blk_setCell_other _ _ _ _ (by omega)).trans (h.block k hk hp)⟩
theorem Within.below {A B C : Nat} {w w' : World} (h : Within A B w w') (hC : C ≤ A) (hs : C ≤ w.heap.size) : Below C w w' := ⟨h.os, h.tape, h.output, h.size, fun k hk => h.block k (by omega) (by omega)⟩
end Go.Proofs.YtnkknfnndoegpaaGreatDoor.Selss
