/-
  One thing of a row in memory is written anew: the row holds it, and all else as before; no program. Conditions: as each theorem says.
-/
import Derived.Test.YtcogbmcnljlnaaaRows
import Derived.Test.YtcogbmcnljlnaaaSch
namespace Go.Proofs.Ytcogbmcnljlnaaa.Rw
open Go.RowKit
set_option linter.unusedVariables false
set_option maxRecDepth 100000

section
variable {α : Type} {n : Nat} {LX : World → Nat → Nat → Nat → Nat → α → Prop}
theorem LieRX.put (P : Lies n LX) {w : World} : ∀ {l : List α} {A B b off i : Nat} {x : α}, LieRX n LX w l A B b off → l[i]? = some x →
    ∃ lo hi, A ≤ lo ∧ lo ≤ hi ∧ hi ≤ B ∧ (b < lo ∨ hi ≤ b) ∧ Free w b ∧ LX w lo hi b (off + i * n) x ∧
      ∀ (w' : World) (y : α), (∀ c, A ≤ c → c < B → c ≠ b → (c < lo ∨ hi ≤ c) → w'.heap[c]? = w.heap[c]?) → Free w' b →
        (∀ j, off ≤ j → (j < off + i * n ∨ off + i * n + n ≤ j) → w'.cell? ⟨b, j, none⟩ = w.cell? ⟨b, j, none⟩) → LX w' lo hi b (off + i * n) y → LieRX n LX w' (l.set i y) A B b off
  | [], _, _, _, _, _, _, _, h => by simp at h
  | z :: l, A, B, b, off, 0, x, ⟨hb, lo, hi, g1, g2, g3, g4, hs, hr⟩, hx => by
    simp at hx; subst hx
    rw [Nat.zero_mul, Nat.add_zero]
    refine ⟨lo, hi, g1, g2, g3, g4, hb, hs, fun w' y hw hf hc hy => ?_⟩
    refine ⟨hf, lo, hi, g1, g2, g3, g4, hy, LieRX.frame P (fun c c1 c2 c3 => hw c (by omega) c2 c3 (.inr c1)) (fun _ => hf) (fun j j1 _ => hc j (by omega) (.inr (by omega))) hr⟩
  | z :: l, A, B, b, off, i + 1, x, ⟨hb, lo0, hi0, g1, g2, g3, g4, hs, hr⟩, hx => by
    obtain ⟨lo, hi, k1, k2, k3, k4, k5, k6, k7⟩ := LieRX.put P (i := i) hr (by simpa using hx)
    have e : off + (i + 1) * n = off + n + i * n := by rw [Nat.succ_mul]; omega
    rw [e]
    refine ⟨lo, hi, by omega, k2, k3, k4, k5, k6, fun w' y hw hf hc hy => ?_⟩
    refine ⟨hf, lo0, hi0, g1, g2, g3, g4, P.frame hs (fun c c1 c2 => hw c (by omega) (by omega) (by omega) (.inl (by omega))) (fun j j1 j2 => hc j j1 (.inl (by omega))), ?_⟩
    exact k7 w' y (fun c c1 c2 c3 c4 => hw c (by omega) c2 c3 c4) hf (fun j j1 j2 => hc j (by omega) j2) hy
theorem RowsX.put (P : Lies n LX) {w : World} {l : List α} {A B len i : Nat} {a : Option Addr} {x : α} (h : RowsX n LX w A B a len l) (hi : l[i]? = some x) :
    ∃ b off lo hi, a = some ⟨b, off, none⟩ ∧ A ≤ b ∧ b < B ∧ A ≤ lo ∧ lo ≤ hi ∧ hi ≤ B ∧ (b < lo ∨ hi ≤ b) ∧ Free w b ∧ LX w lo hi b (off + i * n) x ∧
      ∀ (w' : World) (y : α), (∀ c, A ≤ c → c < B → c ≠ b → (c < lo ∨ hi ≤ c) → w'.heap[c]? = w.heap[c]?) → Free w' b →
        (∀ j, off ≤ j → (j < off + i * n ∨ off + i * n + n ≤ j) → w'.cell? ⟨b, j, none⟩ = w.cell? ⟨b, j, none⟩) → LX w' lo hi b (off + i * n) y → RowsX n LX w' A B a len (l.set i y) := by
  obtain ⟨h1, h2, h3, h4⟩ := h
  rcases h4 with rfl | ⟨b, off, ha, hA, hB, hl⟩
  · simp at hi
  · obtain ⟨lo, hi, k1, k2, k3, k4, k5, k6, k7⟩ := hl.put P hi
    exact ⟨b, off, lo, hi, ha, hA, hB, k1, k2, k3, k4, k5, k6, fun w' y hw hf hc hy => ⟨by rw [List.length_set]; exact h1, h2, h3, .inr ⟨b, off, ha, hA, hB, k7 w' y hw hf hc hy⟩⟩⟩
end

theorem cell_other {w : World} {b i j : Nat} {v : Value} (h : j ≠ i) : (w.setCell ⟨b, i, none⟩ v).cell? ⟨b, j, none⟩ = w.cell? ⟨b, j, none⟩ := World.cell?_setCell_other _ _ _ _ (by simp)
/-- One number or text of a type is written anew. -/
theorem TypesX.setScalar {w : World} {s : List TypeP} {A B len i k : Nat} {a : Option Addr} {x y : TypeP} (h : TypesX w A B a len s) (hi : s[i]? = some x) (hk : k < 3) (hf : y.fields = x.fields) (hm : y.members = x.members) (hy : y.ok)
    {v : Value} (hv : ∀ a ca c cc, y.cells a ca c cc = (x.cells a ca c cc).set k v) :
    ∃ b off, a = some ⟨b, off, none⟩ ∧ A ≤ b ∧ b < B ∧ Free w b ∧ (∃ u, w.cell? ⟨b, off + i * 5 + k, none⟩ = some u) ∧ TypesX (w.setCell ⟨b, off + i * 5 + k, none⟩ v) A B a len (s.set i y) := by
  obtain ⟨b, off, lo, hi', ha, hA, hB, k1, k2, k3, k4, k5, k6, k7⟩ := RowsX.put typeLiesX h hi
  obtain ⟨g1, fa, ca, fc, cc, M, g2, ⟨g3, g4⟩, g5, g6⟩ := k6
  have e1 := g3.2.2.1
  have e2 := g5.2.2.1
  have hoth : ∀ c, c ≠ b → (w.setCell ⟨b, off + i * 5 + k, none⟩ v).heap[c]? = w.heap[c]? := fun c hc => Go.Deep.blk_setCell_other _ ⟨b, off + i * 5 + k, none⟩ _ _ hc
  refine ⟨b, off, ha, hA, hB, k5, ⟨_, g2 k _ (List.getElem?_eq_getElem (by simp [TypeP.cells]; omega))⟩, k7 _ y (fun c _ _ hc _ => hoth c hc) (k5.set _ _ _) (fun j _ hj => cell_other (by omega)) ⟨hy, fa, ca, fc, cc, M, ?_, ?_, ?_⟩⟩
  · rw [hv]; exact g2.put (by simp [TypeP.cells]; omega) v
  · rw [hf]; exact ⟨g3.block fieldLies fun c c1 c2 => hoth c (by omega), g4⟩
  · rw [hm]; exact ⟨g5.block textLies fun c c1 c2 => hoth c (by omega), g6⟩
/-- One number or text of a field of a type is written anew. -/
theorem TypesX.setField {w : World} {s : List TypeP} {A B len i q k : Nat} {a : Option Addr} {x : TypeP} {f g : FieldP} (h : TypesX w A B a len s) (hi : s[i]? = some x) (hq : x.fields[q]? = some f) (hk : k < 6) (hg : g.ok)
    {v : Value} (hv : g.cells = f.cells.set k v) :
    ∃ b off fb fo ca, a = some ⟨b, off, none⟩ ∧ w.cell? ⟨b, off + i * 5 + 3, none⟩ = some (.slice (some ⟨fb, fo, none⟩) x.fields.length ca) ∧ x.fields.length ≤ ca ∧ A ≤ fb ∧ fb < B ∧ Free w fb ∧ (∃ u, w.cell? ⟨fb, fo + q * 6 + k, none⟩ = some u) ∧
      TypesX (w.setCell ⟨fb, fo + q * 6 + k, none⟩ v) A B a len (s.set i { x with fields := x.fields.set q g }) := by
  obtain ⟨b, off, lo, hi', ha, hA, hB, k1, k2, k3, k4, k5, k6, k7⟩ := RowsX.put typeLiesX h hi
  obtain ⟨g1, fa, ca, fc, cc, M, g2, ⟨g3, g4⟩, g5, g6⟩ := k6
  have e1 := g3.2.2.1
  have e2 := g5.2.2.1
  obtain ⟨fb, fo, lo2, hi2, hfa, hA2, hB2, m1, m2, m3, m4, m5, m6, m7⟩ := RowsX.put fieldLies g3 hq
  subst hfa
  have hoth : ∀ c, c ≠ fb → (w.setCell ⟨fb, fo + q * 6 + k, none⟩ v).heap[c]? = w.heap[c]? := fun c hc => Go.Deep.blk_setCell_other _ ⟨fb, fo + q * 6 + k, none⟩ _ _ hc
  have hbb : b ≠ fb := by omega
  have hcb : ∀ j, (w.setCell ⟨fb, fo + q * 6 + k, none⟩ v).cell? ⟨b, j, none⟩ = w.cell? ⟨b, j, none⟩ := fun j => World.cell?_of_block (w := w) (hoth b hbb)
  refine ⟨b, off, fb, fo, ca, ha, g2 3 _ rfl, g4, by omega, by omega, m5, ⟨_, m6.2 k _ (List.getElem?_eq_getElem (by simp [FieldP.cells]; omega))⟩, k7 _ _ (fun c _ _ _ hc => hoth c (by omega)) (k5.of (hoth b hbb)) (fun j _ _ => hcb j) ⟨g1, some ⟨fb, fo, none⟩, ca, fc, cc, M, ?_, ?_, ?_⟩⟩
  · have := g2.same (w' := w.setCell ⟨fb, fo + q * 6 + k, none⟩ v) fun j _ _ => hcb j
    simpa [TypeP.cells] using this
  · refine ⟨?_, by simpa using g4⟩
    have := m7 (w.setCell ⟨fb, fo + q * 6 + k, none⟩ v) g (fun c _ _ hc _ => hoth c hc) (m5.set _ _ _) (fun j _ hj => cell_other (by omega)) ⟨hg, by rw [hv]; exact m6.2.put (by simp [FieldP.cells]; omega) v⟩
    simpa using this
  · exact ⟨g5.block textLies fun c c1 c2 => hoth c (by omega), g6⟩
end Go.Proofs.Ytcogbmcnljlnaaa.Rw
