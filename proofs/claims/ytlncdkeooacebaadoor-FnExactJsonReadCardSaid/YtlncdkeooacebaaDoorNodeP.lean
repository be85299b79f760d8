/-
  What is right of a node, plainly; no program. Conditions: as each theorem says.
-/
import Derived.Test.YtlncdkeooacebaaDoorRows
import Derived.Test.YtlncdkeooacebaaDoorNodeM
import Derived.Test.YtlncdkeooacebaaDoorPlain
import Derived.Test.YtlncdkeooacebaaDoorOwnT
namespace Go.Proofs.YtlncdkeooacebaaDoor.Rw
open Go.RowKit Words
open Nm (inN)
set_option linter.unusedVariables false
set_option maxRecDepth 100000

/-- What a key at place i has to be. -/
def KeyOk (ks : List ByteArray) (i : Nat) (k : ByteArray) : Prop := wordB k = true ∧ inN k (ks.take i) = false
def KeysOk (ks : List ByteArray) : Prop := ∀ i k, ks[i]? = some k → KeyOk ks i k
/-- One of the four, whatever its keys are like. -/
def BaseOk (x : NodeP) : Prop :=
  (x.kind = 1 ∧ x.text.toList = [] ∧ x.keys.length = 0 ∧ x.kids.length = 0) ∨ (x.kind = 2 ∧ plainB x.text = true ∧ x.keys.length = 0 ∧ x.kids.length = 0) ∨
  (x.kind = 3 ∧ x.text.toList = [] ∧ x.keys.length = 0) ∨ (x.kind = 4 ∧ x.text.toList = [] ∧ x.keys.length = x.kids.length)
def ShapeOk (x : NodeP) : Prop := BaseOk x ∧ KeysOk x.keys
/-- A node that is right, no deeper than so much. -/
def PartOk : Nat → NodeP → Prop
  | 0, _ => False
  | d + 1, x => ShapeOk x ∧ ∀ k ∈ x.kids, PartOk d k
noncomputable def decB (p : Prop) : Bool := @decide p (Classical.propDecidable _)
theorem decB_yes {p : Prop} (h : p) : decB p = true := by simp [decB, h]
theorem decB_no {p : Prop} (h : ¬ p) : decB p = false := by simp [decB, h]
theorem base1 {x : NodeP} (h : x.kind = 1) : BaseOk x ↔ x.text.toList = [] ∧ x.keys.length = 0 ∧ x.kids.length = 0 := by
  constructor
  · rintro (g | g | g | g)
    · exact g.2
    all_goals (have := g.1; omega)
  · exact fun g => .inl ⟨h, g⟩
theorem base2 {x : NodeP} (h : x.kind = 2) : BaseOk x ↔ plainB x.text = true ∧ x.keys.length = 0 ∧ x.kids.length = 0 := by
  constructor
  · rintro (g | g | g | g)
    · have := g.1; omega
    · exact g.2
    all_goals (have := g.1; omega)
  · exact fun g => .inr (.inl ⟨h, g⟩)
theorem base3 {x : NodeP} (h : x.kind = 3) : BaseOk x ↔ x.text.toList = [] ∧ x.keys.length = 0 := by
  constructor
  · rintro (g | g | g | g)
    · have := g.1; omega
    · have := g.1; omega
    · exact g.2
    · have := g.1; omega
  · exact fun g => .inr (.inr (.inl ⟨h, g⟩))
theorem base4 {x : NodeP} (h : x.kind = 4) : BaseOk x ↔ x.text.toList = [] ∧ x.keys.length = x.kids.length := by
  constructor
  · rintro (g | g | g | g)
    · have := g.1; omega
    · have := g.1; omega
    · have := g.1; omega
    · exact g.2
  · exact fun g => .inr (.inr (.inr ⟨h, g⟩))
theorem base0 {x : NodeP} (h1 : x.kind ≠ 1) (h2 : x.kind ≠ 2) (h3 : x.kind ≠ 3) (h4 : x.kind ≠ 4) : ¬ BaseOk x := by
  rintro (h | h | h | h)
  · exact h1 h.1
  · exact h2 h.1
  · exact h3 h.1
  · exact h4 h.1
theorem KeysOk.nil {ks : List ByteArray} (h : ks.length = 0) : KeysOk ks := fun i k hk => by
  have := (List.getElem?_eq_some_iff.1 hk).1; omega
theorem sum_drop0 {f : NodeP → Nat} {l : List NodeP} : sumOf f (l.drop 0) = sumOf f l := by rw [List.drop_zero]
theorem sum_part {f : NodeP → Nat} {l : List NodeP} {i : Nat} {x : NodeP} (h : l[i]? = some x) : sumOf f (l.take (i + 1)) = sumOf f (l.take i) + f x := by
  induction l generalizing i with
  | nil => simp at h
  | cons y l ih =>
    cases i with
    | zero => simp at h; subst h; simp [sumOf]
    | succ i =>
      have := ih (i := i) (by simpa using h)
      simp only [List.take_succ_cons, sumOf]; omega
theorem sum_take_le {f : NodeP → Nat} : ∀ (l : List NodeP) (i : Nat), sumOf f (l.take i) ≤ sumOf f l
  | [], i => by simp [sumOf]
  | y :: l, 0 => by simp [sumOf]
  | y :: l, i + 1 => by have := sum_take_le (f := f) l i; simp only [List.take_succ_cons, sumOf]; omega
theorem sum_len {n : Nat} : ∀ (l : List NodeP), l.length ≤ sumOf (szN n) l
  | [] => Nat.le_refl _
  | y :: l => by have := sum_len (n := n) l; have := szN_pos n y; simp only [List.length_cons, sumOf]; omega
end Go.Proofs.YtlncdkeooacebaaDoor.Rw
