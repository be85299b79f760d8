/-
  What is like in a right schema, plainly; no program. Conditions: as each theorem says.
-/
import Derived.Test.YtceabbbmgfeofaaGreatDoorRows
import Derived.Test.YtceabbbmgfeofaaGreatDoorKindF
namespace Go.Proofs.YtceabbbmgfeofaaGreatDoor.Rw
open Go.RowKit Words Go.Maps
set_option linter.unusedVariables false
set_option maxRecDepth 100000

theorem schemaB_parts {s : List TypeP} (h : schemaB s = true) : (1 ≤ s.length ∧ s.length ≤ 12) ∧ headKind s = 2 ∧ ∀ (j : Nat) (x : TypeP), s[j]? = some x → (typeB x.name = true ∧ partB s x = true) ∧ freshB x.name (s.take j) = true := by
  unfold schemaB at h
  simp only [Bool.and_eq_true, decide_eq_true_eq, beq_iff_eq, typesAll_iff] at h
  refine ⟨h.1.1, h.1.2, fun j x hx => ?_⟩
  have := h.2 j x hx
  unfold typeOkB at this; simp only [Bool.and_eq_true, Nat.zero_add] at this; exact this
theorem right_at {s : List TypeP} {nm : ByteArray} (h : schemaB s = true) (hf : freshB nm s = false) : typeB (typeIn nm s).name = true ∧ partB s (typeIn nm s) = true ∧ (typeIn nm s).name = nm := by
  obtain ⟨j, h1, h2⟩ := typeIn_mem hf
  obtain ⟨_, _, h3⟩ := schemaB_parts h
  exact ⟨(h3 j _ h1).1.1, (h3 j _ h1).1.2, h2⟩
theorem part_fields {s : List TypeP} {x : TypeP} (h : partB s x = true) (hk : x.kind ≠ 2) : x.fields = [] := by
  unfold partB leafB oneTB at h
  rw [if_neg hk] at h
  apply List.eq_nil_of_length_eq_zero
  split at h
  · simp only [Bool.and_eq_true, beq_iff_eq] at h; omega
  · split at h
    · simp only [Bool.and_eq_true, beq_iff_eq] at h; omega
    · cases h
theorem part_members {s : List TypeP} {x : TypeP} (h : partB s x = true) (hk : x.kind ≠ 3) : x.members = [] := by
  unfold partB leafB objB at h
  apply List.eq_nil_of_length_eq_zero
  split at h
  · simp only [Bool.and_eq_true, beq_iff_eq] at h; omega
  · split at h
    · simp only [Bool.and_eq_true, beq_iff_eq] at h; omega
    · cases h
theorem typeIn_in {s : List TypeP} {nm : ByteArray} (hf : freshB nm s = false) : typeIn nm s ∈ s := by
  obtain ⟨j, h1, _⟩ := typeIn_mem hf
  exact List.mem_iff_getElem?.2 ⟨j, h1⟩

theorem type_small {s : ByteArray} (h : typeB s = true) : 1 ≤ s.size ∧ s.size ≤ 8 := by
  unfold typeB ofB at h
  have := @of_decide_eq_true _ (Classical.propDecidable _) h
  exact ⟨this.some, this.few⟩
theorem word_small {s : ByteArray} (h : wordB s = true) : 1 ≤ s.size ∧ s.size ≤ 8 := by
  unfold wordB ofB at h
  rw [Bool.and_eq_true] at h
  have := @of_decide_eq_true _ (Classical.propDecidable _) h.1
  exact ⟨this.some, this.few⟩
theorem fieldsAll_iff (s : List TypeP) (l : List FieldP) : ∀ (r : List FieldP) (i : Nat), fieldsAll s l r i = true ↔ ∀ (j : Nat) (x : FieldP), r[j]? = some x → fieldB s l (i + j) x = true
  | [], i => by simp [fieldsAll]
  | y :: r, i => by
    rw [fieldsAll, Bool.and_eq_true, fieldsAll_iff s l r (i + 1)]
    constructor
    · rintro ⟨h1, h2⟩ j x hx
      cases j with
      | zero => cases hx; simpa using h1
      | succ j => have := h2 j x (by simpa using hx); rwa [show i + (j + 1) = i + 1 + j by omega]
    · intro h
      exact ⟨by simpa using h 0 y rfl, fun j x hx => by have := h (j + 1) x (by simpa using hx); rwa [show i + 1 + j = i + (j + 1) by omega]⟩
theorem part_field {s : List TypeP} {x : TypeP} (h : partB s x = true) {f : FieldP} (hf : f ∈ x.fields) : wordB f.name = true ∧ ((typeIn f.typ s).kind == 0) = false ∧ sizedB f = true := by
  by_cases hk : x.kind = 2
  · unfold partB objB fieldsB at h
    rw [if_neg (by omega), if_pos hk] at h
    simp only [Bool.and_eq_true] at h
    obtain ⟨i, hi⟩ := List.mem_iff_getElem?.1 hf
    have := (fieldsAll_iff s x.fields x.fields 0).1 h.2.1 i f hi
    unfold fieldB at this
    simp only [Bool.and_eq_true, Bool.not_eq_true'] at this
    exact ⟨this.1.1.1, this.1.2, this.2⟩
  · rw [part_fields h hk] at hf; cases hf
theorem part_bytes {s : List TypeP} {x : TypeP} (h : partB s x = true) (hk : x.kind ≠ 1) : x.bytes = 0 := by
  unfold partB objB oneTB at h
  rw [if_neg hk] at h
  split at h
  · simp only [Bool.and_eq_true, beq_iff_eq] at h; exact h.1.1
  · split at h
    · simp only [Bool.and_eq_true, beq_iff_eq] at h; exact h.2.1.1.1
    · cases h
theorem part_few {s : List TypeP} {x : TypeP} (h : partB s x = true) : x.fields.length ≤ 8 := by
  by_cases hk : x.kind = 2
  · unfold partB objB fieldsB at h
    rw [if_neg (by omega), if_pos hk] at h
    simp only [Bool.and_eq_true, decide_eq_true_eq] at h
    exact h.2.2.2
  · rw [part_fields h hk]; simp
end Go.Proofs.YtceabbbmgfeofaaGreatDoor.Rw
