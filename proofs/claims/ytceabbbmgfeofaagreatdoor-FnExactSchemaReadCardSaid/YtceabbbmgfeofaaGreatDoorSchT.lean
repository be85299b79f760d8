/-
  The text of a schema, plainly; and a contract: spec.l04Line answers a right type's line; of what was there nothing is changed. Conditions: in memory.
-/
import Derived.Test.YtceabbbmgfeofaaGreatDoorRows
import Derived.Test.YtceabbbmgfeofaaGreatDoorKindF
import Derived.Test.YtceabbbmgfeofaaGreatDoorDec
import Derived.Deep.CutRange
namespace Go.Proofs.YtceabbbmgfeofaaGreatDoor.Rw
open Go.RowKit Words Go.Maps
set_option linter.unusedVariables false
set_option maxRecDepth 100000
theorem schemaB_parts {s : List TypeP} (h : schemaB s = true) : (1 ≤ s.length ∧ s.length ≤ 12) ∧ headKind s = 2 ∧ ∀ (j : Nat) (x : TypeP), s[j]? = some x → (typeB x.name = true ∧ partB s x = true) ∧ freshB x.name (s.take j) = true := by
  unfold schemaB at h
  simp only [Bool.and_eq_true, decide_eq_true_eq, beq_iff_eq, typesAll_iff] at h
  refine ⟨h.1.1, h.1.2, fun j x hx => ?_⟩
  have := h.2 j x hx
  unfold typeOkB at this; simp only [Bool.and_eq_true, Nat.zero_add] at this; exact this
theorem right_at {s : List TypeP} {nm : ByteArray} (h : schemaB s = true) (hf : freshB nm s = false) : typeB (typeIn nm s).name = true ∧ partB s (typeIn nm s) = true ∧ (typeIn nm s).name = nm := by
  obtain ⟨j, h1, h2⟩ := typeIn_mem hf
  obtain ⟨_, _, h3⟩ := schemaB_parts h
  exact ⟨(h3 j _ h1).1.1, (h3 j _ h1).1.2, h2⟩
theorem part_fields {s : List TypeP} {x : TypeP} (h : partB s x = true) (hk : x.kind ≠ 2) : x.fields = [] := by
  unfold partB leafB oneTB at h
  rw [if_neg hk] at h
  apply List.eq_nil_of_length_eq_zero
  split at h
  · simp only [Bool.and_eq_true, beq_iff_eq] at h; omega
  · split at h
    · simp only [Bool.and_eq_true, beq_iff_eq] at h; omega
    · cases h
theorem part_members {s : List TypeP} {x : TypeP} (h : partB s x = true) (hk : x.kind ≠ 3) : x.members = [] := by
  unfold partB leafB objB at h
  apply List.eq_nil_of_length_eq_zero
  split at h
  · simp only [Bool.and_eq_true, beq_iff_eq] at h; omega
  · split at h
    · simp only [Bool.and_eq_true, beq_iff_eq] at h; omega
    · cases h
theorem typeIn_in {s : List TypeP} {nm : ByteArray} (hf : freshB nm s = false) : typeIn nm s ∈ s := by
  obtain ⟨j, h1, _⟩ := typeIn_mem hf
  exact List.mem_iff_getElem?.2 ⟨j, h1⟩
theorem type_small {s : ByteArray} (h : typeB s = true) : 1 ≤ s.size ∧ s.size ≤ 8 := by
  unfold typeB ofB at h
  have := @of_decide_eq_true _ (Classical.propDecidable _) h
  exact ⟨this.some, this.few⟩
theorem word_small {s : ByteArray} (h : wordB s = true) : 1 ≤ s.size ∧ s.size ≤ 8 := by
  unfold wordB ofB at h
  rw [Bool.and_eq_true] at h
  have := @of_decide_eq_true _ (Classical.propDecidable _) h.1
  exact ⟨this.some, this.few⟩
theorem fieldsAll_iff (s : List TypeP) (l : List FieldP) : ∀ (r : List FieldP) (i : Nat), fieldsAll s l r i = true ↔ ∀ (j : Nat) (x : FieldP), r[j]? = some x → fieldB s l (i + j) x = true
  | [], i => by simp [fieldsAll]
  | y :: r, i => by
    rw [fieldsAll, Bool.and_eq_true, fieldsAll_iff s l r (i + 1)]
    constructor
    · rintro ⟨h1, h2⟩ j x hx
      cases j with
      | zero => cases hx; simpa using h1
      | succ j => have := h2 j x (by simpa using hx); rwa [show i + (j + 1) = i + 1 + j by omega]
    · intro h
      exact ⟨by simpa using h 0 y rfl, fun j x hx => by have := h (j + 1) x (by simpa using hx); rwa [show i + 1 + j = i + (j + 1) by omega]⟩
theorem part_field {s : List TypeP} {x : TypeP} (h : partB s x = true) {f : FieldP} (hf : f ∈ x.fields) : wordB f.name = true ∧ ((typeIn f.typ s).kind == 0) = false ∧ sizedB f = true := by
  by_cases hk : x.kind = 2
  · unfold partB objB fieldsB at h
    rw [if_neg (by omega), if_pos hk] at h
    simp only [Bool.and_eq_true] at h
    obtain ⟨i, hi⟩ := List.mem_iff_getElem?.1 hf
    have := (fieldsAll_iff s x.fields x.fields 0).1 h.2.1 i f hi
    unfold fieldB at this
    simp only [Bool.and_eq_true, Bool.not_eq_true'] at this
    exact ⟨this.1.1.1, this.1.2, this.2⟩
  · rw [part_fields h hk] at hf; cases hf
theorem part_bytes {s : List TypeP} {x : TypeP} (h : partB s x = true) (hk : x.kind ≠ 1) : x.bytes = 0 := by
  unfold partB objB oneTB at h
  rw [if_neg hk] at h
  split at h
  · simp only [Bool.and_eq_true, beq_iff_eq] at h; exact h.1.1
  · split at h
    · simp only [Bool.and_eq_true, beq_iff_eq] at h; exact h.2.1.1.1
    · cases h
theorem part_few {s : List TypeP} {x : TypeP} (h : partB s x = true) : x.fields.length ≤ 8 := by
  by_cases hk : x.kind = 2
  · unfold partB objB fieldsB at h
    rw [if_neg (by omega), if_pos hk] at h
    simp only [Bool.and_eq_true, decide_eq_true_eq] at h
    exact h.2.2.2
  · rw [part_fields h hk]; simp
end Go.Proofs.YtceabbbmgfeofaaGreatDoor.Rw
namespace Go.Proofs.YtceabbbmgfeofaaGreatDoor.Rw
open Go.RowKit Words Decs
set_option linter.unusedVariables false
set_option maxRecDepth 100000
def cB (l : List UInt8) : ByteArray := ⟨l.toArray⟩
theorem cB_size (l : List UInt8) : (cB l).size = l.length := by simp [cB, ByteArray.size]
/-- What a field tells behind its type. -/
def tailT (f : FieldP) : ByteArray :=
  ((if f.list = true ∧ f.cap = 0 then (cB [91] ++ decB f.size) ++ cB [93] else ByteArray.empty) ++ (if f.list = true ∧ 0 < f.cap then (cB [91, 60] ++ decB f.cap) ++ cB [93] else ByteArray.empty)) ++ (if f.must = true then cB [33] else ByteArray.empty)
def fieldT (f : FieldP) : ByteArray := (((cB [32] ++ f.name) ++ cB [58]) ++ f.typ) ++ tailT f
def fieldsT : List FieldP → ByteArray
  | [] => ByteArray.empty
  | x :: l => fieldT x ++ fieldsT l
theorem fieldsT_drop {l : List FieldP} {i : Nat} {x : FieldP} (h : l[i]? = some x) : fieldsT (l.drop i) = fieldT x ++ fieldsT (l.drop (i + 1)) := by
  obtain ⟨hl, rfl⟩ := List.getElem?_eq_some_iff.1 h
  rw [List.drop_eq_getElem_cons hl]; rfl
def memsT : List ByteArray → ByteArray
  | [] => ByteArray.empty
  | x :: l => (cB [32] ++ x) ++ memsT l
theorem memsT_drop {l : List ByteArray} {i : Nat} {x : ByteArray} (h : l[i]? = some x) : memsT (l.drop i) = (cB [32] ++ x) ++ memsT (l.drop (i + 1)) := by
  obtain ⟨hl, rfl⟩ := List.getElem?_eq_some_iff.1 h
  rw [List.drop_eq_getElem_cons hl]; rfl
/-- What a line begins with: its kind, its name, what a leaf has. -/
def kindW (k : Int) : ByteArray := if k = 1 then cB [108, 101, 97, 102, 32] else if k = 2 then cB [111, 98, 106, 32] else cB [111, 110, 101, 32]
def headT (x : TypeP) : ByteArray := (kindW x.kind ++ x.name) ++ (if x.kind = 1 then cB [32] ++ decB x.bytes else ByteArray.empty)
def lineT (x : TypeP) : ByteArray := ((headT x ++ fieldsT x.fields) ++ memsT x.members) ++ cB [10]
def linesT : List TypeP → ByteArray
  | [] => ByteArray.empty
  | x :: l => lineT x ++ linesT l
theorem linesT_drop {l : List TypeP} {i : Nat} {x : TypeP} (h : l[i]? = some x) : linesT (l.drop i) = lineT x ++ linesT (l.drop (i + 1)) := by
  obtain ⟨hl, rfl⟩ := List.getElem?_eq_some_iff.1 h
  rw [List.drop_eq_getElem_cons hl]; rfl
/-- The text of a schema: of a right one. -/
noncomputable def schT (s : List TypeP) : ByteArray := if schemaB s = true then linesT s else ByteArray.empty
theorem lenL : ∀ (k n : Nat), n < 10 ^ (k + 1) → (decL n).length ≤ k + 1
  | 0, n, h => by rw [decL_small (by omega)]; simp
  | k + 1, n, h => by
    by_cases hn : n < 10
    · rw [decL_small hn]; simp
    · rw [decL_big (by omega), List.length_append]
      have := lenL k (n / 10) (by rw [Nat.pow_succ] at h; omega)
      simp; omega
theorem dec_size {f : Int} (h0 : 0 ≤ f) (h1 : f ≤ 100) : (decB f).size ≤ 3 := by
  unfold decB
  rw [if_neg (by omega)]
  have := lenL 2 f.natAbs (by rw [show (10 : Nat) ^ (2 + 1) = 1000 by decide]; omega)
  simp [ByteArray.size]; omega
/-- What a field of a right type is like. -/
structure FieldOk (s : List TypeP) (f : FieldP) : Prop where
  word : wordB f.name = true
  typ : typeB f.typ = true
  there : freshB f.typ s = false
  sized : sizedB f = true
theorem sized_cases {f : FieldP} (h : sizedB f = true) : (f.list = false ∧ f.size = 0 ∧ f.cap = 0) ∨ (f.list = true ∧ f.cap = 0 ∧ 0 ≤ f.size ∧ f.size ≤ 100) ∨ (f.list = true ∧ f.size = 0 ∧ 1 ≤ f.cap ∧ f.cap ≤ 100) := by
  unfold sizedB at h
  split at h
  · rename_i hl
    simp only [Bool.or_eq_true, Bool.and_eq_true, decide_eq_true_eq, beq_iff_eq] at h
    rcases h with ⟨⟨h1, h2⟩, h3⟩ | ⟨h1, h2, h3⟩
    · exact .inr (.inl ⟨hl, h3, h1, h2⟩)
    · exact .inr (.inr ⟨hl, h1, h2, h3⟩)
  · rename_i hl
    simp only [Bool.and_eq_true, beq_iff_eq] at h
    exact .inl ⟨by simpa using hl, h.1, h.2⟩
theorem tail_size {f : FieldP} (h : sizedB f = true) : (tailT f).size ≤ 7 := by
  unfold tailT
  rcases sized_cases h with ⟨h1, h2, h3⟩ | ⟨h1, h2, h3, h4⟩ | ⟨h1, h2, h3, h4⟩
  · rw [if_neg (by rw [h1]; simp), if_neg (by rw [h1]; simp)]
    split <;> simp [cB_size]
  · have := dec_size h3 h4
    rw [if_pos ⟨h1, h2⟩, if_neg (by omega)]
    split <;> simp [cB_size, ByteArray.size_append] <;> omega
  · have := dec_size (show 0 ≤ f.cap by omega) h4
    rw [if_neg (by omega), if_pos ⟨h1, by omega⟩]
    split <;> simp [cB_size, ByteArray.size_append] <;> omega
theorem typeIn_named {s : List TypeP} (h : schemaB s = true) {f : FieldP} {x : TypeP} (hx : partB s x = true) (hf : f ∈ x.fields) : FieldOk s f := by
  obtain ⟨h1, h2, h3⟩ := part_field hx hf
  have hK : AllKinds s := fun j y hy => partB_kind ((schemaB_parts h).2.2 j y hy).1.2
  rw [kind_zero hK] at h2
  obtain ⟨h4, _, h5⟩ := right_at h h2
  exact ⟨h1, by rw [h5] at h4; exact h4, h2, h3⟩
theorem field_size {s : List TypeP} {f : FieldP} (h : FieldOk s f) : (fieldT f).size ≤ 25 := by
  have := (word_small h.word).2
  have := (type_small h.typ).2
  have := tail_size h.sized
  unfold fieldT
  simp [cB_size, ByteArray.size_append]; omega
end Go.Proofs.YtceabbbmgfeofaaGreatDoor.Rw
