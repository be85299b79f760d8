/-
  The text of a schema, plainly; and a contract: spec.l04Line answers a right type's line; of what was there nothing is changed. Conditions: in memory.
-/
import Derived.Test.YtcogbmcnljlnaaaRows
import Derived.Test.YtcogbmcnljlnaaaRightP
import Derived.Test.YtcogbmcnljlnaaaDec
import Derived.Deep.CutRange
namespace Go.Proofs.Ytcogbmcnljlnaaa.Rw
open Go.RowKit Words Decs
set_option linter.unusedVariables false
set_option maxRecDepth 100000

def cB (l : List UInt8) : ByteArray := ⟨l.toArray⟩
theorem cB_size (l : List UInt8) : (cB l).size = l.length := by simp [cB, ByteArray.size]
/-- What a field tells behind its type. -/
def tailT (f : FieldP) : ByteArray :=
  ((if f.list = true ∧ f.cap = 0 then (cB [91] ++ decB f.size) ++ cB [93] else ByteArray.empty) ++ (if f.list = true ∧ 0 < f.cap then (cB [91, 60] ++ decB f.cap) ++ cB [93] else ByteArray.empty)) ++ (if f.must = true then cB [33] else ByteArray.empty)
def fieldT (f : FieldP) : ByteArray := (((cB [32] ++ f.name) ++ cB [58]) ++ f.typ) ++ tailT f
def fieldsT : List FieldP → ByteArray
  | [] => ByteArray.empty
  | x :: l => fieldT x ++ fieldsT l
theorem fieldsT_drop {l : List FieldP} {i : Nat} {x : FieldP} (h : l[i]? = some x) : fieldsT (l.drop i) = fieldT x ++ fieldsT (l.drop (i + 1)) := by
  obtain ⟨hl, rfl⟩ := List.getElem?_eq_some_iff.1 h
  rw [List.drop_eq_getElem_cons hl]; rfl
def memsT : List ByteArray → ByteArray
  | [] => ByteArray.empty
  | x :: l => (cB [32] ++ x) ++ memsT l
theorem memsT_drop {l : List ByteArray} {i : Nat} {x : ByteArray} (h : l[i]? = some x) : memsT (l.drop i) = (cB [32] ++ x) ++ memsT (l.drop (i + 1)) := by
  obtain ⟨hl, rfl⟩ := List.getElem?_eq_some_iff.1 h
  rw [List.drop_eq_getElem_cons hl]; rfl
/-- What a line begins with: its kind, its name, what a leaf has. -/
def kindW (k : Int) : ByteArray := if k = 1 then cB [108, 101, 97, 102, 32] else if k = 2 then cB [111, 98, 106, 32] else cB [111, 110, 101, 32]
def headT (x : TypeP) : ByteArray := (kindW x.kind ++ x.name) ++ (if x.kind = 1 then cB [32] ++ decB x.bytes else ByteArray.empty)
def lineT (x : TypeP) : ByteArray := ((headT x ++ fieldsT x.fields) ++ memsT x.members) ++ cB [10]
def linesT : List TypeP → ByteArray
  | [] => ByteArray.empty
  | x :: l => lineT x ++ linesT l
theorem linesT_drop {l : List TypeP} {i : Nat} {x : TypeP} (h : l[i]? = some x) : linesT (l.drop i) = lineT x ++ linesT (l.drop (i + 1)) := by
  obtain ⟨hl, rfl⟩ := List.getElem?_eq_some_iff.1 h
  rw [List.drop_eq_getElem_cons hl]; rfl
/-- The text of a schema: of a right one. -/
noncomputable def schT (s : List TypeP) : ByteArray := if schemaB s = true then linesT s else ByteArray.empty

theorem lenL : ∀ (k n : Nat), n < 10 ^ (k + 1) → (decL n).length ≤ k + 1
  | 0, n, h => by rw [decL_small (by omega)]; simp
  | k + 1, n, h => by
    by_cases hn : n < 10
    · rw [decL_small hn]; simp
    · rw [decL_big (by omega), List.length_append]
      have := lenL k (n / 10) (by rw [Nat.pow_succ] at h; omega)
      simp; omega
theorem dec_size {f : Int} (h0 : 0 ≤ f) (h1 : f ≤ 100) : (decB f).size ≤ 3 := by
  unfold decB
  rw [if_neg (by omega)]
  have := lenL 2 f.natAbs (by rw [show (10 : Nat) ^ (2 + 1) = 1000 by decide]; omega)
  simp [ByteArray.size]; omega
/-- What a field of a right type is like. -/
structure FieldOk (s : List TypeP) (f : FieldP) : Prop where
  word : wordB f.name = true
  typ : typeB f.typ = true
  there : freshB f.typ s = false
  sized : sizedB f = true
theorem sized_cases {f : FieldP} (h : sizedB f = true) : (f.list = false ∧ f.size = 0 ∧ f.cap = 0) ∨ (f.list = true ∧ f.cap = 0 ∧ 0 ≤ f.size ∧ f.size ≤ 100) ∨ (f.list = true ∧ f.size = 0 ∧ 1 ≤ f.cap ∧ f.cap ≤ 100) := by
  unfold sizedB at h
  split at h
  · rename_i hl
    simp only [Bool.or_eq_true, Bool.and_eq_true, decide_eq_true_eq, beq_iff_eq] at h
    rcases h with ⟨⟨h1, h2⟩, h3⟩ | ⟨h1, h2, h3⟩
    · exact .inr (.inl ⟨hl, h3, h1, h2⟩)
    · exact .inr (.inr ⟨hl, h1, h2, h3⟩)
  · rename_i hl
    simp only [Bool.and_eq_true, beq_iff_eq] at h
    exact .inl ⟨by simpa using hl, h.1, h.2⟩
theorem tail_size {f : FieldP} (h : sizedB f = true) : (tailT f).size ≤ 7 := by
  unfold tailT
  rcases sized_cases h with ⟨h1, h2, h3⟩ | ⟨h1, h2, h3, h4⟩ | ⟨h1, h2, h3, h4⟩
  · rw [if_neg (by rw [h1]; simp), if_neg (by rw [h1]; simp)]
    split <;> simp [cB_size]
  · have := dec_size h3 h4
    rw [if_pos ⟨h1, h2⟩, if_neg (by omega)]
    split <;> simp [cB_size, ByteArray.size_append] <;> omega
  · have := dec_size (show 0 ≤ f.cap by omega) h4
    rw [if_neg (by omega), if_pos ⟨h1, by omega⟩]
    split <;> simp [cB_size, ByteArray.size_append] <;> omega
theorem typeIn_named {s : List TypeP} (h : schemaB s = true) {f : FieldP} {x : TypeP} (hx : partB s x = true) (hf : f ∈ x.fields) : FieldOk s f := by
  obtain ⟨h1, h2, h3⟩ := part_field hx hf
  have hK : AllKinds s := fun j y hy => partB_kind ((schemaB_parts h).2.2 j y hy).1.2
  rw [kind_zero hK] at h2
  obtain ⟨h4, _, h5⟩ := right_at h h2
  exact ⟨h1, by rw [h5] at h4; exact h4, h2, h3⟩
theorem field_size {s : List TypeP} {f : FieldP} (h : FieldOk s f) : (fieldT f).size ≤ 25 := by
  have := (word_small h.word).2
  have := (type_small h.typ).2
  have := tail_size h.sized
  unfold fieldT
  simp [cB_size, ByteArray.size_append]; omega
end Go.Proofs.Ytcogbmcnljlnaaa.Rw
