/-
  The program's word on what is right of a schema is the model's; no program. Conditions: none.
-/
import Derived.Test.YtceabbbmgfeofaaGreatDoorRows
import Derived.Test.YtceabbbmgfeofaaGreatDoorKindE
namespace Go.Proofs.YtceabbbmgfeofaaGreatDoor.Rw
open Go.RowKit Words
set_option linter.unusedVariables false

theorem addAll_iff (s : List TypeP) : ∀ (l : List TypeP) (i : Nat), addAll s l i = true ↔ ∀ (j : Nat) (x : TypeP), l[j]? = some x → addI s (i + j) x = true
  | [], i => by simp [addAll]
  | y :: l, i => by
    rw [addAll, Bool.and_eq_true, addAll_iff s l (i + 1)]
    constructor
    · rintro ⟨h1, h2⟩ j x hx
      cases j with
      | zero => cases hx; simpa using h1
      | succ j => have := h2 j x (by simpa using hx); rwa [show i + (j + 1) = i + 1 + j by omega]
    · intro h
      exact ⟨by simpa using h 0 y rfl, fun j x hx => by have := h (j + 1) x (by simpa using hx); rwa [show i + 1 + j = i + (j + 1) by omega]⟩
theorem typesAll_iff (s : List TypeP) : ∀ (l : List TypeP) (i : Nat), typesAll s l i = true ↔ ∀ (j : Nat) (x : TypeP), l[j]? = some x → typeOkB s (i + j) x = true
  | [], i => by simp [typesAll]
  | y :: l, i => by
    rw [typesAll, Bool.and_eq_true, typesAll_iff s l (i + 1)]
    constructor
    · rintro ⟨h1, h2⟩ j x hx
      cases j with
      | zero => cases hx; simpa using h1
      | succ j => have := h2 j x (by simpa using hx); rwa [show i + (j + 1) = i + 1 + j by omega]
    · intro h
      exact ⟨by simpa using h 0 y rfl, fun j x hx => by have := h (j + 1) x (by simpa using hx); rwa [show i + 1 + j = i + (j + 1) by omega]⟩
theorem rightAll_iff (s : List TypeP) : ∀ (l : List TypeP), rightAll s l = true ↔ ∀ (j : Nat) (x : TypeP), l[j]? = some x → partI s (typeIn x.name s) = true
  | [] => by simp [rightAll]
  | y :: l => by
    rw [rightAll, Bool.and_eq_true, rightAll_iff s l]
    constructor
    · rintro ⟨h1, h2⟩ j x hx
      cases j with
      | zero => cases hx; exact h1
      | succ j => exact h2 j x (by simpa using hx)
    · intro h
      exact ⟨h 0 y rfl, fun j x hx => h (j + 1) x (by simpa using hx)⟩
theorem typeIn_fresh : ∀ {s : List TypeP} {j : Nat} {x : TypeP}, s[j]? = some x → freshB x.name (s.take j) = true → typeIn x.name s = x
  | y :: l, 0, x, h, _ => by cases h; simp [typeIn]
  | y :: l, j + 1, x, h, hf => by
    rw [List.take_succ_cons, freshB] at hf
    rw [typeIn]
    split
    · rename_i e; rw [if_pos e] at hf; cases hf
    · rename_i e; rw [if_neg e] at hf; exact typeIn_fresh (by simpa using h) hf
theorem typeIn_zero {nm : ByteArray} : ∀ {s : List TypeP}, freshB nm s = true → typeIn nm s = zeroType
  | [], _ => rfl
  | y :: l, h => by
    rw [freshB] at h
    rw [typeIn]
    split
    · rename_i e; rw [if_pos e] at h; cases h
    · rename_i e; rw [if_neg e] at h; exact typeIn_zero h
theorem typeIn_mem {nm : ByteArray} : ∀ {s : List TypeP}, freshB nm s = false → ∃ j : Nat, s[j]? = some (typeIn nm s) ∧ (typeIn nm s).name = nm
  | [], h => by cases h
  | y :: l, h => by
    rw [freshB] at h
    rw [typeIn]
    split
    · rename_i e; exact ⟨0, rfl, e⟩
    · rename_i e
      rw [if_neg e] at h
      obtain ⟨j, h1, h2⟩ := typeIn_mem h
      exact ⟨j + 1, by simpa using h1, h2⟩
/-- Each type is one of the three. -/
def AllKinds (s : List TypeP) : Prop := ∀ (j : Nat) (x : TypeP), s[j]? = some x → isKind x.kind = true
theorem isKind_ne {k : Int} (h : isKind k = true) : (k == 0) = false := by
  unfold isKind at h; simp at h ⊢; omega
theorem kind_zero {s : List TypeP} (h : AllKinds s) (nm : ByteArray) : ((typeIn nm s).kind == 0) = freshB nm s := by
  cases hf : freshB nm s with
  | true => rw [typeIn_zero hf]; rfl
  | false =>
    obtain ⟨j, h1, _⟩ := typeIn_mem hf
    exact isKind_ne (h j _ h1)
theorem kind_two {s : List TypeP} (nm : ByteArray) : (!freshB nm s && ((typeIn nm s).kind == 2)) = ((typeIn nm s).kind == 2) := by
  cases hf : freshB nm s with
  | true => rw [typeIn_zero hf]; rfl
  | false => simp
theorem fieldI_eq {s : List TypeP} (h : AllKinds s) (l : List FieldP) (i : Nat) (f : FieldP) : fieldI s l i f = fieldB s l i f := by
  unfold fieldI fieldB frB
  rw [kind_zero h]
  cases freshB f.typ s <;> cases wordB f.name <;> cases sizedB f <;> cases (findF f.name l 0 == (i : Int)) <;> rfl
theorem fieldsI_eq {s : List TypeP} (h : AllKinds s) (l : List FieldP) : ∀ (r : List FieldP) (i : Nat), fieldsI s l r i = fieldsAll s l r i
  | [], _ => rfl
  | f :: r, i => by rw [fieldsI, fieldsAll, fieldI_eq h, fieldsI_eq h l r (i + 1)]
theorem findT_ge (nm : ByteArray) : ∀ (l : List ByteArray) (k : Nat), findT nm l k = -1 ∨ (k : Int) ≤ findT nm l k
  | [], k => .inl rfl
  | x :: l, k => by
    rw [findT]
    split
    · exact .inr (Int.le_refl _)
    · rcases findT_ge nm l (k + 1) with h | h
      · exact .inl h
      · exact .inr (by omega)
theorem findT_in {m : ByteArray} : ∀ {l : List ByteArray} {i : Nat} (k : Nat), l[i]? = some m → (findT m l k == ((k + i : Nat) : Int)) = !inB m (l.take i)
  | x :: l, 0, k, h => by cases h; simp [findT, inB]
  | x :: l, i + 1, k, h => by
    rw [List.take_succ_cons, findT, inB]
    split
    · simp; omega
    · rw [show k + (i + 1) = k + 1 + i by omega]
      exact findT_in (k + 1) (by simpa using h)
theorem memberI_eq (s : List TypeP) {l : List ByteArray} {i : Nat} {m : ByteArray} (h : l[i]? = some m) : memberI s l i m = memberB s l i m := by
  unfold memberI memberB
  have := findT_in 0 h
  rw [Nat.zero_add] at this
  rw [kind_two, this]
theorem membersI_eq (s : List TypeP) (l : List ByteArray) : ∀ (n i : Nat), l.length - i = n → membersI s l (l.drop i) i = membersAll s l (l.drop i) i
  | 0, i, h => by rw [List.drop_eq_nil_of_le (by omega)]; rfl
  | n + 1, i, h => by
    have hx : l[i]? = some l[i] := List.getElem?_eq_getElem (by omega)
    rw [membersI_drop hx, membersAll_drop hx, memberI_eq s hx, membersI_eq s l n (i + 1) (by omega)]
theorem partI_eq {s : List TypeP} (h : AllKinds s) {x : TypeP} (hx : isKind x.kind = true) : partI s x = partB s x := by
  unfold partI partB
  split
  · rfl
  · split
    · unfold objI objB fieldsB
      rw [fieldsI_eq h]
      cases decide (1 ≤ x.fields.length) <;> cases decide (x.fields.length ≤ 8) <;> cases (x.bytes == 0) <;> cases ((x.members.length : Int) == 0) <;> cases fieldsAll s x.fields x.fields 0 <;> rfl
    · rename_i h1 h2
      have h3 : x.kind = 3 := by unfold isKind at hx; simp at hx; omega
      rw [if_pos h3]
      unfold oneI oneTB
      have := membersI_eq s x.members _ 0 rfl
      rw [List.drop_zero] at this
      rw [this]
      cases decide (1 ≤ x.members.length) <;> cases decide (x.members.length ≤ 5) <;> cases (x.bytes == 0) <;> cases ((x.fields.length : Int) == 0) <;> cases membersAll s x.members x.members 0 <;> rfl
theorem partB_kind {s : List TypeP} {x : TypeP} (h : partB s x = true) : isKind x.kind = true := by
  unfold partB at h
  unfold isKind
  split at h
  · rename_i e; rw [e]; rfl
  · split at h
    · rename_i e; rw [e]; rfl
    · split at h
      · rename_i e; rw [e]; rfl
      · cases h
theorem kindsB_eq (s : List TypeP) : kindsB s = schemaB s := by
  unfold kindsB schemaB
  rw [Bool.and_assoc]
  congr 1
  rw [Bool.eq_iff_iff, Bool.and_eq_true, addAll_iff, typesAll_iff, rightAll_iff]
  constructor
  · rintro ⟨h1, h2⟩ j x hx
    have hK : AllKinds s := fun j x hx => by
      have := h1 j x hx; unfold addI at this; simp only [Bool.and_eq_true] at this; exact this.1.1
    have a := h1 j x hx
    have b := h2 j x hx
    unfold addI at a
    simp only [Bool.and_eq_true] at a
    unfold typeOkB
    rw [typeIn_fresh hx (by simpa using a.2), partI_eq hK a.1.1] at b
    simp only [Bool.and_eq_true]
    exact ⟨⟨a.1.2, b⟩, a.2⟩
  · intro h
    have hP : ∀ (j : Nat) (x : TypeP), s[j]? = some x → (typeB x.name = true ∧ partB s x = true) ∧ freshB x.name (s.take j) = true := fun j x hx => by
      have := h j x hx; unfold typeOkB at this; simp only [Bool.and_eq_true, Nat.zero_add] at this; exact this
    have hK : AllKinds s := fun j x hx => partB_kind (hP j x hx).1.2
    refine ⟨fun j x hx => ?_, fun j x hx => ?_⟩
    · unfold addI
      simp only [Bool.and_eq_true, Nat.zero_add]
      exact ⟨⟨hK j x hx, (hP j x hx).1.1⟩, (hP j x hx).2⟩
    · rw [typeIn_fresh hx (hP j x hx).2, partI_eq hK (hK j x hx)]
      exact (hP j x hx).1.2
end Go.Proofs.YtceabbbmgfeofaaGreatDoor.Rw
