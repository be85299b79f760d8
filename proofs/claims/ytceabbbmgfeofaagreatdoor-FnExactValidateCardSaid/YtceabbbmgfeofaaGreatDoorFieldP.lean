/-
  The field of a name, plainly. Conditions: none.
-/
import Derived.Test.YtceabbbmgfeofaaGreatDoorRows
import Derived.Test.YtceabbbmgfeofaaGreatDoorKindF
namespace Go.Proofs.YtceabbbmgfeofaaGreatDoor.Rw
open Go.RowKit Words Go.Maps
set_option linter.unusedVariables false
set_option maxRecDepth 100000

def zeroField : FieldP := ⟨⟨#[]⟩, ⟨#[]⟩, false, false, 0, 0⟩
def fieldIn (nm : ByteArray) : List FieldP → FieldP
  | [] => zeroField
  | x :: l => if x.name = nm then x else fieldIn nm l
theorem findF_in (nm : ByteArray) : ∀ (l : List FieldP) (k : Nat), (findF nm l k = -1 ∧ fieldIn nm l = zeroField) ∨ ∃ i : Nat, findF nm l k = ((k + i : Nat) : Int) ∧ l[i]? = some (fieldIn nm l) ∧ (fieldIn nm l).name = nm
  | [], k => .inl ⟨rfl, rfl⟩
  | x :: l, k => by
    rw [findF, fieldIn]
    split
    · rename_i h; exact .inr ⟨0, rfl, rfl, h⟩
    · rcases findF_in nm l (k + 1) with h | ⟨i, h1, h2, h3⟩
      · exact .inl h
      · exact .inr ⟨i + 1, by rw [h1]; congr 1; omega, by simpa using h2, h3⟩
def FieldP.tiny (x : FieldP) : Prop := x.name.size ≤ 1048576 ∧ x.typ.size ≤ 1048576

theorem row6z {w : World} {b : Nat} {v0 v1 v2 v3 v4 v5 : Value} (h : RowN w b 0 [v0, v1, v2, v3, v4, v5]) :
    w.cell? ⟨b, 0, none⟩ = some v0 ∧ w.cell? ⟨b, 1, none⟩ = some v1 ∧ w.cell? ⟨b, 2, none⟩ = some v2 ∧ w.cell? ⟨b, 3, none⟩ = some v3 ∧ w.cell? ⟨b, 4, none⟩ = some v4 ∧ w.cell? ⟨b, 5, none⟩ = some v5 :=
  ⟨h 0 _ rfl, h 1 _ rfl, h 2 _ rfl, h 3 _ rfl, h 4 _ rfl, h 5 _ rfl⟩
theorem fieldIn_cases (nm : ByteArray) : ∀ (l : List FieldP), fieldIn nm l = zeroField ∨ (fieldIn nm l ∈ l ∧ (fieldIn nm l).name = nm)
  | [] => .inl rfl
  | x :: l => by
    rw [fieldIn]
    split
    · rename_i h; exact .inr ⟨by simp, h⟩
    · rcases fieldIn_cases nm l with h | ⟨h1, h2⟩
      · exact .inl h
      · exact .inr ⟨by simp [h1], h2⟩
/-- The zero field's block behind a box. -/
theorem kept2z {w w1 : World} {o1 o2 : Obj} (hb : Below ((w.alloc o1).alloc o2).heap.size ((w.alloc o1).alloc o2) w1) : w1.heap[w.heap.size]? = some o1 ∧ w1.heap[w.heap.size + 1]? = some o2 := by
  refine ⟨by rw [hb.block _ (by simp; omega), Go.Deep.blk_alloc_lt _ _ _ (by simp)]; exact heap_alloc_new w _, ?_⟩
  rw [hb.block _ (by simp)]
  have := heap_alloc_new (w.alloc o1) o2
  simpa using this
theorem rows_all {α : Type} {n : Nat} {L : World → Nat → Nat → Nat → Nat → α → Prop} {w : World} {A B len : Nat} {a : Option Addr} {l : List α} (h : RowsAt n L w A B a len l) {P : α → Prop} (hp : ∀ b o x, L w A B b o x → P x) : ∀ x ∈ l, P x := fun x hx => by
  obtain ⟨i, hi⟩ := List.mem_iff_getElem?.1 hx
  rcases h.2.2 with rfl | ⟨b, off, _, _, _, hl⟩
  · simp at hx
  · exact hp _ _ _ (hl i x hi)
theorem schema_ok {w : World} {A B : Nat} {v : Value} {s : List TypeP} (h : SchemaAt w A B v s) : ∀ x ∈ s, x.ok ∧ (∀ f ∈ x.fields, f.ok) ∧ ∀ m ∈ x.members, OkS m := by
  obtain ⟨a, ca, _, h1, _⟩ := h
  refine rows_all h1 fun b o x hx => ?_
  obtain ⟨hk, a, ca, c, cc, _, ⟨h2, _⟩, h3, _⟩ := hx
  exact ⟨hk, rows_all h2 fun _ _ _ hf => hf.1, rows_all h3 fun _ _ _ hm => hm.1⟩
theorem zeroField_ok : zeroField.ok := ⟨by unfold OkS; decide, by unfold OkS; decide, by unfold OkI zeroField; simp, by unfold OkI zeroField; simp⟩
theorem fieldIn_ok {w : World} {A B : Nat} {v : Value} {s : List TypeP} (h : SchemaAt w A B v s) (t nm : ByteArray) : (fieldIn nm (typeIn t s).fields).ok := by
  rcases fieldIn_cases nm (typeIn t s).fields with h1 | ⟨h1, _⟩
  · rw [h1]; exact zeroField_ok
  · cases hf : freshB t s with
    | true => rw [typeIn_zero hf] at h1; simp [zeroType] at h1
    | false =>
      obtain ⟨j, hj, _⟩ := typeIn_mem hf
      exact (schema_ok h _ (List.mem_of_getElem? hj)).2.1 _ h1
theorem typeIn_ok {w : World} {A B : Nat} {v : Value} {s : List TypeP} (h : SchemaAt w A B v s) (t : ByteArray) : (typeIn t s).ok := by
  cases hf : freshB t s with
  | true => rw [typeIn_zero hf]; exact ⟨by unfold OkS; decide, by unfold OkI zeroType; simp, by unfold OkI zeroType; simp⟩
  | false =>
    obtain ⟨j, hj, _⟩ := typeIn_mem hf
    exact (schema_ok h _ (List.mem_of_getElem? hj)).1
end Go.Proofs.YtceabbbmgfeofaaGreatDoor.Rw
