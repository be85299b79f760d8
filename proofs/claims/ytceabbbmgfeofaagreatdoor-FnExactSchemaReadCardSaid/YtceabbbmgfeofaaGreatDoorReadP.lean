/-
  A schema read off a text, plainly; no program. Conditions: as each theorem says.
-/
import Derived.Test.YtceabbbmgfeofaaGreatDoorRows
import Derived.Test.YtceabbbmgfeofaaGreatDoorPartM
namespace Go.Proofs.YtceabbbmgfeofaaGreatDoor.Rw
open Go.RowKit Words Decs Splits
set_option linter.unusedVariables false
set_option maxRecDepth 100000

def leafW : List UInt8 := [108, 101, 97, 102]
def objW : List UInt8 := [111, 98, 106]
def oneW : List UInt8 := [111, 110, 101]
def kindP (w0 : List UInt8) : Int := if w0 = leafW then 1 else if w0 = objW then 2 else if w0 = oneW then 3 else 0
/-- A line's type with one more word. -/
def stepP (w0 : List UInt8) (x : TypeP) (a : List UInt8) : TypeP :=
  if w0 = leafW then { x with bytes := numR a } else if w0 = objW then { x with fields := x.fields ++ [partP2 a] } else if w0 = oneW then { x with members := x.members ++ [ubR a] } else x
def nameP (ws : List (List UInt8)) : ByteArray := if 1 < ws.length then ubR (ws.getD 1 []) else ByteArray.empty
def argsP (ws : List (List UInt8)) : List (List UInt8) := (ws.drop 2).take 10
def bodyP (w0 : List UInt8) (nm : ByteArray) (l : List (List UInt8)) : TypeP := l.foldl (stepP w0) ⟨nm, 0, 0, [], []⟩
def lineP (ws : List (List UInt8)) : TypeP := { bodyP (ws.headD []) (nameP ws) (argsP ws) with kind := kindP (ws.headD []) }
def schemaP (t : List UInt8) : List TypeP := (((splitL 10 t).dropLast).take 13).map fun l => lineP (splitL 32 l)
theorem bodyP_snoc (w0 : List UInt8) (nm : ByteArray) (l : List (List UInt8)) (a : List UInt8) : bodyP w0 nm (l ++ [a]) = stepP w0 (bodyP w0 nm l) a := by
  unfold bodyP; rw [List.foldl_append]; rfl
/-- What a line's words leave of a type. -/
structure BodyOk (w0 : List UInt8) (nm : ByteArray) (n : Nat) (x : TypeP) : Prop where
  name : x.name = nm
  kind : x.kind = 0
  bytes : -1 ≤ x.bytes ∧ x.bytes ≤ 1000000000
  leaf : w0 ≠ leafW → x.bytes = 0
  fields : w0 ≠ objW → x.fields = []
  members : w0 ≠ oneW → x.members = []
  few : x.fields.length ≤ n
  fewM : x.members.length ≤ n
theorem numR_range (t : List UInt8) : -1 ≤ numR t ∧ numR t ≤ 1000000000 := by
  by_cases h1 : t.length < 1 ∨ 9 < t.length ∨ (1 < t.length ∧ t.headD 0 = 48)
  · rw [numR_no h1]; omega
  · by_cases h2 : t.all digR = true
    · rw [numR_of h1 h2]
      have := valR_range t.length t rfl h2
      have := pow9R t.length (by omega)
      omega
    · obtain ⟨c, hc, hd⟩ : ∃ c ∈ t, digR c = false := by
        simpa using h2
      rw [numR_bad hc hd]; omega
theorem body_ok (w0 : List UInt8) (nm : ByteArray) : ∀ (n : Nat) (l : List (List UInt8)), l.length = n → BodyOk w0 nm n (bodyP w0 nm l)
  | 0, l, h => by
    obtain rfl := List.eq_nil_of_length_eq_zero h
    exact ⟨rfl, rfl, ⟨by show (-1 : Int) ≤ 0; decide, by show (0 : Int) ≤ 1000000000; decide⟩, fun _ => rfl, fun _ => rfl, fun _ => rfl, Nat.le_refl _, Nat.le_refl _⟩
  | n + 1, l, h => by
    rcases List.eq_nil_or_concat l with rfl | ⟨q, a, rfl⟩
    · simp at h
    · rw [List.concat_eq_append] at h ⊢
      have ih := body_ok w0 nm n q (by simpa using h)
      rw [bodyP_snoc]
      generalize bodyP w0 nm q = x at ih ⊢
      obtain ⟨h1, h2, h3, h4, h5, h6, h7, h8⟩ := ih
      have hne1 : leafW ≠ objW := by decide
      have hne2 : leafW ≠ oneW := by decide
      have hne3 : objW ≠ oneW := by decide
      unfold stepP
      by_cases e1 : w0 = leafW
      · rw [if_pos e1]
        subst e1
        exact ⟨h1, h2, numR_range a, fun e => absurd rfl e, h5, h6, by show x.fields.length ≤ _; omega, by show x.members.length ≤ _; omega⟩
      · rw [if_neg e1]
        by_cases e2 : w0 = objW
        · rw [if_pos e2]
          exact ⟨h1, h2, h3, h4, fun e => absurd e2 e, h6, by simp; omega, by show x.members.length ≤ _; omega⟩
        · rw [if_neg e2]
          by_cases e3 : w0 = oneW
          · rw [if_pos e3]
            exact ⟨h1, h2, h3, h4, h5, fun e => absurd e3 e, by show x.fields.length ≤ _; omega, by simp; omega⟩
          · rw [if_neg e3]
            exact ⟨h1, h2, h3, h4, h5, h6, by omega, by omega⟩
theorem head_len (c : UInt8) (l : List UInt8) : ((splitL c l).headD []).length ≤ l.length := by
  obtain ⟨a, r, h⟩ := consR (splitL_ne c l)
  have := splitR_sizes c l a (by rw [h]; simp)
  rw [h]; exact this
theorem get_len (c : UInt8) (l : List UInt8) (i : Nat) : ((splitL c l).getD i []).length ≤ l.length := by
  rw [List.getD_eq_getElem?_getD]
  cases h : (splitL c l)[i]? with
  | none => simp
  | some a => exact splitR_sizes c l a (List.mem_iff_getElem?.2 ⟨i, h⟩)
theorem okI_num (t : List UInt8) : OkI (numR t) := by have := numR_range t; unfold OkI; omega
theorem okI_0 : OkI 0 := by unfold OkI; omega
theorem okS_ub {l : List UInt8} (h : l.length ≤ 8000) : OkS (ubR l) := by unfold OkS; rw [ubR_size]; omega
theorem rest_ok {nm : ByteArray} {m : Bool} {b : List UInt8} (h1 : OkS nm) (h2 : b.length ≤ 8000) : (rest2 nm m b).ok := by
  have hh : OkS (ubR ((splitL 91 b).headD [])) := okS_ub (Nat.le_trans (head_len 91 b) h2)
  unfold rest2
  by_cases h3 : (splitL 91 b).length = 2 ∧ 1 < ((splitL 91 b).getD 1 []).length
  · simp only [if_pos h3]
    by_cases h4 : ((splitL 91 b).getD 1 []).dropLast.headD 0 = 60
    · rw [if_pos h4]; exact ⟨h1, hh, okI_0, okI_num _⟩
    · rw [if_neg h4]; exact ⟨h1, hh, okI_num _, okI_0⟩
  · simp only [if_neg h3]; exact ⟨h1, hh, okI_0, okI_0⟩
theorem part2_ok {m : Bool} {l : List UInt8} (h : l.length ≤ 8000) : (part2 m l).ok := by
  have hh : OkS (ubR ((splitL 58 l).headD [])) := okS_ub (Nat.le_trans (head_len 58 l) h)
  unfold part2
  by_cases h3 : (splitL 58 l).length = 2
  · simp only [if_pos h3]; exact rest_ok hh (Nat.le_trans (get_len 58 l 1) h)
  · simp only [if_neg h3]; exact ⟨hh, by unfold OkS; simp, okI_0, okI_0⟩
theorem partP2_ok {l : List UInt8} (h : l.length ≤ 8000) : (partP2 l).ok := by
  unfold partP2
  split
  · exact part2_ok (by rw [List.length_dropLast]; omega)
  · exact part2_ok h
theorem body_each (w0 : List UInt8) (nm : ByteArray) : ∀ (n : Nat) (l : List (List UInt8)), l.length = n → (∀ a ∈ l, a.length ≤ 8000) → (∀ f ∈ (bodyP w0 nm l).fields, f.ok) ∧ ∀ m ∈ (bodyP w0 nm l).members, OkS m
  | 0, l, h, _ => by
    obtain rfl := List.eq_nil_of_length_eq_zero h
    exact ⟨fun f hf => absurd hf (List.not_mem_nil), fun m hm => absurd hm (List.not_mem_nil)⟩
  | n + 1, l, h, ha => by
    rcases List.eq_nil_or_concat l with rfl | ⟨q, a, rfl⟩
    · simp at h
    · rw [List.concat_eq_append] at h ha ⊢
      have ih := body_each w0 nm n q (by simpa using h) fun x hx => ha x (by simp [hx])
      have hal := ha a (by simp)
      rw [bodyP_snoc]
      generalize bodyP w0 nm q = x at ih ⊢
      obtain ⟨h1, h2⟩ := ih
      unfold stepP
      split
      · exact ⟨h1, h2⟩
      · split
        · refine ⟨fun f hf => ?_, h2⟩
          rcases List.mem_append.1 hf with hf | hf
          · exact h1 f hf
          · rw [List.mem_singleton] at hf; subst hf; exact partP2_ok hal
        · split
          · refine ⟨h1, fun m hm => ?_⟩
            rcases List.mem_append.1 hm with hm | hm
            · exact h2 m hm
            · rw [List.mem_singleton] at hm; subst hm; exact okS_ub hal
          · exact ⟨h1, h2⟩
/-- The kind as far as the words have been looked at. -/
def kindAt (w0 : List UInt8) (q : Nat) : Int := if kindP w0 < q then kindP w0 else 0
theorem kindP_range (w0 : List UInt8) : 0 ≤ kindP w0 ∧ kindP w0 ≤ 3 := by
  unfold kindP
  split
  · omega
  · split
    · omega
    · split <;> omega
theorem kindAt_one (w0 : List UInt8) : kindAt w0 1 = 0 := by
  have := kindP_range w0
  unfold kindAt
  split <;> omega
theorem kindAt_four (w0 : List UInt8) : kindAt w0 4 = kindP w0 := by
  have := kindP_range w0
  unfold kindAt
  rw [if_pos (by omega)]
theorem kindAt_yes {w0 : List UInt8} {q : Nat} (h : kindP w0 = q) : kindAt w0 (q + 1) = q := by
  unfold kindAt
  rw [if_pos (by omega), h]
theorem kindAt_no {w0 : List UInt8} {q : Nat} (h : kindP w0 ≠ q) : kindAt w0 (q + 1) = kindAt w0 q := by
  unfold kindAt
  by_cases g : kindP w0 < q
  · rw [if_pos g, if_pos (by omega)]
  · rw [if_neg g, if_neg (by omega)]
theorem kindP_leaf (w0 : List UInt8) : kindP w0 = 1 ↔ w0 = leafW := by
  unfold kindP
  by_cases h1 : w0 = leafW
  · simp [h1]
  · rw [if_neg h1]
    constructor
    · intro h; split at h
      · omega
      · split at h <;> omega
    · intro h; exact absurd h h1
theorem kindP_obj (w0 : List UInt8) : kindP w0 = 2 ↔ w0 = objW := by
  unfold kindP
  by_cases h2 : w0 = objW
  · subst h2; simp [show objW ≠ leafW by decide]
  · constructor
    · intro h; split at h
      · omega
      · split at h <;> omega
    · intro h; exact absurd h h2
theorem kindP_one (w0 : List UInt8) : kindP w0 = 3 ↔ w0 = oneW := by
  unfold kindP
  by_cases h2 : w0 = oneW
  · subst h2; simp [show oneW ≠ leafW by decide, show oneW ≠ objW by decide]
  · constructor
    · intro h; split at h
      · omega
      · split at h
        · omega
        · omega
    · intro h; exact absurd h h2
end Go.Proofs.YtceabbbmgfeofaaGreatDoor.Rw
