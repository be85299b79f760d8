/-
  The model's reading of words, plain: of a right Doc's words it reads the Doc; no program. Conditions: a right Doc.
-/
import Derived.Test.YtnkknfnndoegpaaGreatDoorRows
import Derived.Test.YtnkknfnndoegpaaGreatDoorParse
namespace Go.Proofs.YtnkknfnndoegpaaGreatDoor.Selss
open Go.RowKit Words Decs Splits
set_option linter.unusedVariables false

theorem bl_cons {s : ByteArray} (h : 1 ≤ s.size) : ∃ c r, bl s = c :: r := by
  cases hb : bl s with
  | nil => exact absurd hb (bl_pos h)
  | cons c r => exact ⟨c, r, rfl⟩
theorem word_cons {s : ByteArray} (h : wordB s = true) : ∃ c r, bl s = c :: r ∧ 97 ≤ c.toNat := by
  obtain ⟨c, r, e⟩ := bl_cons (ofB_pos (wordB_of h).1)
  exact ⟨c, r, e, by have := (ofB_mem (wordB_of h).1 (x := c) (by rw [e]; simp)).1; omega⟩
/-- A field's word, in parts. -/
theorem field_bl (key nm : ByteArray) (f : Int) : bl (fieldT key nm f) = ((if key = nm then [] else bl key ++ [58]) ++ bl nm) ++ (if f = -1 then [] else (40 : UInt8) :: (bl (decB f) ++ [41])) := by
  unfold fieldT
  by_cases h1 : key = nm <;> by_cases h2 : f = -1 <;> simp [h1, h2, bl_append, bl_sB]
theorem not_dec {f : Int} (h0 : 0 ≤ f) (h1 : f ≤ 100) {c : UInt8} (hc : c.toNat < 48) : c ∉ bl (decB f) := fun hm => by
  rw [bl_dec h0] at hm
  have := (decL_small' (by omega) c hm).1; omega
theorem dec_ne (f : Int) (h : 0 ≤ f) : bl (decB f) ≠ [] := by
  rw [bl_dec h]
  intro e
  by_cases h10 : f.toNat < 10
  · rw [decL_small h10] at e; cases e
  · rw [decL_big (by omega)] at e; simp at e
theorem field_head {key nm : ByteArray} {f : Int} (hk : wordB key = true) (hn : wordB nm = true) : ∃ c r, bl (fieldT key nm f) = c :: r ∧ 97 ≤ c.toNat ∧ c.toNat ≤ 122 := by
  rw [field_bl]
  have top : ∀ {s : ByteArray} {c : UInt8} {r : List UInt8}, wordB s = true → bl s = c :: r → 97 ≤ c.toNat ∧ c.toNat ≤ 122 := fun hw e => by
    have := ofB_mem (wordB_of hw).1 (x := _) (by rw [e]; exact List.mem_cons_self ..)
    omega
  by_cases h1 : key = nm
  · obtain ⟨c, r, e, _⟩ := word_cons hn
    rw [if_pos h1, e]
    exact ⟨c, _, by simp only [List.nil_append, List.cons_append]; rfl, top hn e⟩
  · obtain ⟨c, r, e, _⟩ := word_cons hk
    rw [if_neg h1, e]
    exact ⟨c, _, by simp only [List.nil_append, List.cons_append, List.append_assoc]; rfl, top hk e⟩
theorem field_blank {key nm : ByteArray} {f : Int} (hk : wordB key = true) (hn : wordB nm = true) (h0 : -1 ≤ f) (h1 : f ≤ 100) : (32 : UInt8) ∉ bl (fieldT key nm f) := by
  rw [field_bl]
  have a := not_mem_word hk (c := 32) (by decide)
  have b := not_mem_word hn (c := 32) (by decide)
  by_cases e1 : key = nm <;> by_cases e2 : f = -1
  · simp [e1, e2, b]
  · have d := not_dec (f := f) (by omega) h1 (c := 32) (by decide)
    simp [e1, e2, b, d]
  · simp [e1, e2, a, b]
  · have d := not_dec (f := f) (by omega) h1 (c := 32) (by decide)
    simp [e1, e2, a, b, d]
theorem field_read {key nm : ByteArray} {f : Int} (hk : wordB key = true) (hn : wordB nm = true) (h0 : -1 ≤ f) (h1 : f ≤ 100) : fieldP (bl (fieldT key nm f)) = (bl key, bl nm, f) := by
  rw [field_bl]
  have ka := not_mem_word hk (c := 40) (by decide)
  have kb := not_mem_word hk (c := 58) (by decide)
  have na := not_mem_word hn (c := 40) (by decide)
  have nb := not_mem_word hn (c := 58) (by decide)
  have hA : (40 : UInt8) ∉ ((if key = nm then [] else bl key ++ [58]) ++ bl nm) := by
    by_cases e1 : key = nm
    · simp [e1, na]
    · simp [e1, ka, na]
  have hS : splitL 58 ((if key = nm then [] else bl key ++ [58]) ++ bl nm) = (if key = nm then [bl nm] else [bl key, bl nm]) := by
    by_cases e1 : key = nm
    · rw [if_pos e1, if_pos e1, List.nil_append, splitL_last nb]
    · rw [if_neg e1, if_neg e1, List.append_assoc, List.singleton_append, splitL_word kb, splitL_last nb]
  have hK : ((if key = nm then [bl nm] else [bl key, bl nm]) : List Tok).headD [] = bl key ∧ ((if key = nm then [bl nm] else [bl key, bl nm]) : List Tok).getLastD [] = bl nm := by
    by_cases e1 : key = nm
    · rw [if_pos e1, e1]; exact ⟨rfl, rfl⟩
    · rw [if_neg e1]; exact ⟨rfl, rfl⟩
  generalize ((if key = nm then [] else bl key ++ [58]) ++ bl nm) = A at hA hS
  by_cases e2 : f = -1
  · rw [if_pos e2, List.append_nil]
    unfold fieldP
    rw [splitL_last hA]
    simp only [List.headD_cons, hS, hK.1, hK.2, e2]
    rfl
  · have hf0 : 0 ≤ f := by omega
    have hd : (40 : UInt8) ∉ bl (decB f) ++ [41] := by
      have := not_dec hf0 h1 (c := 40) (by decide)
      simp [this]
    rw [if_neg e2]
    unfold fieldP
    rw [splitL_word hA, splitL_last hd]
    simp only [List.headD_cons, hS, hK.1, hK.2]
    have hne := dec_ne f hf0
    have hlen : 1 < (bl (decB f) ++ [41]).length := by
      rw [List.length_append]
      have := List.length_pos_iff.2 hne
      simp; omega
    simp only [List.getD_cons_succ, List.getD_cons_zero, List.length_cons, List.length_nil]
    rw [if_pos ⟨trivial, hlen⟩, List.dropLast_concat, num_dec hf0 h1]
end Go.Proofs.YtnkknfnndoegpaaGreatDoor.Selss
