/-
  What is printed is read back, plainly: a field's word; no program. Conditions: as each theorem says.
-/
import Derived.Test.YtceabbbmgfeofaaGreatDoorRows
import Derived.Test.YtceabbbmgfeofaaGreatDoorReadP
namespace Go.Proofs.YtceabbbmgfeofaaGreatDoor.Rw
open Go.RowKit Words Decs Splits
set_option linter.unusedVariables false
set_option maxRecDepth 100000

theorem splitR_word {c : UInt8} : ∀ {t : List UInt8}, c ∉ t → ∀ rest, splitL c (t ++ c :: rest) = t :: splitL c rest
  | [], _, rest => by simp [splitL]
  | x :: t, h, rest => by
    simp only [List.mem_cons, not_or] at h
    rw [List.cons_append, splitL, if_neg (fun e => h.1 e.symm), splitR_word h.2 rest]
    rfl
theorem splitR_last {c : UInt8} : ∀ {t : List UInt8}, c ∉ t → splitL c t = [t]
  | [], _ => rfl
  | x :: t, h => by
    simp only [List.mem_cons, not_or] at h
    rw [splitL, if_neg (fun e => h.1 e.symm), splitR_last h.2]
    rfl
theorem ubR_bL (b : ByteArray) : ubR (bL b) = b := ub_bL b
theorem bL_cB (l : List UInt8) : bL (cB l) = l := by simp [bL, cB]
/-- The bytes of a word lie between two bounds. -/
theorem of_bytes {s : ByteArray} {a b : Nat} (h : ofB s a b = true) : ∀ x ∈ bL s, a ≤ x.toNat ∧ x.toNat ≤ b := by
  unfold ofB at h
  have h2 := @of_decide_eq_true _ (Classical.propDecidable _) h
  intro x hx
  obtain ⟨i, hi⟩ := List.mem_iff_getElem?.1 hx
  obtain ⟨hl, rfl⟩ := List.getElem?_eq_some_iff.1 hi
  rw [bL_len] at hl
  have := h2.each i hl
  have e : bt s i = ((s[i]).toNat : Int) := by unfold bt; simp [hl]
  rw [e] at this
  show a ≤ (s[i]).toNat ∧ (s[i]).toNat ≤ b
  omega
theorem word_bytes {s : ByteArray} (h : wordB s = true) : ∀ x ∈ bL s, 97 ≤ x.toNat ∧ x.toNat ≤ 122 := by
  unfold wordB at h
  rw [Bool.and_eq_true] at h
  exact of_bytes h.1
theorem type_bytes {s : ByteArray} (h : typeB s = true) : ∀ x ∈ bL s, 65 ≤ x.toNat ∧ x.toNat ≤ 90 := of_bytes h
theorem not_in {l : List UInt8} {a b : Nat} (h : ∀ x ∈ l, a ≤ x.toNat ∧ x.toNat ≤ b) {c : UInt8} (hc : c.toNat < a ∨ b < c.toNat) : c ∉ l := fun hm => by
  have := h c hm; omega
theorem dec_bytes {f : Int} (h0 : 0 ≤ f) (h1 : f ≤ 100) : ∀ x ∈ bL (decB f), 48 ≤ x.toNat ∧ x.toNat ≤ 57 := by
  rw [bL_dec h0]
  exact decLsm (by omega)
theorem dec_some {f : Int} (h0 : 0 ≤ f) (h1 : f ≤ 100) : 1 ≤ (bL (decB f)).length := by
  rw [bL_dec h0]
  by_cases h : f.toNat < 10
  · rw [decL_small h]; simp
  · rw [decL_big (by omega)]; simp
/-- What a field tells behind its type, but for its must. -/
def coreT (f : FieldP) : List UInt8 :=
  if f.list = true then (if f.cap = 0 then 91 :: (bL (decB f.size) ++ [93]) else 91 :: 60 :: (bL (decB f.cap) ++ [93])) else []
theorem tail_core {f : FieldP} (h : sizedB f = true) : bL (tailT f) = coreT f ++ (if f.must = true then [33] else []) := by
  unfold tailT coreT
  have hm : bL (if f.must = true then cB [33] else ByteArray.empty) = if f.must = true then [33] else [] := by split <;> simp [bL_cB, bL_empty]
  rw [bL_append, hm]
  congr 1
  rcases sized_cases h with ⟨h1, h2, h3⟩ | ⟨h1, h2, h3, h4⟩ | ⟨h1, h2, h3, h4⟩
  · rw [if_neg (by rw [h1]; simp), if_neg (by rw [h1]; simp), if_neg (by rw [h1]; simp)]; rfl
  · rw [if_pos ⟨h1, h2⟩, if_neg (by omega), if_pos h1, if_pos h2]
    simp [bL_append, bL_cB]
  · rw [if_neg (by omega), if_pos ⟨h1, by omega⟩, if_pos h1, if_neg (by omega)]
    simp [bL_append, bL_cB]
theorem rest2_core {f : FieldP} {T : List UInt8} (h : sizedB f = true) (hT : ∀ x ∈ T, 65 ≤ x.toNat ∧ x.toNat ≤ 90) (nm : ByteArray) : rest2 nm f.must (T ++ coreT f) = ⟨nm, ubR T, f.list, f.must, f.size, f.cap⟩ := by
  have h91 : (91 : UInt8) ∉ T := not_in hT (.inr (by decide))
  unfold coreT
  rcases sized_cases h with ⟨h1, h2, h3⟩ | ⟨h1, h2, h3, h4⟩ | ⟨h1, h2, h3, h4⟩
  · rw [if_neg (by rw [h1]; simp), List.append_nil]
    unfold rest2
    rw [splitR_last h91]
    simp [h1, h2, h3]
  · rw [if_pos h1, if_pos h2]
    have hd := dec_bytes h3 h4
    have hl := dec_some h3 h4
    have hn := num_dec h3 h4
    generalize bL (decB f.size) = D at *
    have h91d : (91 : UInt8) ∉ D ++ [93] := by
      intro e
      rcases List.mem_append.1 e with e | e
      · exact not_in hd (c := 91) (.inr (by decide)) e
      · simp at e
    unfold rest2
    rw [splitR_word h91, splitR_last h91d]
    obtain ⟨c, r, rfl⟩ : ∃ c r, D = c :: r := by cases D with
      | nil => simp at hl
      | cons c r => exact ⟨c, r, rfl⟩
    have hc : c ≠ 60 := fun e => by
      have := hd c (by simp); rw [e] at this; exact absurd this (by decide)
    have hdl : (c :: (r ++ [93])).dropLast = c :: r := by rw [← List.cons_append, List.dropLast_concat]
    simp [h1, h2, hdl, hc, hn]
  · rw [if_pos h1, if_neg (by omega)]
    have h0 : (0 : Int) ≤ f.cap := by omega
    have hd := dec_bytes h0 h4
    have hn := num_dec h0 h4
    generalize bL (decB f.cap) = D at *
    have h91d : (91 : UInt8) ∉ 60 :: (D ++ [93]) := by
      intro e
      rcases List.mem_cons.1 e with e | e
      · exact absurd e (by decide)
      rcases List.mem_append.1 e with e | e
      · exact not_in hd (c := 91) (.inr (by decide)) e
      · simp at e
    unfold rest2
    rw [splitR_word h91, splitR_last h91d]
    have hdl : (60 :: (D ++ [93])).dropLast = 60 :: D := by rw [← List.cons_append, List.dropLast_concat]
    simp [h1, h2, hdl, hn]
/-- A field's word. -/
def wordT (f : FieldP) : List UInt8 := bL f.name ++ 58 :: (bL f.typ ++ bL (tailT f))
theorem core_bytes {f : FieldP} (h : sizedB f = true) : ∀ x ∈ coreT f, x = 91 ∨ x = 93 ∨ x = 60 ∨ (48 ≤ x.toNat ∧ x.toNat ≤ 57) := by
  intro x hx
  unfold coreT at hx
  rcases sized_cases h with ⟨h1, h2, h3⟩ | ⟨h1, h2, h3, h4⟩ | ⟨h1, h2, h3, h4⟩
  · rw [if_neg (by rw [h1]; simp)] at hx; cases hx
  · rw [if_pos h1, if_pos h2] at hx
    rcases List.mem_cons.1 hx with e | hx
    · exact .inl e
    rcases List.mem_append.1 hx with e | hx
    · exact .inr (.inr (.inr (dec_bytes h3 h4 x e)))
    · exact .inr (.inl (by simpa using hx))
  · rw [if_pos h1, if_neg (by omega)] at hx
    rcases List.mem_cons.1 hx with e | hx
    · exact .inl e
    rcases List.mem_cons.1 hx with e | hx
    · exact .inr (.inr (.inl e))
    rcases List.mem_append.1 hx with e | hx
    · exact .inr (.inr (.inr (dec_bytes (by omega) h4 x e)))
    · exact .inr (.inl (by simpa using hx))
theorem core_no {f : FieldP} (h : sizedB f = true) {c : UInt8} (h1 : c ≠ 91) (h2 : c ≠ 93) (h3 : c ≠ 60) (h4 : c.toNat < 48 ∨ 57 < c.toNat) : c ∉ coreT f := fun e => by
  rcases core_bytes h c e with e | e | e | e
  · exact h1 e
  · exact h2 e
  · exact h3 e
  · omega
theorem read_field {s : List TypeP} {f : FieldP} (h : FieldOk s f) : partP2 (wordT f) = f := by
  have hN := word_bytes h.word
  have hT := type_bytes h.typ
  have hZ := h.sized
  have body : part2 f.must (bL f.name ++ 58 :: (bL f.typ ++ coreT f)) = f := by
    unfold part2
    have h58 : (58 : UInt8) ∉ bL f.typ ++ coreT f := fun e => by
      rcases List.mem_append.1 e with e | e
      · exact not_in hT (c := 58) (.inl (by decide)) e
      · exact core_no hZ (by decide) (by decide) (by decide) (.inr (by decide)) e
    rw [splitR_word (not_in hN (.inl (by decide))), splitR_last h58]
    show (if (2 : Nat) = 2 then rest2 (ubR (bL f.name)) f.must (bL f.typ ++ coreT f) else _) = f
    rw [if_pos rfl, rest2_core hZ hT, ubR_bL, ubR_bL]
  unfold wordT
  rw [tail_core hZ]
  cases hm : f.must with
  | true =>
    rw [hm] at body
    rw [if_pos rfl, ← List.append_assoc (bL f.typ), ← List.cons_append, ← List.append_assoc]
    unfold partP2
    rw [List.getLast?_concat, if_pos rfl, List.dropLast_concat]; exact body
  | false =>
    rw [hm] at body
    rw [if_neg (by simp), List.append_nil]
    unfold partP2
    rw [if_neg ?_]
    · exact body
    · intro e
      have hmem := List.mem_of_getLast? e
      rcases List.mem_append.1 hmem with e | e
      · exact not_in hN (c := 33) (.inl (by decide)) e
      rcases List.mem_cons.1 e with e | e
      · exact absurd e (by decide)
      rcases List.mem_append.1 e with e | e
      · exact not_in hT (c := 33) (.inl (by decide)) e
      · exact core_no hZ (by decide) (by decide) (by decide) (.inl (by decide)) e
theorem word_clean {s : List TypeP} {f : FieldP} (h : FieldOk s f) {c : UInt8} (hc : c = 32 ∨ c = 10) : c ∉ wordT f := fun e => by
  unfold wordT at e
  rw [tail_core h.sized] at e
  have h33 : c.toNat = 32 ∨ c.toNat = 10 := by rcases hc with rfl | rfl <;> decide
  rcases List.mem_append.1 e with e | e
  · exact not_in (word_bytes h.word) (c := c) (.inl (by omega)) e
  rcases List.mem_cons.1 e with e | e
  · rw [e] at h33; exact absurd h33 (by decide)
  rcases List.mem_append.1 e with e | e
  · exact not_in (type_bytes h.typ) (c := c) (.inl (by omega)) e
  rcases List.mem_append.1 e with e | e
  · refine core_no h.sized ?_ ?_ ?_ (.inl (by omega)) e <;> (rintro rfl; exact absurd h33 (by decide))
  · split at e
    · rw [List.mem_singleton] at e; rw [e] at h33; exact absurd h33 (by decide)
    · cases e
end Go.Proofs.YtceabbbmgfeofaaGreatDoor.Rw
