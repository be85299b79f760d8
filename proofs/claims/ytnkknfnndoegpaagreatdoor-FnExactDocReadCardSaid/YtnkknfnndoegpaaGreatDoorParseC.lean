/-
  The model's reading of words, plain: of a right Doc's words it reads the Doc; no program. Conditions: a right Doc.
-/
import Derived.Test.YtnkknfnndoegpaaGreatDoorRows
import Derived.Test.YtnkknfnndoegpaaGreatDoorParseB
namespace Go.Proofs.YtnkknfnndoegpaaGreatDoor.Selss
open Go.RowKit Words Decs Splits
set_option linter.unusedVariables false

theorem selsB_mono : ∀ {s : Sels} {a b : Int}, a ≤ b → selsB s a = true → selsB s b = true
  | .nil, _, _, _, _ => rfl
  | .cons k key nm f u r, a, b, hab, h => by
    unfold selsB at h ⊢
    simp only [Bool.and_eq_true, decide_eq_true_eq] at h ⊢
    exact ⟨⟨⟨h.1.1.1, by omega⟩, selsB_mono (by omega) h.1.2⟩, selsB_mono hab h.2⟩
/-- What one selection that may be is like, wholly. -/
theorem oneB_full {k : Int} {key nm : ByteArray} {f : Int} {n : Nat} (h : oneB k key nm f n = true) :
    (k = 1 ∧ wordB key = true ∧ wordB nm = true ∧ -1 ≤ f ∧ f ≤ 100) ∨ (k = 2 ∧ key = ByteArray.empty ∧ typeB nm = true ∧ f = -1 ∧ 0 < n) ∨ (k = 3 ∧ key = ByteArray.empty ∧ wordB nm = true ∧ f = -1 ∧ n = 0) := by
  unfold oneB at h
  simp only [Bool.or_eq_true, Bool.and_eq_true, beq_iff_eq, decide_eq_true_eq] at h
  have em : ∀ {b : ByteArray}, b.toList = [] → b = ByteArray.empty := fun e => bl_inj (by unfold bl; rw [← Lib.toList_data, e]; rfl)
  rcases h with (⟨h1, h2, h3, h4, h5⟩ | ⟨h1, h2, h3, h4, h5⟩) | ⟨h1, h2, h3, h4, h5⟩
  · exact .inl ⟨h1, h2, h3, h4, h5⟩
  · exact .inr (.inl ⟨h1, em h2, h3, h4, h5⟩)
  · exact .inr (.inr ⟨h1, em h2, h3, h4, h5⟩)
theorem len_zero {s : Sels} (h : s.len = 0) : s = .nil := by cases s with
  | nil => rfl
  | cons => simp [Sels.len] at h
theorem ub_nil : ub [] = ByteArray.empty := rfl
theorem pLoop_stop (sub : List Tok → Sels × List Tok) (m : Nat) (W : List Tok) : pLoop sub (m + 1) ([125] :: W) = (.nil, [125] :: W) := by
  rw [pLoop, if_pos rfl]
theorem pLoop_more {sub : List Tok → Sels × List Tok} {m : Nat} {t : Tok} {W W2 W3 W4 : List Tok} {k : Int} {key nm : Tok} {f : Int} {u r : Sels} (ht : t ≠ [125]) (hh : headP t W = (k, key, nm, f, W2)) (hk : k ≠ 3) (hw : word W2 = [123]) (hu : sub W2 = (u, W3)) (hr : pLoop sub m W3 = (r, W4)) :
    pLoop sub (m + 1) (t :: W) = (.cons k (ub key) (ub nm) f u r, W4) := by
  rw [pLoop, if_neg ht]
  simp only [hh]
  rw [if_pos ⟨hk, hw⟩]
  simp only [hu, hr]
theorem pLoop_flat {sub : List Tok → Sels × List Tok} {m : Nat} {t : Tok} {W W2 W4 : List Tok} {k : Int} {key nm : Tok} {f : Int} {r : Sels} (ht : t ≠ [125]) (hh : headP t W = (k, key, nm, f, W2)) (hk : k = 3 ∨ word W2 ≠ [123]) (hr : pLoop sub m W2 = (r, W4)) :
    pLoop sub (m + 1) (t :: W) = (.cons k (ub key) (ub nm) f .nil r, W4) := by
  rw [pLoop, if_neg ht]
  simp only [hh]
  rw [if_neg (by rintro ⟨a, b⟩; rcases hk with h | h; · exact a h
                 · exact h b)]
  simp only [hr]
/-- No selection's first word is a brace. -/
theorem toks_word {s : Sels} {deep : Int} (h : selsB s deep = true) (rest : List Tok) : word (s.toks ++ [125] :: rest) ≠ [123] := by
  cases s with
  | nil => intro e; cases e
  | cons k key nm f u r =>
    unfold selsB at h
    simp only [Bool.and_eq_true] at h
    rcases oneB_full h.1.1.1 with ⟨rfl, h1, h2, h3, h4⟩ | ⟨rfl, h1, h2, h3, h4⟩ | ⟨rfl, h1, h2, h3, h4⟩
    · obtain ⟨c, q, e, _, hc⟩ := field_head (f := f) h1 h2
      simp only [Sels.toks]
      rw [if_neg (by decide), if_neg (by decide), e]
      intro e2
      simp [word] at e2
      obtain ⟨rfl, _⟩ := e2
      exact absurd hc (by decide)
    · simp only [Sels.toks]
      rw [if_neg (by decide), if_pos trivial]
      intro e2; simp [word] at e2
    · simp only [Sels.toks]
      rw [if_pos trivial]
      intro e2; simp [word] at e2

theorem pLoop_toks : ∀ (s : Sels) (d : Nat), selsB s ((d : Int) + 1) = true → s.all ≤ 60 → ∀ (m : Nat) (rest : List Tok), s.len ≤ m → pLoop (pSels d) (m + 1) (s.toks ++ [125] :: rest) = (s, [125] :: rest)
  | .nil, d, _, _, m, rest, _ => pLoop_stop _ _ _
  | .cons k key nm f u r, d, h, hall, m, rest, hm => by
    unfold selsB at h
    simp only [Bool.and_eq_true, decide_eq_true_eq] at h
    obtain ⟨⟨⟨h1, _⟩, hu⟩, hr⟩ := h
    have e0 : (d : Int) + 1 - 1 = d := by omega
    rw [e0] at hu
    simp only [Sels.all] at hall
    simp only [Sels.len] at hm
    obtain ⟨m', rfl⟩ : ∃ m', m = m' + 1 := ⟨m - 1, by omega⟩
    have ihr := pLoop_toks r d hr (by omega) m' rest (by omega)
    have hsub : u.len ≠ 0 → ∀ R, pSels d ([123] :: (u.toks ++ [125] :: R)) = (u, R) := fun hne R => by
      cases hd : d with
      | zero =>
        rw [hd] at hu
        cases hx : u with
        | nil => rw [hx] at hne; exact absurd rfl hne
        | cons a b c e g i =>
          rw [hx] at hu
          unfold selsB at hu
          simp only [Bool.and_eq_true, decide_eq_true_eq] at hu
          exact absurd hu.1.1.2 (by omega)
      | succ d' =>
        rw [hd] at hu
        have ihu := pLoop_toks u d' (by have e : ((d' + 1 : Nat) : Int) = (d' : Int) + 1 := by omega
                                        rw [e] at hu; exact hu) (by omega) 60 R (by have := Sels.len_le_all u; omega)
        unfold pSels
        rw [if_pos (show word ([123] :: (u.toks ++ [125] :: R)) = [123] from rfl)]
        simp only [List.drop_one, List.tail_cons, ihu]
    rcases oneB_full h1 with ⟨rfl, hk, hn, hf0, hf1⟩ | ⟨rfl, rfl, hn, rfl, hpos⟩ | ⟨rfl, rfl, hn, rfl, hz⟩
    · obtain ⟨c, q, e, hc, hc2⟩ := field_head (f := f) hk hn
      have hrd := field_read hk hn hf0 hf1
      have t1 : bl (fieldT key nm f) ≠ [125] := by
        rw [e]; intro e2
        cases e2
        exact absurd hc2 (by decide)
      have hh : ∀ W, headP (bl (fieldT key nm f)) W = (1, bl key, bl nm, f, W) := fun W => by
        unfold headP
        rw [if_neg (by rw [e]; intro e2; cases e2; exact absurd hc (by decide)), if_neg (by rw [e]; rintro ⟨_, e2⟩; simp at e2; obtain ⟨rfl, _⟩ := e2; exact absurd hc (by decide)), hrd]
      simp only [Sels.toks]
      rw [if_neg (by decide), if_neg (by decide)]
      by_cases hl : u.len = 0
      · rw [if_pos hl, len_zero hl]
        have := pLoop_flat (sub := pSels d) (m := m' + 1) t1 (hh (r.toks ++ [125] :: rest)) (.inr (toks_word hr rest)) ihr
        simpa [ub_bl] using this
      · rw [if_neg hl]
        have := pLoop_more (sub := pSels d) (m := m' + 1) t1 (hh ([123] :: (u.toks ++ [125] :: (r.toks ++ [125] :: rest)))) (by decide) rfl (hsub hl _) ihr
        simpa [ub_bl] using this
    · have hh : ∀ W, headP [46, 46, 46, 111, 110] (bl nm :: W) = (2, [], bl nm, -1, W) := fun W => by
        unfold headP; rw [if_pos rfl]; rfl
      simp only [Sels.toks]
      rw [if_neg (by decide), if_pos trivial, if_neg (by omega)]
      have := pLoop_more (sub := pSels d) (m := m' + 1) (t := [46, 46, 46, 111, 110]) (by decide) (hh ([123] :: (u.toks ++ [125] :: (r.toks ++ [125] :: rest)))) (by decide) rfl (hsub (by omega) _) ihr
      simpa [ub_bl, ub_nil] using this
    · obtain ⟨c, q, e, hc⟩ := word_cons hn
      have hno := (wordB_of hn).2.1
      have t1 : [46, 46, 46] ++ bl nm ≠ [125] := by rw [e]; intro e2; cases e2
      have hh : ∀ W, headP ([46, 46, 46] ++ bl nm) W = (3, [], bl nm, -1, W) := fun W => by
        unfold headP
        rw [if_neg (by intro e2; have e3 : [46, 46, 46] ++ bl nm = [46, 46, 46] ++ [111, 110] := e2; exact hno (List.append_cancel_left e3)), if_pos (by rw [e]; exact ⟨by simp, by simp⟩)]
        simp
      simp only [Sels.toks]
      rw [if_pos trivial, len_zero hz]
      have := pLoop_flat (sub := pSels d) (m := m' + 1) t1 (hh (r.toks ++ [125] :: rest)) (.inl rfl) ihr
      simpa [ub_bl, ub_nil] using this

/-- Frags. -/
def pFrags : Nat → List Tok → List FragP × List Tok
  | 0, W => ([], W)
  | m + 1, W =>
    if word W = [102, 114, 97, 103, 109, 101, 110, 116] then
      let W1 := W.drop 1
      let W3 := (W1.drop 1).drop 1
      let s := pSels 7 (W3.drop 1)
      let r := pFrags m s.2
      (⟨ub (word W1), ub (word W3), s.1⟩ :: r.1, r.2)
    else ([], W)
/-- A Doc out of words. -/
def pDoc (W : List Tok) : DocP := ⟨(pSels 7 W).1, (pFrags 6 (pSels 7 W).2).1⟩
theorem pSels_toks {s : Sels} (h : selsB s 6 = true) (hall : s.all ≤ 60) (R : List Tok) : pSels 7 ([123] :: (s.toks ++ [125] :: R)) = (s, R) := by
  have ih := pLoop_toks s 6 (selsB_mono (by omega) h) hall 60 R (by have := Sels.len_le_all s; omega)
  unfold pSels
  rw [if_pos (show word ([123] :: (s.toks ++ [125] :: R)) = [123] from rfl)]
  simp only [List.drop_one, List.tail_cons, ih]
theorem pFrags_toks : ∀ (l : List FragP) (m : Nat), l.length ≤ m → (∀ x ∈ l, selsB x.sels 6 = true ∧ x.sels.all ≤ 60) → (pFrags m (fragsToks l)).1 = l
  | [], 0, _, _ => rfl
  | [], m + 1, _, _ => by
    unfold pFrags
    rw [if_neg (by intro e; cases e)]
  | x :: l, 0, h, _ => by simp at h
  | x :: l, m + 1, h, hx => by
    have h1 := hx x (by simp)
    have ih := pFrags_toks l m (by simpa using h) (fun y hy => hx y (by simp [hy]))
    have e : fragsToks (x :: l) = [102, 114, 97, 103, 109, 101, 110, 116] :: bl x.name :: [111, 110] :: bl x.on :: [123] :: (x.sels.toks ++ [125] :: fragsToks l) := by
      simp [fragsToks, fragToks]
    rw [e]
    unfold pFrags
    rw [if_pos (show word ([102, 114, 97, 103, 109, 101, 110, 116] :: bl x.name :: [111, 110] :: bl x.on :: [123] :: (x.sels.toks ++ [125] :: fragsToks l)) = [102, 114, 97, 103, 109, 101, 110, 116] from rfl)]
    simp only [List.drop_one, List.tail_cons, pSels_toks h1.1 h1.2, ih]
    simp [word, ub_bl]
theorem pDoc_toks {d : DocP} (h : docB d = true) : pDoc (docToks d) = d := by
  obtain ⟨_, hfl, hall, hsel, hfr⟩ := docB_parts h
  have e : docToks d = [123] :: (d.sels.toks ++ [125] :: fragsToks d.frags) := by simp [docToks]
  have hs := pSels_toks hsel (by unfold DocP.all at hall; omega) (fragsToks d.frags)
  have hf := pFrags_toks d.frags 6 (by omega) (fun x hx => by
    obtain ⟨i, hi⟩ := List.mem_iff_getElem?.1 hx
    have hfb := fragB_parts (fragsB_at hfr hi)
    have := fragAll_mem hi
    exact ⟨hfb.2.2.2.2, by unfold DocP.all at hall; omega⟩)
  unfold pDoc
  rw [e, hs]
  simp only [hf]

/-! ### A right Doc comes back from its text -/
theorem toks_blank : ∀ {s : Sels} {deep : Int}, selsB s deep = true → ∀ t ∈ s.toks, (32 : UInt8) ∉ t
  | .nil, _, _, t, ht => by cases ht
  | .cons k key nm f u r, deep, h, t, ht => by
    unfold selsB at h
    simp only [Bool.and_eq_true] at h
    obtain ⟨⟨⟨h1, _⟩, hu⟩, hr⟩ := h
    have ihu : ∀ t ∈ u.toks, (32 : UInt8) ∉ t := toks_blank hu
    have ihr : ∀ t ∈ r.toks, (32 : UInt8) ∉ t := toks_blank hr
    have hin : ∀ t ∈ (if u.len = 0 then ([] : List Tok) else [123] :: (u.toks ++ [[125]])), (32 : UInt8) ∉ t := fun t ht => by
      by_cases hl : u.len = 0
      · rw [if_pos hl] at ht; cases ht
      · rw [if_neg hl] at ht
        simp only [List.mem_cons, List.mem_append, List.not_mem_nil, or_false] at ht
        rcases ht with rfl | ht | rfl
        · decide
        · exact ihu t ht
        · decide
    simp only [Sels.toks, List.mem_append] at ht
    rcases ht with ht | ht
    · rcases oneB_full h1 with ⟨rfl, hk, hn, hf0, hf1⟩ | ⟨rfl, rfl, hn, rfl, hpos⟩ | ⟨rfl, rfl, hn, rfl, hz⟩
      · rw [if_neg (by decide), if_neg (by decide), List.mem_append, List.mem_singleton] at ht
        rcases ht with rfl | ht
        · exact field_blank hk hn hf0 hf1
        · exact hin t ht
      · rw [if_neg (by decide), if_pos rfl, List.mem_append] at ht
        rcases ht with ht | ht
        · simp only [List.mem_cons, List.not_mem_nil, or_false] at ht
          rcases ht with rfl | rfl
          · decide
          · exact not_mem_type hn (by decide)
        · exact hin t ht
      · rw [if_pos rfl, List.mem_singleton] at ht
        subst ht
        have := not_mem_word hn (c := 32) (by decide)
        simp [this]
    · exact ihr t ht
theorem docToks_blank {d : DocP} (h : docB d = true) : ∀ t ∈ docToks d, (32 : UInt8) ∉ t := by
  obtain ⟨_, hfl, hall, hsel, hfr⟩ := docB_parts h
  intro t ht
  unfold docToks at ht
  simp only [List.cons_append, List.mem_cons, List.mem_append, List.not_mem_nil, or_false] at ht
  rcases ht with rfl | (ht | rfl) | ht
  · decide
  · exact toks_blank hsel t ht
  · decide
  · have key : ∀ l : List FragP, (∀ x ∈ l, wordB x.name = true ∧ typeB x.on = true ∧ selsB x.sels 6 = true) → ∀ t ∈ fragsToks l, (32 : UInt8) ∉ t := by
      intro l
      induction l with
      | nil => intro _ t ht; cases ht
      | cons x l ih =>
        intro hl t ht
        obtain ⟨h1, h2, h3⟩ := hl x (by simp)
        simp only [fragsToks, fragToks, List.mem_append, List.mem_cons, List.not_mem_nil, or_false] at ht
        rcases ht with ((rfl | rfl | rfl | rfl) | rfl | ht | rfl) | ht
        · decide
        · exact not_mem_word h1 (by decide)
        · decide
        · exact not_mem_type h2 (by decide)
        · decide
        · exact toks_blank h3 t ht
        · decide
        · exact ih (fun y hy => hl y (by simp [hy])) t ht
    exact key d.frags (fun x hx => by
      obtain ⟨i, hi⟩ := List.mem_iff_getElem?.1 hx
      have hfb := fragB_parts (fragsB_at hfr hi)
      exact ⟨hfb.1, hfb.2.2.1, hfb.2.2.2.2⟩) t ht
/-- What is read of a text. -/
def docOf (t : ByteArray) : DocP := pDoc (splitL 32 (bl t))
theorem docOf_text {d : DocP} (h : docB d = true) : docOf (docT d) = d := by
  unfold docOf
  rw [splitL_flat (docToks_blank h) (by simp [docToks]) _ (docT_flat h), pDoc_toks h]
/-- No two right Docs have one text. -/
theorem docT_inj {d e : DocP} (hd : docB d = true) (he : docB e = true) (h : docT d = docT e) : d = e := by
  rw [← docOf_text hd, ← docOf_text he, h]
end Go.Proofs.YtnkknfnndoegpaaGreatDoor.Selss
