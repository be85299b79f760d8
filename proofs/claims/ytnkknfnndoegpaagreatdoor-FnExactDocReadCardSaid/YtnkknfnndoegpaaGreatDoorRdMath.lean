/-
  The program's reading of words, plain: which selections words read as; it is one at most, a right one is read off its own words, and what is read has those words; no program. Conditions: as each theorem says.
-/
import Derived.Test.YtnkknfnndoegpaaGreatDoorRows
import Derived.Test.YtnkknfnndoegpaaGreatDoorParseC
import Derived.Lib.IndexMore
import Derived.Lib.ParseIntBTie
import Derived.Lib.Join
namespace Go.Proofs.YtnkknfnndoegpaaGreatDoor.Selss
open Go.RowKit Words Decs Splits
set_option linter.unusedVariables false
set_option maxRecDepth 100000

theorem index_word {c : UInt8} {b : Tok} : ∀ {a : Tok}, c ∉ a → Lib.index (a ++ c :: b) [c] = a.length
  | [], _ => by simp [Lib.index]
  | x :: a, h => by
    have hx : c ≠ x := fun e => h (by simp [e])
    have ih := index_word (b := b) (a := a) (fun e => h (List.mem_cons_of_mem _ e))
    rw [List.cons_append, Lib.index, if_neg (by simp [hx]), ih]
    rw [if_neg (by rw [beq_iff_eq]; omega), List.length_cons]; omega
theorem index_none {c : UInt8} : ∀ {a : Tok}, c ∉ a → Lib.index a [c] = -1
  | [], _ => by simp [Lib.index]
  | x :: a, h => by
    have hx : c ≠ x := fun e => h (by simp [e])
    have ih := index_none (a := a) (fun e => h (List.mem_cons_of_mem _ e))
    rw [Lib.index, if_neg (by simp [hx]), ih]; rfl
theorem cut_word {c : UInt8} {a b : Tok} (h : c ∉ a) : Lib.cut (a ++ c :: b) [c] = (a, b, true) := by
  unfold Lib.cut
  rw [index_word h, if_pos (by omega)]
  simp
theorem cut_none {c : UInt8} {a : Tok} (h : c ∉ a) : Lib.cut a [c] = (a, [], false) := by
  unfold Lib.cut
  rw [index_none h, if_neg (by omega)]
theorem cut_len (s sep : Tok) : (Lib.cut s sep).1.length ≤ s.length ∧ (Lib.cut s sep).2.1.length ≤ s.length := by
  unfold Lib.cut
  split
  · simp only [List.length_take, List.length_drop]; omega
  · simp
theorem trim_last (a : Tok) (c : UInt8) : Lib.trimSuffix (a ++ [c]) [c] = a := by
  unfold Lib.trimSuffix Lib.hasSuffix
  rw [if_pos (by rw [List.isSuffixOf_iff_suffix]; exact List.suffix_append a [c])]
  simp
theorem trim_len (s p : Tok) : (Lib.trimSuffix s p).length ≤ s.length := by
  unfold Lib.trimSuffix
  split
  · rw [List.length_take]; omega
  · exact Nat.le_refl _

/-- The number that ParseInt answers, whatever it says beside. -/
def pint (l : Tok) : Int := match Lib.parseIntB 64 l with
  | .ok v => v
  | Lib.NumEnd.syntax => 0
  | .range => Lib.intSat 64 l
theorem pint_ok (l : Tok) : -9223372036854775808 ≤ pint l ∧ pint l ≤ 9223372036854775807 := by
  unfold pint
  rcases h : Lib.parseIntB 64 l with v | _ | _
  · have := Lib.parseIntB_bounds h
    have e : ((2 ^ (64 - 1) : Nat) : Int) = 9223372036854775808 := by decide
    rw [e] at this
    simp only; omega
  · simp only; omega
  · have e : (2 ^ (64 - 1) : Nat) = 9223372036854775808 := by decide
    simp only [Lib.intSat]
    split <;> rw [e] <;> omega
theorem pint_one : ∀ n : Fin 10, pint [UInt8.ofNat (48 + n.val)] = (n.val : Int) := by decide +kernel
theorem pint_two : ∀ p : Fin 100, pint [UInt8.ofNat (48 + p.val / 10), UInt8.ofNat (48 + p.val % 10)] = (p.val : Int) := by decide +kernel
theorem pint_100 : pint [49, 48, 48] = 100 := by decide +kernel
theorem pint_dec {f : Int} (h0 : 0 ≤ f) (h1 : f ≤ 100) : pint (bl (decB f)) = f := by
  rw [bl_dec h0]
  obtain ⟨n, rfl⟩ := Int.eq_ofNat_of_zero_le h0
  rw [Int.toNat_natCast]
  have hn : n ≤ 100 := by omega
  by_cases h2 : n < 10
  · rw [decL_small h2]; exact pint_one ⟨n, h2⟩
  · by_cases h3 : n < 100
    · rw [decL_big (by omega), decL_small (by omega)]; exact pint_two ⟨n, h3⟩
    · obtain rfl : n = 100 := by omega
      rw [decL_big (by omega), decL_big (by omega), decL_small (by omega)]
      exact pint_100

/-- The field that a word may be: its key, its name, how many. -/
def fCand (t : Tok) : Tok × Tok × Int :=
  ((Lib.cut (Lib.cut t [40]).1 [58]).1, (if (Lib.cut (Lib.cut t [40]).1 [58]).2.2 then (Lib.cut (Lib.cut t [40]).1 [58]).2.1 else (Lib.cut (Lib.cut t [40]).1 [58]).1), if (Lib.cut t [40]).2.2 then pint (Lib.trimSuffix (Lib.cut t [40]).2.1 [41]) else -1)
theorem fCand_len (t : Tok) : (fCand t).1.length ≤ t.length ∧ (fCand t).2.1.length ≤ t.length := by
  have h1 := (cut_len t [40]).1
  have h2 := cut_len (Lib.cut t [40]).1 [58]
  unfold fCand
  constructor
  · simp only; omega
  · simp only
    split <;> omega
theorem fCand_int (t : Tok) : -9223372036854775808 ≤ (fCand t).2.2 ∧ (fCand t).2.2 ≤ 9223372036854775807 := by
  unfold fCand
  simp only
  split
  · exact pint_ok _
  · omega
theorem fCand_field {key nm : ByteArray} {f : Int} (hk : wordB key = true) (hn : wordB nm = true) (h0 : -1 ≤ f) (h1 : f ≤ 100) : fCand (bl (fieldT key nm f)) = (bl key, bl nm, f) := by
  rw [field_bl]
  have ka := not_mem_word hk (c := 40) (by decide)
  have kb := not_mem_word hk (c := 58) (by decide)
  have na := not_mem_word hn (c := 40) (by decide)
  have nb := not_mem_word hn (c := 58) (by decide)
  have hA : (40 : UInt8) ∉ ((if key = nm then [] else bl key ++ [58]) ++ bl nm) := by
    by_cases e1 : key = nm
    · simp [e1, na]
    · simp [e1, ka, na]
  have hS : Lib.cut ((if key = nm then [] else bl key ++ [58]) ++ bl nm) [58] = (if key = nm then (bl nm, [], false) else (bl key, bl nm, true)) := by
    by_cases e1 : key = nm
    · rw [if_pos e1, if_pos e1, List.nil_append, cut_none nb]
    · rw [if_neg e1, if_neg e1, List.append_assoc, List.singleton_append, cut_word kb]
  obtain ⟨q, hq⟩ : ∃ q, (if key = nm then (bl nm, [], false) else (bl key, bl nm, true) : Tok × Tok × Bool) = q := ⟨_, rfl⟩
  have hK : q.1 = bl key ∧ (if q.2.2 then q.2.1 else q.1) = bl nm := by
    rw [← hq]
    by_cases e1 : key = nm
    · rw [if_pos e1, e1]; exact ⟨rfl, rfl⟩
    · rw [if_neg e1]; exact ⟨rfl, rfl⟩
  rw [hq] at hS
  generalize ((if key = nm then [] else bl key ++ [58]) ++ bl nm) = A at hA hS
  by_cases e2 : f = -1
  · rw [if_pos e2, List.append_nil]
    unfold fCand
    rw [cut_none hA]
    simp only [hS]
    exact Prod.ext hK.1 (Prod.ext hK.2 e2.symm)
  · rw [if_neg e2]
    unfold fCand
    rw [cut_word hA]
    simp only [hS, trim_last, if_true]
    exact Prod.ext hK.1 (Prod.ext hK.2 (pint_dec (by omega) h1))
/-- What the first words of a selection say: its kind, key, name, how many; the words behind. -/
noncomputable def headF : List Tok → Option (Int × ByteArray × ByteArray × Int × List Tok)
  | [] => none
  | t :: W =>
    if t = [46, 46, 46, 111, 110] then (if typeB (ub (word W)) = true then some (2, ByteArray.empty, ub (word W), -1, W.drop 1) else none)
    else if t.take 3 = [46, 46, 46] then (if wordB (ub (t.drop 3)) = true then some (3, ByteArray.empty, ub (t.drop 3), -1, W) else none)
    else if bl (fieldT (ub (fCand t).1) (ub (fCand t).2.1) (fCand t).2.2) = t ∧ oneB 1 (ub (fCand t).1) (ub (fCand t).2.1) (fCand t).2.2 0 = true then some (1, ub (fCand t).1, ub (fCand t).2.1, (fCand t).2.2, W)
    else none
theorem headF_cons (t : Tok) (W : List Tok) : headF (t :: W) =
    if t = [46, 46, 46, 111, 110] then (if typeB (ub (word W)) = true then some (2, ByteArray.empty, ub (word W), -1, W.drop 1) else none)
    else if t.take 3 = [46, 46, 46] then (if wordB (ub (t.drop 3)) = true then some (3, ByteArray.empty, ub (t.drop 3), -1, W) else none)
    else if bl (fieldT (ub (fCand t).1) (ub (fCand t).2.1) (fCand t).2.2) = t ∧ oneB 1 (ub (fCand t).1) (ub (fCand t).2.1) (fCand t).2.2 0 = true then some (1, ub (fCand t).1, ub (fCand t).2.1, (fCand t).2.2, W)
    else none := rfl
/-- What is within one, by the words behind its first. -/
def subR (k : Int) (u : Sels) (W0 W1 : List Tok) (R : List Tok → List Tok → Prop) : Prop :=
  (u = .nil ∧ W1 = W0 ∧ k ≠ 2 ∧ (k = 1 → word W0 ≠ [123])) ∨ (k ≠ 3 ∧ word W0 = [123] ∧ R (W0.drop 1) W1)
/-- The words W read as the selections s, not none, and a closing brace; W' are behind it. -/
def Reads : Sels → List Tok → List Tok → Prop
  | .nil, _, _ => False
  | .cons k key nm f u r, W, W' => ∃ W0 W1, headF W = some (k, key, nm, f, W0) ∧ subR k u W0 W1 (Reads u) ∧ ((r = .nil ∧ word W1 = [125] ∧ W' = W1.drop 1) ∨ (word W1 ≠ [125] ∧ Reads r W1 W'))
/-- One selection. -/
def ReadsOne (k : Int) (key nm : ByteArray) (f : Int) (u : Sels) (W W1 : List Tok) : Prop := ∃ W0, headF W = some (k, key, nm, f, W0) ∧ subR k u W0 W1 (Reads u)
theorem reads_cons {k : Int} {key nm : ByteArray} {f : Int} {u r : Sels} {W W' : List Tok} : Reads (.cons k key nm f u r) W W' ↔ ∃ W1, ReadsOne k key nm f u W W1 ∧ ((r = .nil ∧ word W1 = [125] ∧ W' = W1.drop 1) ∨ (word W1 ≠ [125] ∧ Reads r W1 W')) :=
  ⟨fun ⟨W0, W1, h1, h2, h3⟩ => ⟨W1, ⟨W0, h1, h2⟩, h3⟩, fun ⟨W1, ⟨W0, h1, h2⟩, h3⟩ => ⟨W0, W1, h1, h2, h3⟩⟩

theorem headF_kind {W W0 : List Tok} {k : Int} {key nm : ByteArray} {f : Int} (h : headF W = some (k, key, nm, f, W0)) : k = 1 ∨ k = 2 ∨ k = 3 := by
  cases W with
  | nil => cases h
  | cons t W =>
    rw [headF_cons] at h
    split at h
    · split at h
      · cases h; exact .inr (.inl rfl)
      · cases h
    · split at h
      · split at h
        · cases h; exact .inr (.inr rfl)
        · cases h
      · split at h
        · cases h; exact .inl rfl
        · cases h
theorem sub_one {k : Int} (hk : k = 1 ∨ k = 2 ∨ k = 3) {u u' : Sels} {W0 A B : List Tok} (ih : ∀ (W A B : List Tok), Reads u W A → ∀ (u' : Sels), Reads u' W B → u = u' ∧ A = B) (h : subR k u W0 A (Reads u)) (h' : subR k u' W0 B (Reads u')) : u = u' ∧ A = B := by
  rcases h with ⟨rfl, rfl, h2, h3⟩ | ⟨h1, h2, h3⟩ <;> rcases h' with ⟨rfl, rfl, g2, g3⟩ | ⟨g1, g2, g3⟩
  · exact ⟨rfl, rfl⟩
  · exfalso
    rcases hk with e | e | e
    · exact h3 e g2
    · exact h2 e
    · exact g1 e
  · exfalso
    rcases hk with e | e | e
    · exact g3 e h2
    · exact g2 e
    · exact h1 e
  · exact ih _ _ _ h3 _ g3
/-- Words read as one list of selections at most. -/
theorem reads_one : ∀ {s : Sels} {W A B : List Tok}, Reads s W A → ∀ {s' : Sels}, Reads s' W B → s = s' ∧ A = B
  | .nil, _, _, _, h, _, _ => by cases h
  | .cons k key nm f u r, W, A, B, h, .nil, h' => by cases h'
  | .cons k key nm f u r, W, A, B, h, .cons k' key' nm' f' u' r', h' => by
    obtain ⟨W0, W1, a1, a2, a3⟩ := h
    obtain ⟨X0, X1, b1, b2, b3⟩ := h'
    rw [a1] at b1
    cases b1
    obtain ⟨rfl, rfl⟩ := sub_one (headF_kind a1) (fun _ _ _ h _ g => reads_one (s := u) h g) a2 b2
    rcases a3 with ⟨rfl, c1, rfl⟩ | ⟨c1, c2⟩ <;> rcases b3 with ⟨rfl, d1, rfl⟩ | ⟨d1, d2⟩
    · exact ⟨rfl, rfl⟩
    · exact absurd c1 d1
    · exact absurd d1 c1
    · obtain ⟨rfl, rfl⟩ := reads_one (s := r) c2 d2
      exact ⟨rfl, rfl⟩
theorem reads_one_sel {k k' : Int} {key nm key' nm' : ByteArray} {f f' : Int} {u u' : Sels} {W A B : List Tok} (h : ReadsOne k key nm f u W A) (h' : ReadsOne k' key' nm' f' u' W B) : (k = k' ∧ key = key' ∧ nm = nm' ∧ f = f' ∧ u = u') ∧ A = B := by
  obtain ⟨W0, a1, a2⟩ := h
  obtain ⟨X0, b1, b2⟩ := h'
  rw [a1] at b1
  cases b1
  obtain ⟨rfl, rfl⟩ := sub_one (headF_kind a1) (fun _ _ _ h _ g => reads_one h g) a2 b2
  exact ⟨⟨rfl, rfl, rfl, rfl, rfl⟩, rfl⟩

/-- The words of a selection's own. -/
theorem headF_words {W W0 : List Tok} {k : Int} {key nm : ByteArray} {f : Int} (h : headF W = some (k, key, nm, f, W0)) :
    (k = 1 ∧ W = bl (fieldT key nm f) :: W0 ∧ oneB 1 key nm f 0 = true) ∨ (k = 2 ∧ key = ByteArray.empty ∧ f = -1 ∧ typeB nm = true ∧ W = [46, 46, 46, 111, 110] :: bl nm :: W0) ∨ (k = 3 ∧ key = ByteArray.empty ∧ f = -1 ∧ wordB nm = true ∧ W = ([46, 46, 46] ++ bl nm) :: W0) := by
  cases W with
  | nil => cases h
  | cons t W =>
    rw [headF_cons] at h
    split at h
    · rename_i ht
      split at h
      · rename_i hty
        cases h
        refine .inr (.inl ⟨rfl, rfl, rfl, hty, ?_⟩)
        rw [ht, bl_ub]
        cases W with
        | nil =>
          exfalso
          have h0 := ofB_pos hty
          simp [word, ub, ByteArray.size] at h0
        | cons x X => rfl
      · cases h
    · split at h
      · rename_i ht
        split at h
        · rename_i hw
          cases h
          refine .inr (.inr ⟨rfl, rfl, rfl, hw, ?_⟩)
          rw [bl_ub, ← ht, List.take_append_drop]
        · cases h
      · split at h
        · rename_i hc
          cases h
          exact .inl ⟨rfl, by rw [hc.1], hc.2⟩
        · cases h
theorem word_ne {t : Tok} {W : List Tok} (h : word W = t) (ht : t ≠ []) : W = t :: W.drop 1 := by
  cases W with
  | nil => exact absurd h.symm ht
  | cons x X => simp only [word, List.headD_cons] at h; rw [h]; rfl
/-- What is read has those words. -/
theorem reads_toks : ∀ {s : Sels} {W W' : List Tok}, Reads s W W' → W = s.toks ++ [125] :: W'
  | .nil, _, _, h => by cases h
  | .cons k key nm f u r, W, W', h => by
    obtain ⟨W0, W1, h1, h2, h3⟩ := h
    have hr : W1 = r.toks ++ [125] :: W' := by
      rcases h3 with ⟨rfl, c1, rfl⟩ | ⟨_, c2⟩
      · exact word_ne c1 (by simp)
      · exact reads_toks c2
    have hu : W0 = (if u.len = 0 then [] else [123] :: (u.toks ++ [[125]])) ++ W1 := by
      rcases h2 with ⟨rfl, rfl, _⟩ | ⟨_, c2, c3⟩
      · rfl
      · have e := reads_toks c3
        rw [if_neg (fun e => by rw [len_zero e] at c3; exact c3), word_ne c2 (by simp), e]
        simp
    simp only [Sels.toks]
    rcases headF_words h1 with ⟨rfl, rfl, _⟩ | ⟨rfl, rfl, rfl, _, rfl⟩ | ⟨rfl, rfl, rfl, _, rfl⟩
    · rw [if_neg (by decide), if_neg (by decide), hu, hr]; simp
    · rw [if_neg (by decide), if_pos rfl, hu, hr]; simp
    · have : u = .nil := by
        rcases h2 with ⟨rfl, _⟩ | ⟨c1, _⟩
        · rfl
        · exact absurd rfl c1
      subst this
      rw [if_pos rfl, hu, hr]; simp [Sels.len]

/-- The first word of what may be is no closing brace. -/
theorem toks_word' {s : Sels} {deep : Int} (h : selsB s deep = true) (hs : s ≠ .nil) (rest : List Tok) : word (s.toks ++ [125] :: rest) ≠ [125] := by
  cases s with
  | nil => exact absurd rfl hs
  | cons k key nm f u r =>
    unfold selsB at h
    simp only [Bool.and_eq_true] at h
    rcases oneB_full h.1.1.1 with ⟨rfl, h1, h2, h3, h4⟩ | ⟨rfl, h1, h2, h3, h4⟩ | ⟨rfl, h1, h2, h3, h4⟩
    · obtain ⟨c, q, e, _, hc⟩ := field_head (f := f) h1 h2
      simp only [Sels.toks]
      rw [if_neg (by decide), if_neg (by decide), e]
      intro e2
      simp [word] at e2
      obtain ⟨rfl, _⟩ := e2
      exact absurd hc (by decide)
    · simp only [Sels.toks]
      rw [if_neg (by decide), if_pos trivial]
      intro e2; simp [word] at e2
    · simp only [Sels.toks]
      rw [if_pos trivial]
      intro e2; simp [word] at e2
/-- Right selections are read off their own words. -/
theorem toks_reads : ∀ {s : Sels} {deep : Int}, selsB s deep = true → s ≠ .nil → ∀ (W' : List Tok), Reads s (s.toks ++ [125] :: W') W'
  | .nil, _, _, hs, _ => absurd rfl hs
  | .cons k key nm f u r, deep, h, _, W' => by
    unfold selsB at h
    simp only [Bool.and_eq_true] at h
    obtain ⟨⟨⟨h1, _⟩, hu⟩, hr⟩ := h
    have tail : (r = .nil ∧ word (r.toks ++ [125] :: W') = [125] ∧ W' = (r.toks ++ [125] :: W').drop 1) ∨ (word (r.toks ++ [125] :: W') ≠ [125] ∧ Reads r (r.toks ++ [125] :: W') W') := by
      by_cases e : r = .nil
      · exact .inl ⟨e, by rw [e]; rfl, by rw [e]; rfl⟩
      · exact .inr ⟨toks_word' hr e W', toks_reads hr e W'⟩
    have hne := toks_word hr W'
    obtain ⟨R, hR⟩ : ∃ R, r.toks ++ [125] :: W' = R := ⟨_, rfl⟩
    rw [hR] at tail hne
    have hblock : u.len ≠ 0 → Reads u (u.toks ++ [125] :: R) R := fun e => toks_reads hu (fun e2 => e (by rw [e2]; rfl)) R
    rcases oneB_full h1 with ⟨rfl, hk, hn, hf0, hf1⟩ | ⟨rfl, rfl, hn, rfl, hpos⟩ | ⟨rfl, rfl, hn, rfl, hz⟩
    · have hh : ∀ W0, headF (bl (fieldT key nm f) :: W0) = some (1, key, nm, f, W0) := fun W0 => by
        obtain ⟨c, q, e, hc, hc2⟩ := field_head (f := f) hk hn
        rw [headF_cons, if_neg (by rw [e]; intro e2; cases e2; exact absurd hc (by decide)), if_neg (by rw [e]; intro e2; simp at e2; obtain ⟨rfl, _⟩ := e2; exact absurd hc (by decide)), fCand_field hk hn hf0 hf1]
        simp only [ub_bl]
        rw [if_pos ⟨trivial, by rw [oneB_1, hk, hn, decide_eq_true hf0, decide_eq_true hf1]; rfl⟩]
      simp only [Sels.toks]
      rw [if_neg (by decide), if_neg (by decide), List.append_assoc, hR]
      by_cases hl : u.len = 0
      · rw [if_pos hl, len_zero hl]
        exact ⟨R, R, by simpa using hh R, .inl ⟨rfl, rfl, by decide, fun _ => hne⟩, tail⟩
      · rw [if_neg hl]
        refine ⟨[123] :: (u.toks ++ [125] :: R), R, ?_, .inr ⟨by decide, rfl, hblock hl⟩, tail⟩
        have := hh ([123] :: (u.toks ++ [125] :: R))
        simpa using this
    · have hh : ∀ W0, headF ([46, 46, 46, 111, 110] :: bl nm :: W0) = some (2, ByteArray.empty, nm, -1, W0) := fun W0 => by
        rw [headF_cons, if_pos rfl, if_pos (by rw [show word (bl nm :: W0) = bl nm from rfl, ub_bl]; exact hn)]
        rw [show word (bl nm :: W0) = bl nm from rfl, ub_bl]; rfl
      simp only [Sels.toks]
      rw [if_neg (by decide), if_pos trivial, if_neg (by omega), List.append_assoc, hR]
      refine ⟨[123] :: (u.toks ++ [125] :: R), R, ?_, .inr ⟨by decide, rfl, hblock (by omega)⟩, tail⟩
      have := hh ([123] :: (u.toks ++ [125] :: R))
      simpa using this
    · have hh : ∀ W0, headF (([46, 46, 46] ++ bl nm) :: W0) = some (3, ByteArray.empty, nm, -1, W0) := fun W0 => by
        have hno := (wordB_of hn).2.1
        rw [headF_cons, if_neg (by intro e2; have e3 : [46, 46, 46] ++ bl nm = [46, 46, 46] ++ [111, 110] := e2; exact hno (List.append_cancel_left e3)), if_pos (by simp)]
        have hd3 : List.drop 3 (([46, 46, 46] : Tok) ++ bl nm) = bl nm := by simp
        rw [hd3, ub_bl, if_pos hn]
      simp only [Sels.toks]
      rw [if_pos trivial, len_zero hz, List.append_assoc, hR]
      exact ⟨R, R, by simpa using hh R, .inl ⟨rfl, rfl, by decide, fun e => absurd e (by decide)⟩, tail⟩

/-- Frags. -/
def ReadsFrag (x : FragP) (W W' : List Tok) : Prop :=
  word W = [102, 114, 97, 103, 109, 101, 110, 116] ∧ x.name = ub (word (W.drop 1)) ∧ word ((W.drop 1).drop 1) = [111, 110] ∧ x.on = ub (word (((W.drop 1).drop 1).drop 1)) ∧ word ((((W.drop 1).drop 1).drop 1).drop 1) = [123] ∧ Reads x.sels (((((W.drop 1).drop 1).drop 1).drop 1).drop 1) W'
def ReadsFrags : List FragP → List Tok → Prop
  | [], W => W = []
  | x :: l, W => ∃ W', ReadsFrag x W W' ∧ ReadsFrags l W'
/-- Words that read as a Doc. -/
def ReadsDoc (d : DocP) (W : List Tok) : Prop := ∃ W', word W = [123] ∧ Reads d.sels (W.drop 1) W' ∧ ReadsFrags d.frags W'
theorem frag_one {x y : FragP} {W A B : List Tok} (h : ReadsFrag x W A) (g : ReadsFrag y W B) : x = y ∧ A = B := by
  obtain ⟨_, h1, _, h2, _, h3⟩ := h
  obtain ⟨_, g1, _, g2, _, g3⟩ := g
  obtain ⟨e1, e2⟩ := reads_one h3 g3
  refine ⟨?_, e2⟩
  cases x; cases y
  simp only at h1 h2 g1 g2 e1
  rw [h1, h2, e1, ← g1, ← g2]
theorem frags_one : ∀ {l m : List FragP} {W : List Tok}, ReadsFrags l W → ReadsFrags m W → l = m
  | [], [], _, _, _ => rfl
  | [], y :: m, W, h, ⟨_, g, _⟩ => by
    have : W = [] := h
    subst this
    cases g.1
  | x :: l, [], W, ⟨_, h, _⟩, g => by
    have : W = [] := g
    subst this
    cases h.1
  | x :: l, y :: m, W, ⟨A, h1, h2⟩, ⟨B, g1, g2⟩ => by
    obtain ⟨rfl, rfl⟩ := frag_one h1 g1
    rw [frags_one h2 g2]
theorem frags_toks : ∀ {l : List FragP} {W : List Tok}, ReadsFrags l W → (∀ x ∈ l, wordB x.name = true ∧ typeB x.on = true) → W = fragsToks l
  | [], W, h, _ => h
  | x :: l, W, ⟨W', ⟨h1, h2, h3, h4, h5, h6⟩, h7⟩, hx => by
    have ⟨n1, n2⟩ := hx x (by simp)
    have e7 := frags_toks h7 (fun y hy => hx y (by simp [hy]))
    have e6 := reads_toks h6
    have e5 := word_ne h5 (by simp)
    have hn : word (W.drop 1) = bl x.name := by rw [h2, bl_ub]
    have ho : word (((W.drop 1).drop 1).drop 1) = bl x.on := by rw [h4, bl_ub]
    have e4 := word_ne ho (bl_pos (ofB_pos n2))
    have e3 := word_ne h3 (by simp)
    have e2 := word_ne hn (bl_pos (ofB_pos (wordB_of n1).1))
    have e1 := word_ne h1 (by simp)
    rw [e1, e2, e3, e4, e5, e6, e7]
    simp [fragsToks, fragToks]
theorem toks_frags : ∀ {l : List FragP}, (∀ x ∈ l, selsB x.sels 6 = true ∧ 0 < x.sels.len) → ReadsFrags l (fragsToks l)
  | [], _ => rfl
  | x :: l, hx => by
    have ⟨n1, n2⟩ := hx x (by simp)
    have e : fragsToks (x :: l) = [102, 114, 97, 103, 109, 101, 110, 116] :: bl x.name :: [111, 110] :: bl x.on :: [123] :: (x.sels.toks ++ [125] :: fragsToks l) := by
      simp [fragsToks, fragToks]
    rw [e]
    exact ⟨fragsToks l, ⟨rfl, (ub_bl _).symm, rfl, (ub_bl _).symm, rfl, toks_reads n1 (fun e => by rw [e] at n2; simp [Sels.len] at n2) _⟩, toks_frags (fun y hy => hx y (by simp [hy]))⟩
theorem docB_frags {d : DocP} (h : docB d = true) : ∀ x ∈ d.frags, wordB x.name = true ∧ typeB x.on = true ∧ selsB x.sels 6 = true ∧ 0 < x.sels.len := fun x hx => by
  obtain ⟨_, _, _, _, hfr⟩ := docB_parts h
  obtain ⟨i, hi⟩ := List.mem_iff_getElem?.1 hx
  have hfb := fragB_parts (fragsB_at hfr hi)
  exact ⟨hfb.1, hfb.2.2.1, hfb.2.2.2.2, hfb.2.2.2.1⟩
/-- A right Doc is read off its own words. -/
theorem toks_doc {d : DocP} (h : docB d = true) : ReadsDoc d (docToks d) := by
  obtain ⟨hp, _, _, hsel, _⟩ := docB_parts h
  have hf := docB_frags h
  have e : docToks d = [123] :: (d.sels.toks ++ [125] :: fragsToks d.frags) := by simp [docToks]
  rw [e]
  exact ⟨fragsToks d.frags, rfl, toks_reads hsel (fun e => by rw [e] at hp; simp [Sels.len] at hp) _, toks_frags (fun x hx => ⟨(hf x hx).2.2.1, (hf x hx).2.2.2⟩)⟩
theorem doc_toks {d : DocP} {W : List Tok} (hr : ReadsDoc d W) (h : docB d = true) : W = docToks d := by
  obtain ⟨W', h1, h2, h3⟩ := hr
  have hf := docB_frags h
  rw [word_ne h1 (by simp), reads_toks h2, frags_toks h3 (fun x hx => ⟨(hf x hx).1, (hf x hx).2.1⟩)]
  simp [docToks]
theorem doc_one {d e : DocP} {W : List Tok} (h : ReadsDoc d W) (g : ReadsDoc e W) : d = e := by
  obtain ⟨A, _, h2, h3⟩ := h
  obtain ⟨B, _, g2, g3⟩ := g
  obtain ⟨e1, rfl⟩ := reads_one h2 g2
  have e2 := frags_one h3 g3
  cases d; cases e
  simp only at e1 e2
  rw [e1, e2]
/-- A text that parts into words that read as a right Doc is its text. -/
theorem docT_of_reads {d : DocP} {t : ByteArray} (hr : ReadsDoc d (splitL 32 (bl t))) (h : docB d = true) : docT d = t := by
  have e := doc_toks hr h
  have key : ∀ (l : Tok), Lib.join (splitL 32 l) [32] = l := by
    intro l
    induction l with
    | nil => simp [splitL, Lib.join_one]
    | cons x r ih =>
      unfold splitL
      split
      · rename_i hx
        subst hx
        obtain ⟨a, b, hab⟩ : ∃ a b, splitL 32 r = a :: b := by
          cases hs : splitL 32 r with
          | nil => exact absurd hs (splitL_ne _ _)
          | cons a b => exact ⟨a, b, rfl⟩
        rw [hab] at ih ⊢
        rw [Lib.join_cons] at ih ⊢
        simp only [Lib.joinTail, List.map_cons, List.flatten_cons, List.nil_append] at ih ⊢
        rw [← ih]; simp
      · obtain ⟨a, b, hab⟩ : ∃ a b, splitL 32 r = a :: b := by
          cases hs : splitL 32 r with
          | nil => exact absurd hs (splitL_ne _ _)
          | cons a b => exact ⟨a, b, rfl⟩
        rw [hab] at ih ⊢
        simp only [glue]
        rw [Lib.join_cons] at ih ⊢
        rw [← ih]; simp
  have e2 := key (bl t)
  rw [e] at e2
  have e3 : ∀ (r : List Tok) (x : Tok), Lib.join (x :: r) [32] ++ [32] = flat (x :: r) := by
    intro r
    induction r with
    | nil => intro x; simp [Lib.join_one, flat]
    | cons y r ih =>
      intro x
      have ih := ih y
      rw [Lib.join_cons] at ih ⊢
      rw [flat, ← ih]
      simp [Lib.joinTail]
  have e4 := docT_flat h
  have h5 : docToks d = [123] :: (d.sels.toks ++ [[125]] ++ fragsToks d.frags) := rfl
  rw [h5] at e2 e4
  rw [← e3, e2] at e4
  exact bl_inj (List.append_cancel_right e4)
/-- The text of a right Doc parts into words that read as it. -/
theorem reads_of_docT {d : DocP} (h : docB d = true) : ReadsDoc d (splitL 32 (bl (docT d))) := by
  rw [splitL_flat (docToks_blank h) (by simp [docToks]) _ (docT_flat h)]
  exact toks_doc h
end Go.Proofs.YtnkknfnndoegpaaGreatDoor.Selss
