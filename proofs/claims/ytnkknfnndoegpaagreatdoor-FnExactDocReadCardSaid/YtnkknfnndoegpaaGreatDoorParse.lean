/-
  The model's reading of words, plain: of a right Doc's words it reads the Doc; no program. Conditions: a right Doc.
-/
import Derived.Test.YtnkknfnndoegpaaGreatDoorRows
import Derived.Test.YtnkknfnndoegpaaGreatDoorDocText
import Derived.Test.YtnkknfnndoegpaaGreatDoorSplitP
namespace Go.Proofs.YtnkknfnndoegpaaGreatDoor.Selss
open Go.RowKit Words Decs Splits
set_option linter.unusedVariables false
set_option maxRecDepth 100000
abbrev Tok := List UInt8
def bl (b : ByteArray) : Tok := b.data.toList
theorem bl_append (a b : ByteArray) : bl (a ++ b) = bl a ++ bl b := by simp [bl]
theorem bl_sB (l : List UInt8) : bl (sB l) = l := by simp [bl, sB]
theorem bl_empty : bl ByteArray.empty = [] := rfl
theorem bl_inj {a b : ByteArray} (h : bl a = bl b) : a = b := ByteArray.ext (Array.toList_inj.1 h)
/-- Words, each with a blank behind it. -/
def flat : List Tok → List UInt8
  | [] => []
  | t :: r => (t ++ [32]) ++ flat r
theorem flat_append (a b : List Tok) : flat (a ++ b) = flat a ++ flat b := by
  induction a with
  | nil => rfl
  | cons t r ih => simp [flat, ih]
/-- The words of selections. -/
def Sels.toks : Sels → List Tok
  | .nil => []
  | .cons k key nm f u r =>
    (if k = 3 then [[46, 46, 46] ++ bl nm]
     else (if k = 2 then [[46, 46, 46, 111, 110], bl nm] else [bl (fieldT key nm f)]) ++ (if u.len = 0 then [] else [123] :: (u.toks ++ [[125]]))) ++ r.toks
theorem body_flat : ∀ s : Sels, bl s.body = flat s.toks
  | .nil => rfl
  | .cons k key nm f u r => by
    have hu := body_flat u
    have hr := body_flat r
    simp only [Sels.body, Sels.toks, bl_append, hr, flat_append]
    congr 1
    unfold headT
    by_cases h3 : k = 3
    · simp [h3, flat, bl_append, bl_sB, bl_empty]
    · by_cases hl : u.len = 0
      · by_cases h2 : k = 2
        · simp [h2, hl, flat, bl_append, bl_sB, bl_empty]
        · simp [h3, h2, hl, flat, bl_append, bl_sB, bl_empty]
      · by_cases h2 : k = 2
        · simp [h2, hl, flat, flat_append, bl_append, bl_sB, hu]
        · simp [h3, h2, hl, flat, flat_append, bl_append, bl_sB, hu]
theorem text_flat (s : Sels) : bl s.text ++ [32] = flat ([123] :: (s.toks ++ [[125]])) := by
  simp [Sels.text, bl_append, bl_sB, body_flat, flat, flat_append]
def fragToks (x : FragP) : List Tok := [[102, 114, 97, 103, 109, 101, 110, 116], bl x.name, [111, 110], bl x.on] ++ ([123] :: (x.sels.toks ++ [[125]]))
def fragsToks : List FragP → List Tok
  | [] => []
  | x :: l => fragToks x ++ fragsToks l
theorem fragT_flat (x : FragP) : bl (fragT x) ++ [32] = 32 :: flat (fragToks x) := by
  have := text_flat x.sels
  simp only [fragT, bl_append, bl_sB, fragToks, flat_append, flat, List.append_assoc] at this ⊢
  simp [this]
theorem fragsT_flat : ∀ l : List FragP, bl (fragsT l) ++ [32] = 32 :: flat (fragsToks l)
  | [] => rfl
  | x :: l => by
    have h1 := fragT_flat x
    have h2 := fragsT_flat l
    simp only [fragsT, fragsToks, bl_append, flat_append, List.append_assoc]
    rw [h2, ← List.singleton_append, ← List.append_assoc, h1]; rfl
def docToks (d : DocP) : List Tok := [123] :: (d.sels.toks ++ [[125]]) ++ fragsToks d.frags
theorem docT_flat {d : DocP} (h : docB d = true) : bl (docT d) ++ [32] = flat (docToks d) := by
  rw [← docT_yes h, bl_append, List.append_assoc, fragsT_flat]
  have := text_flat d.sels
  unfold docToks
  rw [flat_append, ← this]; simp
/-- A word without the byte. -/
theorem splitL_word {c : UInt8} : ∀ {t : Tok}, c ∉ t → ∀ rest, splitL c (t ++ c :: rest) = t :: splitL c rest
  | [], _, rest => by simp [splitL]
  | x :: t, h, rest => by
    have hx : x ≠ c := fun e => h (by simp [e])
    have ht : c ∉ t := fun e => h (by simp [e])
    rw [List.cons_append, splitL, if_neg hx, splitL_word ht rest]; rfl
theorem splitL_last {c : UInt8} : ∀ {t : Tok}, c ∉ t → splitL c t = [t]
  | [], _ => rfl
  | x :: t, h => by
    have hx : x ≠ c := fun e => h (by simp [e])
    have ht : c ∉ t := fun e => h (by simp [e])
    rw [splitL, if_neg hx, splitL_last ht]; rfl
theorem splitL_flat : ∀ {ts : List Tok}, (∀ t ∈ ts, (32 : UInt8) ∉ t) → ts ≠ [] → ∀ l, l ++ [32] = flat ts → splitL 32 l = ts
  | [], _, h, _, _ => absurd rfl h
  | [t], hs, _, l, hl => by
    simp only [flat, List.append_nil] at hl
    have : l = t := List.append_cancel_right hl
    subst this
    exact splitL_last (hs _ (by simp))
  | t :: t2 :: r, hs, _, l, hl => by
    have ht : (32 : UInt8) ∉ t := hs t (by simp)
    have hne : flat (t2 :: r) ≠ [] := by simp [flat]
    obtain ⟨l2, hl2⟩ : ∃ l2, flat (t2 :: r) = l2 ++ [32] := by
      have key : ∀ q : List Tok, q ≠ [] → ∃ l2, flat q = l2 ++ [32] := by
        intro q
        induction q with
        | nil => intro h; exact absurd rfl h
        | cons a q ih =>
          intro _
          cases q with
          | nil => exact ⟨a, by simp [flat]⟩
          | cons b q' =>
            obtain ⟨m, hm⟩ := ih (by simp)
            exact ⟨(a ++ [32]) ++ m, by rw [flat, hm]; simp⟩
      exact key _ (by simp)
    have e : l = t ++ 32 :: l2 := by
      rw [flat, hl2, ← List.append_assoc] at hl
      have := List.append_cancel_right hl
      rw [this]; simp
    rw [e, splitL_word ht, splitL_flat (fun x hx => hs x (by simp only [List.mem_cons] at hx ⊢; exact .inr hx)) (by simp) l2 hl2.symm]
end Go.Proofs.YtnkknfnndoegpaaGreatDoor.Selss
namespace Go.Proofs.YtnkknfnndoegpaaGreatDoor.Selss
open Go.RowKit Words Decs Splits
set_option linter.unusedVariables false
def ub (t : Tok) : ByteArray := ⟨t.toArray⟩
theorem ub_bl (b : ByteArray) : ub (bl b) = b := by simp [ub, bl]
theorem bl_ub (t : Tok) : bl (ub t) = t := by simp [ub, bl]
def word (W : List Tok) : Tok := W.headD []
/-- A number of at most nine digits; -1: none. -/
def numP (t : Tok) : Int :=
  if t.length < 1 ∨ 9 < t.length ∨ (1 < t.length ∧ t.headD 0 = 48) then -1
  else if t.all (fun c => decide (48 ≤ c.toNat) && decide (c.toNat ≤ 57)) then t.foldl (fun n c => 10 * n + ((c.toNat : Int) - 48)) 0 else -1
/-- A field's word: its key, its name, how many. -/
def fieldP (t : Tok) : Tok × Tok × Int :=
  let p := splitL 40 t
  let k := splitL 58 (p.headD [])
  (k.headD [], k.getLastD [], if p.length = 2 ∧ 1 < (p.getD 1 []).length then numP (p.getD 1 []).dropLast else -1)
/-- What a word begins: kind, key, name, how many; the words behind it. -/
def headP (t : Tok) (W : List Tok) : Int × Tok × Tok × Int × List Tok :=
  if t = [46, 46, 46, 111, 110] then (2, [], word W, -1, W.drop 1)
  else if 3 < t.length ∧ t.take 3 = [46, 46, 46] then (3, [], t.drop 3, -1, W)
  else (1, (fieldP t).1, (fieldP t).2.1, (fieldP t).2.2, W)
def pLoop (sub : List Tok → Sels × List Tok) : Nat → List Tok → Sels × List Tok
  | 0, W => (.nil, W)
  | _ + 1, [] => (.nil, [])
  | m + 1, t :: W =>
    if t = [125] then (.nil, t :: W)
    else
      let h := headP t W
      if h.1 ≠ 3 ∧ word h.2.2.2.2 = [123] then
        let u := sub h.2.2.2.2
        let r := pLoop sub m u.2
        (.cons h.1 (ub h.2.1) (ub h.2.2.1) h.2.2.2.1 u.1 r.1, r.2)
      else
        let r := pLoop sub m h.2.2.2.2
        (.cons h.1 (ub h.2.1) (ub h.2.2.1) h.2.2.2.1 .nil r.1, r.2)
/-- Selections so deep. -/
def pSels : Nat → List Tok → Sels × List Tok
  | 0, W => (.nil, W.drop 1)
  | d + 1, W => if word W = [123] then ((pLoop (pSels d) 61 (W.drop 1)).1, (pLoop (pSels d) 61 (W.drop 1)).2.drop 1) else (.nil, W.drop 1)
/-! ### Words of what may be -/
theorem mem_bl {s : ByteArray} {x : UInt8} (h : x ∈ bl s) : ∃ k, ∃ hk : k < s.size, s[k] = x := by
  obtain ⟨k, hk, e⟩ := List.mem_iff_getElem.1 h
  exact ⟨k, by simpa [bl] using hk, by rw [← e]; rfl⟩
theorem ofB_mem {s : ByteArray} {lo hi : Int} (h : ofB s lo hi = true) {x : UInt8} (hx : x ∈ bl s) : lo ≤ (x.toNat : Int) ∧ (x.toNat : Int) ≤ hi := by
  obtain ⟨k, hk, rfl⟩ := mem_bl hx
  by_cases ho : OfOk s lo hi
  · have := ho.each k hk
    rw [← bt_at hk] at this; exact this
  · rw [ofB_no ho] at h; cases h
theorem ofB_pos {s : ByteArray} {lo hi : Int} (h : ofB s lo hi = true) : 1 ≤ s.size := by
  by_cases ho : OfOk s lo hi
  · exact ho.some
  · rw [ofB_no ho] at h; cases h
theorem wordB_of {s : ByteArray} (h : wordB s = true) : ofB s 97 122 = true ∧ bl s ≠ [111, 110] ∧ bl s ≠ [102, 114, 97, 103, 109, 101, 110, 116] := by
  unfold wordB at h
  simp only [Bool.and_eq_true, Bool.not_eq_true', beq_eq_false_iff_ne] at h
  refine ⟨h.1, ?_, ?_⟩
  · have := h.2.1; rw [Lib.toList_data] at this; exact this
  · have := h.2.2; rw [Lib.toList_data] at this; exact this
theorem bl_pos {s : ByteArray} (h : 1 ≤ s.size) : bl s ≠ [] := by
  intro e
  have h1 : (bl s).length = s.size := by unfold bl; rw [Array.length_toList]; rfl
  rw [e] at h1; simp only [List.length_nil] at h1; omega
theorem not_mem_word {s : ByteArray} (h : wordB s = true) {c : UInt8} (hc : c.toNat < 97) : c ∉ bl s := fun hm => by
  have := (ofB_mem (wordB_of h).1 hm).1; omega
theorem not_mem_type {s : ByteArray} (h : typeB s = true) {c : UInt8} (hc : c.toNat < 65) : c ∉ bl s := fun hm => by
  have := (ofB_mem h hm).1; omega
theorem decL_small' {n : Nat} (h : n ≤ 100) : ∀ x ∈ decL n, 48 ≤ x.toNat ∧ x.toNat ≤ 57 := by
  intro x hx
  have one : ∀ m : Nat, m < 10 → 48 ≤ (UInt8.ofNat (48 + m)).toNat ∧ (UInt8.ofNat (48 + m)).toNat ≤ 57 := fun m hm => by
    simp; omega
  by_cases h1 : n < 10
  · rw [decL_small h1, List.mem_singleton] at hx; subst hx; exact one n h1
  · rw [decL_big (by omega)] at hx
    by_cases h2 : n / 10 < 10
    · rw [decL_small h2] at hx
      simp only [List.mem_append, List.mem_singleton] at hx
      rcases hx with rfl | rfl
      · exact one _ h2
      · exact one _ (Nat.mod_lt _ (by omega))
    · have hn : n = 100 := by omega
      subst hn
      rw [decL_big (by omega), decL_small (by omega)] at hx
      simp at hx
      rcases hx with rfl | rfl | rfl <;> decide
theorem bl_dec {f : Int} (h : 0 ≤ f) : bl (decB f) = decL f.toNat := by
  unfold decB bl
  rw [if_neg (by omega)]
  have : f.natAbs = f.toNat := by omega
  simp [this]
theorem num_dec {f : Int} (h0 : 0 ≤ f) (h1 : f ≤ 100) : numP (bl (decB f)) = f := by
  rw [bl_dec h0]
  obtain ⟨n, rfl⟩ := Int.eq_ofNat_of_zero_le h0
  rw [Int.toNat_natCast]
  have hn : n ≤ 100 := by omega
  have val : ∀ m : Nat, m < 10 → ((UInt8.ofNat (48 + m)).toNat : Int) - 48 = m := fun m hm => by simp; omega
  have one : ∀ m : Nat, m < 10 → (decide (48 ≤ (UInt8.ofNat (48 + m)).toNat) && decide ((UInt8.ofNat (48 + m)).toNat ≤ 57)) = true := fun m hm => by simp; omega
  by_cases h1 : n < 10
  · rw [decL_small h1]
    unfold numP
    rw [if_neg (by rintro (h | h | ⟨h, _⟩) <;> simp only [List.length_cons, List.length_nil] at h <;> omega), if_pos (by simp only [List.all_cons, List.all_nil, one n h1]; rfl)]
    simp only [List.foldl_cons, List.foldl_nil, val n h1]; omega
  · by_cases h2 : n / 10 < 10
    · rw [decL_big (by omega), decL_small h2]
      have hm : n % 10 < 10 := Nat.mod_lt _ (by omega)
      have hne : UInt8.ofNat (48 + n / 10) ≠ 48 := fun e => by
        have := congrArg UInt8.toNat e; simp at this; omega
      unfold numP
      rw [if_neg (by rintro (h | h | ⟨_, h⟩); · simp only [List.singleton_append, List.length_cons, List.length_nil] at h; omega
                     · simp only [List.singleton_append, List.length_cons, List.length_nil] at h; omega
                     · exact hne h), if_pos (by simp only [List.singleton_append, List.all_cons, List.all_nil, one _ h2, one _ hm]; rfl)]
      simp only [List.singleton_append, List.foldl_cons, List.foldl_nil, val _ h2, val _ hm]; omega
    · have hn : n = 100 := by omega
      subst hn
      rw [decL_big (by omega), decL_big (by omega), decL_small (by omega)]
      decide
end Go.Proofs.YtnkknfnndoegpaaGreatDoor.Selss
