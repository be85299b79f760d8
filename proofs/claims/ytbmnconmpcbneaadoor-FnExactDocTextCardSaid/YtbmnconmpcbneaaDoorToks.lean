/-
  The words of a Doc's text: the text, parted at its blanks, is they; no program. Conditions: a right Doc.
-/
import Derived.Test.YtbmnconmpcbneaaDoorRows
import Derived.Test.YtbmnconmpcbneaaDoorDocText
import Derived.Test.YtbmnconmpcbneaaDoorSplitP
namespace Go.Proofs.YtbmnconmpcbneaaDoor.Selss
open Go.RowKit Words Decs Splits
set_option linter.unusedVariables false
set_option maxRecDepth 100000

abbrev Tok := List UInt8
def bl (b : ByteArray) : Tok := b.data.toList
theorem bl_append (a b : ByteArray) : bl (a ++ b) = bl a ++ bl b := by simp [bl]
theorem bl_sB (l : List UInt8) : bl (sB l) = l := by simp [bl, sB]
theorem bl_empty : bl ByteArray.empty = [] := rfl
theorem bl_inj {a b : ByteArray} (h : bl a = bl b) : a = b := ByteArray.ext (Array.toList_inj.1 h)
/-- Words, each with a blank behind it. -/
def flat : List Tok → List UInt8
  | [] => []
  | t :: r => (t ++ [32]) ++ flat r
theorem flat_append (a b : List Tok) : flat (a ++ b) = flat a ++ flat b := by
  induction a with
  | nil => rfl
  | cons t r ih => simp [flat, ih]
/-- The words of selections. -/
def Sels.toks : Sels → List Tok
  | .nil => []
  | .cons k key nm f u r =>
    (if k = 3 then [[46, 46, 46] ++ bl nm]
     else (if k = 2 then [[46, 46, 46, 111, 110], bl nm] else [bl (fieldT key nm f)]) ++ (if u.len = 0 then [] else [123] :: (u.toks ++ [[125]]))) ++ r.toks
theorem body_flat : ∀ s : Sels, bl s.body = flat s.toks
  | .nil => rfl
  | .cons k key nm f u r => by
    have hu := body_flat u
    have hr := body_flat r
    simp only [Sels.body, Sels.toks, bl_append, hr, flat_append]
    congr 1
    unfold headT
    by_cases h3 : k = 3
    · simp [h3, flat, bl_append, bl_sB, bl_empty]
    · by_cases hl : u.len = 0
      · by_cases h2 : k = 2
        · simp [h2, hl, flat, bl_append, bl_sB, bl_empty]
        · simp [h3, h2, hl, flat, bl_append, bl_sB, bl_empty]
      · by_cases h2 : k = 2
        · simp [h2, hl, flat, flat_append, bl_append, bl_sB, hu]
        · simp [h3, h2, hl, flat, flat_append, bl_append, bl_sB, hu]
theorem text_flat (s : Sels) : bl s.text ++ [32] = flat ([123] :: (s.toks ++ [[125]])) := by
  simp [Sels.text, bl_append, bl_sB, body_flat, flat, flat_append]
def fragToks (x : FragP) : List Tok := [[102, 114, 97, 103, 109, 101, 110, 116], bl x.name, [111, 110], bl x.on] ++ ([123] :: (x.sels.toks ++ [[125]]))
def fragsToks : List FragP → List Tok
  | [] => []
  | x :: l => fragToks x ++ fragsToks l
theorem fragT_flat (x : FragP) : bl (fragT x) ++ [32] = 32 :: flat (fragToks x) := by
  have := text_flat x.sels
  simp only [fragT, bl_append, bl_sB, fragToks, flat_append, flat, List.append_assoc] at this ⊢
  simp [this]
theorem fragsT_flat : ∀ l : List FragP, bl (fragsT l) ++ [32] = 32 :: flat (fragsToks l)
  | [] => rfl
  | x :: l => by
    have h1 := fragT_flat x
    have h2 := fragsT_flat l
    simp only [fragsT, fragsToks, bl_append, flat_append, List.append_assoc]
    rw [h2, ← List.singleton_append, ← List.append_assoc, h1]; rfl
def docToks (d : DocP) : List Tok := [123] :: (d.sels.toks ++ [[125]]) ++ fragsToks d.frags
theorem docT_flat {d : DocP} (h : docB d = true) : bl (docT d) ++ [32] = flat (docToks d) := by
  rw [← docT_yes h, bl_append, List.append_assoc, fragsT_flat]
  have := text_flat d.sels
  unfold docToks
  rw [flat_append, ← this]; simp

/-- A word without the byte. -/
theorem splitL_word {c : UInt8} : ∀ {t : Tok}, c ∉ t → ∀ rest, splitL c (t ++ c :: rest) = t :: splitL c rest
  | [], _, rest => by simp [splitL]
  | x :: t, h, rest => by
    have hx : x ≠ c := fun e => h (by simp [e])
    have ht : c ∉ t := fun e => h (by simp [e])
    rw [List.cons_append, splitL, if_neg hx, splitL_word ht rest]; rfl
theorem splitL_last {c : UInt8} : ∀ {t : Tok}, c ∉ t → splitL c t = [t]
  | [], _ => rfl
  | x :: t, h => by
    have hx : x ≠ c := fun e => h (by simp [e])
    have ht : c ∉ t := fun e => h (by simp [e])
    rw [splitL, if_neg hx, splitL_last ht]; rfl
theorem splitL_flat : ∀ {ts : List Tok}, (∀ t ∈ ts, (32 : UInt8) ∉ t) → ts ≠ [] → ∀ l, l ++ [32] = flat ts → splitL 32 l = ts
  | [], _, h, _, _ => absurd rfl h
  | [t], hs, _, l, hl => by
    simp only [flat, List.append_nil] at hl
    have : l = t := List.append_cancel_right hl
    subst this
    exact splitL_last (hs _ (by simp))
  | t :: t2 :: r, hs, _, l, hl => by
    have ht : (32 : UInt8) ∉ t := hs t (by simp)
    have hne : flat (t2 :: r) ≠ [] := by simp [flat]
    obtain ⟨l2, hl2⟩ : ∃ l2, flat (t2 :: r) = l2 ++ [32] := by
      have key : ∀ q : List Tok, q ≠ [] → ∃ l2, flat q = l2 ++ [32] := by
        intro q
        induction q with
        | nil => intro h; exact absurd rfl h
        | cons a q ih =>
          intro _
          cases q with
          | nil => exact ⟨a, by simp [flat]⟩
          | cons b q' =>
            obtain ⟨m, hm⟩ := ih (by simp)
            exact ⟨(a ++ [32]) ++ m, by rw [flat, hm]; simp⟩
      exact key _ (by simp)
    have e : l = t ++ 32 :: l2 := by
      rw [flat, hl2, ← List.append_assoc] at hl
      have := List.append_cancel_right hl
      rw [this]; simp
    rw [e, splitL_word ht, splitL_flat (fun x hx => hs x (by simp only [List.mem_cons] at hx ⊢; exact .inr hx)) (by simp) l2 hl2.symm]
end Go.Proofs.YtbmnconmpcbneaaDoor.Selss
