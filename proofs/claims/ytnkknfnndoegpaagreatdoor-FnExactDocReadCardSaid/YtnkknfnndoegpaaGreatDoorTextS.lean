/-
  Contracts: spec.l03Text answers the text of selections that may be; of what was there nothing is changed. Conditions: in memory, no more than 1000 of them.
-/
import Derived.Test.YtnkknfnndoegpaaGreatDoorRows
import Derived.Test.YtnkknfnndoegpaaGreatDoorDocB
import Derived.Test.YtnkknfnndoegpaaGreatDoorDec
namespace Go.Proofs.YtnkknfnndoegpaaGreatDoor.Selss
open Go.RowKit Words Decs
set_option linter.unusedVariables false
set_option maxRecDepth 100000

def sB (l : List UInt8) : ByteArray := ⟨l.toArray⟩
/-- A field's own part: its key, its name, how many of it. -/
def fieldT (key nm : ByteArray) (f : Int) : ByteArray :=
  ((if key = nm then ByteArray.empty else key ++ sB [58]) ++ nm) ++ (if f = -1 then ByteArray.empty else (sB [40] ++ decB f) ++ sB [41])
/-- What a selection tells ahead of what is within it. -/
def headT (k : Int) (key nm : ByteArray) (f : Int) : ByteArray :=
  if k = 3 then (sB [46, 46, 46] ++ nm) ++ sB [32] else if k = 2 then (sB [46, 46, 46, 111, 110, 32] ++ nm) ++ sB [32] else fieldT key nm f ++ sB [32]
def Sels.body : Sels → ByteArray
  | .nil => ByteArray.empty
  | .cons k key nm f u r => (headT k key nm f ++ (if k = 3 ∨ u.len = 0 then ByteArray.empty else ((sB [123, 32] ++ u.body) ++ sB [125]) ++ sB [32])) ++ r.body
/-- The text of selections. -/
def Sels.text (s : Sels) : ByteArray := (sB [123, 32] ++ s.body) ++ sB [125]
theorem body_step {i : Nat} {s : Sels} {k : Int} {key nm : ByteArray} {f : Int} {u r : Sels} (h : s.drop i = .cons k key nm f u r) :
    (s.drop i).body = (headT k key nm f ++ (if k = 3 ∨ u.len = 0 then ByteArray.empty else u.text ++ sB [32])) ++ (s.drop (i + 1)).body := by
  rw [Sels.drop_succ i s h, h]; rfl
theorem cat_next {T b x y t h z : ByteArray} (ht : t ++ b = T) (hb : b = (h ++ z) ++ y) : ((t ++ h) ++ z) ++ y = T := by
  rw [← ht, hb]; simp only [ByteArray.append_assoc]

theorem wordB_size {s : ByteArray} (h : wordB s = true) : s.size ≤ 8 := by
  unfold wordB at h
  simp only [Bool.and_eq_true] at h
  have h1 := h.1
  by_cases ho : OfOk s 97 122
  · exact ho.few
  · rw [ofB_no ho] at h1; cases h1
theorem typeB_size {s : ByteArray} (h : typeB s = true) : s.size ≤ 8 := by
  unfold typeB at h
  by_cases ho : OfOk s 65 90
  · exact ho.few
  · rw [ofB_no ho] at h; cases h
theorem decL_len : ∀ (k n : Nat), n < 10 ^ (k + 1) → (decL n).length ≤ k + 1
  | 0, n, h => by rw [decL_small (by omega)]; simp
  | k + 1, n, h => by
    by_cases hn : n < 10
    · rw [decL_small hn]; simp
    · rw [decL_big (by omega), List.length_append]
      have := decL_len k (n / 10) (by rw [Nat.pow_succ] at h; omega)
      simp; omega
theorem decB_size {f : Int} (h0 : 0 ≤ f) (h1 : f ≤ 100) : (decB f).size ≤ 3 := by
  unfold decB
  rw [if_neg (by omega)]
  have := decL_len 2 f.natAbs (by have : (10 : Nat) ^ (2 + 1) = 1000 := by decide
                                  omega)
  simp [ByteArray.size]; omega
theorem sB_size (l : List UInt8) : (sB l).size = l.length := by simp [sB, ByteArray.size]
/-- What a selection that may be is like. -/
theorem oneB_cases {k : Int} {key nm : ByteArray} {f : Int} {n : Nat} (h : oneB k key nm f n = true) :
    (k = 1 ∧ key.size ≤ 8 ∧ nm.size ≤ 8 ∧ -1 ≤ f ∧ f ≤ 100) ∨ (k = 2 ∧ nm.size ≤ 8 ∧ 0 < n) ∨ (k = 3 ∧ nm.size ≤ 8 ∧ n = 0) := by
  unfold oneB at h
  simp only [Bool.or_eq_true, Bool.and_eq_true, beq_iff_eq, decide_eq_true_eq] at h
  rcases h with (⟨h1, h2, h3, h4, h5⟩ | ⟨h1, h2, h3, h4, h5⟩) | ⟨h1, h2, h3, h4, h5⟩
  · exact .inl ⟨h1, wordB_size h2, wordB_size h3, h4, h5⟩
  · exact .inr (.inl ⟨h1, typeB_size h3, h5⟩)
  · exact .inr (.inr ⟨h1, wordB_size h3, h5⟩)
theorem headT_size {k : Int} {key nm : ByteArray} {f : Int} {n : Nat} (h : oneB k key nm f n = true) : (headT k key nm f).size ≤ 24 := by
  unfold headT fieldT
  rcases oneB_cases h with ⟨rfl, h1, h2, h3, h4⟩ | ⟨rfl, h1, h2⟩ | ⟨rfl, h1, h2⟩
  · rw [if_neg (by decide), if_neg (by decide)]
    have hd : f ≠ -1 → (decB f).size ≤ 3 := fun h => decB_size (by omega) h4
    by_cases e1 : key = nm <;> by_cases e2 : f = -1 <;> simp [e1, e2, ByteArray.size_append, sB_size] <;> (try have := hd e2) <;> (try subst e1) <;> omega
  · simp [ByteArray.size_append, sB_size]; omega
  · simp [ByteArray.size_append, sB_size]; omega
theorem body_size : ∀ (s : Sels) (deep : Int), selsB s deep = true → s.body.size ≤ 40 * s.all
  | .nil, _, _ => Nat.zero_le _
  | .cons k key nm f u r, deep, h => by
    unfold selsB at h
    simp only [Bool.and_eq_true] at h
    obtain ⟨⟨⟨h1, h2⟩, h3⟩, h4⟩ := h
    have hh := headT_size h1
    have hu := body_size u _ h3
    have hr := body_size r _ h4
    simp only [Sels.body, Sels.all, ByteArray.size_append]
    split
    · simp; omega
    · simp [ByteArray.size_append, sB_size]; omega
theorem text_size {s : Sels} {deep : Int} (h : selsB s deep = true) : s.text.size ≤ 40 * s.all + 3 := by
  have := body_size s deep h
  unfold Sels.text
  simp [ByteArray.size_append, sB_size]; omega
end Go.Proofs.YtnkknfnndoegpaaGreatDoor.Selss
