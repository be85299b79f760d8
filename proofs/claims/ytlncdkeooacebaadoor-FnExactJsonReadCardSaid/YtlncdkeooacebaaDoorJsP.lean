/-
  How a right node is written, plainly, byte by byte; how long that may be; no program. Conditions: as each theorem says.
-/
import Derived.Test.YtlncdkeooacebaaDoorRows
import Derived.Test.YtlncdkeooacebaaDoorNodeS
namespace Go.Proofs.YtlncdkeooacebaaDoor.Rw
open Go.RowKit Words
set_option linter.unusedVariables false
set_option maxRecDepth 100000

/-- The bytes of a text. -/
def bl (t : ByteArray) : List UInt8 := t.data.toList
theorem bl_len (t : ByteArray) : (bl t).length = t.size := rfl
theorem bl_app (a b : ByteArray) : bl (a ++ b) = bl a ++ bl b := by
  unfold bl; rw [ByteArray.data_append, Array.toList_append]
def node0 : NodeP := ⟨0, ⟨#[]⟩, [], []⟩
/-- What is written of a key, in an object. -/
def keyB (obj : Bool) (k : ByteArray) : List UInt8 := if obj then 34 :: (bl k ++ [34, 58]) else []
def sepB (i : Nat) : List UInt8 := if i = 0 then [] else [44]
/-- The first i of what is within. -/
def itB (f : NodeP → List UInt8) (obj : Bool) (ks : List ByteArray) (ns : List NodeP) : Nat → List UInt8
  | 0 => []
  | i + 1 => itB f obj ks ns i ++ (sepB i ++ (keyB obj (ks.getD i ⟨#[]⟩) ++ f (ns.getD i node0)))
/-- A node as it is written. -/
def jsB : Nat → NodeP → List UInt8
  | 0, _ => []
  | n + 1, x => if x.kind = 1 then [110, 117, 108, 108] else if x.kind = 2 then 34 :: (bl x.text ++ [34])
    else if x.kind = 4 then 123 :: (itB (jsB n) true x.keys x.kids x.kids.length ++ [125]) else 91 :: (itB (jsB n) false x.keys x.kids x.kids.length ++ [93])
theorem it_step {f : NodeP → List UInt8} {obj : Bool} {ks : List ByteArray} {ns : List NodeP} {i : Nat} {x : NodeP} (h : ns[i]? = some x) :
    itB f obj ks ns (i + 1) = itB f obj ks ns i ++ (sepB i ++ (keyB obj (ks.getD i ⟨#[]⟩) ++ f x)) := by
  show _ ++ (_ ++ (_ ++ f (ns.getD i node0))) = _
  have e : ns.getD i node0 = x := by rw [List.getD_eq_getElem?_getD, h]; rfl
  rw [e]
theorem it_mono {f : NodeP → List UInt8} {obj : Bool} {ks : List ByteArray} {ns : List NodeP} {i j : Nat} (h : i ≤ j) : (itB f obj ks ns i).length ≤ (itB f obj ks ns j).length := by
  induction j with
  | zero => obtain rfl : i = 0 := by omega
            exact Nat.le_refl _
  | succ j ih =>
    by_cases e : i = j + 1
    · subst e; exact Nat.le_refl _
    · have := ih (by omega)
      simp only [itB, List.length_append]; omega
theorem word_size {s : ByteArray} (h : wordB s = true) : s.size ≤ 8 := by
  unfold wordB at h
  have h1 : ofB s 97 122 = true := by cases e : ofB s 97 122 <;> simp [e] at h ⊢
  by_cases c : OfOk s 97 122
  · exact c.few
  · rw [ofB_no c] at h1; cases h1
theorem part_pos {d : Nat} {x : NodeP} (h : PartOk d x) : ∃ e, d = e + 1 ∧ ShapeOk x ∧ ∀ k ∈ x.kids, PartOk e k := by
  cases d with
  | zero => exact h.elim
  | succ e => exact ⟨e, rfl, h⟩
theorem part_kind {d : Nat} {x : NodeP} (h : PartOk d x) : 1 ≤ x.kind ∧ x.kind ≤ 4 := by
  obtain ⟨e, _, h1, _⟩ := part_pos h
  rcases h1.1 with g | g | g | g <;> omega
theorem part_keys {d : Nat} {x : NodeP} (h : PartOk d x) (h4 : x.kind = 4) : x.keys.length = x.kids.length := by
  obtain ⟨e, _, h1, _⟩ := part_pos h
  exact ((base4 h4).1 h1.1).2
theorem part_key {d : Nat} {x : NodeP} (h : PartOk d x) {i : Nat} {k : ByteArray} (hk : x.keys[i]? = some k) : k.size ≤ 8 := by
  obtain ⟨e, _, h1, _⟩ := part_pos h
  exact word_size (h1.2 i k hk).1
theorem key_size {ks : List ByteArray} (h : ∀ (i : Nat) (k : ByteArray), ks[i]? = some k → k.size ≤ 8) (i : Nat) : (ks.getD i ⟨#[]⟩).size ≤ 8 := by
  rw [List.getD_eq_getElem?_getD]
  cases e : ks[i]? with
  | none => exact Nat.zero_le _
  | some k => exact h i k e
theorem keyB_len {ks : List ByteArray} (h : ∀ (i : Nat) (k : ByteArray), ks[i]? = some k → k.size ≤ 8) (obj : Bool) (i : Nat) : (keyB obj (ks.getD i ⟨#[]⟩)).length ≤ 11 := by
  have := key_size h i
  unfold keyB
  cases obj
  · exact Nat.zero_le _
  · simp only [if_true, List.length_cons, List.length_append, bl_len, List.length_nil]; omega
/-- No node is written in more than 134 bytes each. -/
theorem js_len : ∀ n d x, PartOk d x → (jsB n x).length + 12 ≤ 134 * szN n x
  | 0, d, x, h => by simp [jsB, szN]
  | n + 1, d, x, h => by
    obtain ⟨e, rfl, h1, h2⟩ := part_pos h
    have hk : ∀ (i : Nat) (k : ByteArray), x.keys[i]? = some k → k.size ≤ 8 := fun i (k : ByteArray) hk => word_size (h1.2 i k hk).1
    have hit : ∀ obj i, i ≤ x.kids.length → (itB (jsB n) obj x.keys x.kids i).length ≤ 134 * sumOf (szN n) (x.kids.take i) := by
      intro obj i
      induction i with
      | zero => intro _; simp [itB]
      | succ i ih =>
        intro hi
        have ih := ih (by omega)
        have hx : x.kids[i]? = some x.kids[i] := List.getElem?_eq_getElem (by omega)
        rw [it_step hx, sum_part hx]
        have e1 := js_len n e x.kids[i] (h2 _ (List.getElem_mem _))
        have e2 := keyB_len hk obj i
        have e3 : (sepB i).length ≤ 1 := by unfold sepB; split <;> simp
        simp only [List.length_append]; omega
    have h3 := hit true x.kids.length (Nat.le_refl _)
    have h4 := hit false x.kids.length (Nat.le_refl _)
    rw [List.take_length] at h3 h4
    simp only [jsB, szN]
    split
    · simp; omega
    · split
      · rename_i g
        have := plainB_size ((base2 g).1 h1.1).1
        simp only [List.length_cons, List.length_append, bl_len, List.length_nil]; omega
      · split
        · simp only [List.length_cons, List.length_append, List.length_nil]; omega
        · simp only [List.length_cons, List.length_append, List.length_nil]; omega
theorem js_right {n : Nat} {x : NodeP} (h : RightN n x) : (jsB n x).length ≤ 268000 := by
  have := js_len n _ x h.2
  have := h.1
  omega
/-- A node's text as a text. -/
noncomputable def jsT (n : Nat) (x : NodeP) : ByteArray := if decB (RightN n x) = true then ⟨(jsB n x).toArray⟩ else ⟨#[]⟩
theorem jsT_yes {n : Nat} {x : NodeP} (h : RightN n x) : jsT n x = ⟨(jsB n x).toArray⟩ := by unfold jsT; rw [decB_yes h]; rfl
theorem jsT_no {n : Nat} {x : NodeP} (h : ¬ RightN n x) : jsT n x = ⟨#[]⟩ := by unfold jsT; rw [decB_no h]; rfl
theorem jsT_size (n : Nat) (x : NodeP) : (jsT n x).size ≤ 268000 := by
  by_cases h : RightN n x
  · rw [jsT_yes h]
    have := js_right h
    simpa [ByteArray.size] using this
  · rw [jsT_no h]; exact Nat.zero_le _
end Go.Proofs.YtlncdkeooacebaaDoor.Rw
