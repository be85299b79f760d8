/-
  Contracts: impl.PutText and spec.PutText answer the bytes putTextB; of what was there nothing is changed. Conditions: a text of at most maxLen bytes.
-/
import Derived.Test.YtlncdkeooacebaaDoorRows
import Derived.Test.YtlncdkeooacebaaDoorNum
import Derived.Test.YtlncdkeooacebaaDoorText
namespace Go.Proofs.YtlncdkeooacebaaDoor.PutTexts
open Go.RowKit NumMath Texts Bytes Nums
set_option linter.unusedVariables false

def putTextB (s : ByteArray) : ByteArray := if 8000 < s.size then ByteArray.empty else putB s.size ++ s
theorem putTextB_no {s : ByteArray} (h : 8000 < s.size) : putTextB s = ByteArray.empty := by rw [putTextB, if_pos h]
theorem putTextB_yes {s : ByteArray} (h : s.size ≤ 8000) : putTextB s = putB s.size ++ s := by rw [putTextB, if_neg (by omega)]
theorem putL_length (f u : Nat) : (putL f u).length ≤ f + 1 := by
  induction f generalizing u with
  | zero => simp [putL]
  | succ f ih =>
    rw [putL]; split
    · simp
    · have := ih (u / 128); simp; omega
theorem putB_size (n : Int) : (putB n).size ≤ 10 := by
  have := putL_length 9 (fold n)
  have e : (putB n).size = (putL 9 (fold n)).length := by simp [putB, ByteArray.size]
  omega

theorem implPutText (s : ByteArray) (hs : s.size ≤ maxLen) (w : World) :
    Calls Tryd.prog 13 #[.string s] w fun e w' => e = .returned (.string (putTextB s)) ∧ Below w.heap.size w w' := by
  unfold maxLen at hs
  by_cases h8 : 8000 < s.size
  · have h8i : (8000 : Int) < (s.size : Int) := by omega
    have hv := Lib.hid (putTextB_no h8)
    clear h8
    go_enter Tryd.func13, Tryd.ntmps13
    go_wp2_with fail
    go_ret
    exact ⟨ret_string hv.out.symm, Below.refl _ _⟩
  · have h8' : s.size ≤ 8000 := by omega
    have h8i : (s.size : Int) ≤ 8000 := by omega
    clear h8
    have hv := Lib.hid (putTextB_yes h8')
    have hp := putB_size (s.size : Int)
    go_enter Tryd.func13, Tryd.ntmps13
    go_wp2_with (first | (go_at_call 9; refine (implPutNum _ (by omega) (by omega) _).mono ?_; rintro e w1 ⟨rfl, hb1⟩) | (go_at_call 38; refine (joined_any _ s _ (by omega)).mono ?_; rintro e w2 ⟨rfl, hb2⟩))
    go_ret
    exact ⟨ret_string hv.out.symm, hb1.trans (hb2.mono hb1.size)⟩

theorem specPutText (s : ByteArray) (hs : s.size ≤ maxLen) (w : World) :
    Calls Tryd.prog 14 #[.string s] w fun e w' => e = .returned (.string (putTextB s)) ∧ Below w.heap.size w w' := by
  unfold maxLen at hs
  by_cases h8 : 8000 < s.size
  · have h8i : (8000 : Int) < (s.size : Int) := by omega
    have hv := Lib.hid (putTextB_no h8)
    clear h8
    go_enter Tryd.func14, Tryd.ntmps14
    go_wp2_with fail
    go_ret
    exact ⟨ret_string hv.out.symm, Below.refl _ _⟩
  · have h8' : s.size ≤ 8000 := by omega
    have h8i : (s.size : Int) ≤ 8000 := by omega
    clear h8
    have hv := Lib.hid (putTextB_yes h8')
    have hp := putB_size (s.size : Int)
    go_enter Tryd.func14, Tryd.ntmps14
    go_wp2_with (go_at_call 10; refine (specPutNum _ (by omega) (by omega) _).mono ?_; rintro e w1 ⟨rfl, hb1⟩)
    go_ret
    exact ⟨ret_string hv.out.symm, hb1⟩
end Go.Proofs.YtlncdkeooacebaaDoor.PutTexts
