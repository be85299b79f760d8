/-
  Contracts: spec.l03Of, spec.WordRight answer the plain functions ofB, wordB, typeB of their bytes, and leave the world as it is. Conditions: a text has at most maxLen bytes.
-/
import Derived.Test.YthdncjdopejkkaaDoorRows
import Derived.WalkKit
import Derived.Deep.QuietTactic
import Derived.BigQuiet
import Derived.Outline
import Derived.Lib.Hide
namespace Go.Proofs.YthdncjdopejkkaaDoor.Words
open Go.RowKit
set_option linter.unusedVariables false

theorem ret_bool {a b : Bool} (h : a = b) : Ending.returned (.bool a) = .returned (.bool b) := by rw [h]
def bt (s : ByteArray) (k : Nat) : Int := if h : k < s.size then (s[k].toNat : Int) else 0
theorem bt_at {s : ByteArray} {k : Nat} (h : k < s.size) : (s[k].toNat : Int) = bt s k := by simp [bt, h]
theorem byte_range (s : ByteArray) (k : Nat) (hlt : k < s.size) : (0 : Int) ≤ (s[k].toNat : Int) ∧ (s[k].toNat : Int) ≤ 255 := by
  have := s[k].toNat_lt; omega
/-- A text of 1 to 8 bytes from lo to hi. -/
structure OfOk (s : ByteArray) (lo hi : Int) : Prop where
  some : 1 ≤ s.size
  few : s.size ≤ 8
  each : ∀ k, k < s.size → lo ≤ bt s k ∧ bt s k ≤ hi
noncomputable def ofB (s : ByteArray) (lo hi : Int) : Bool := @decide (OfOk s lo hi) (Classical.propDecidable _)
theorem ofB_yes {s : ByteArray} {lo hi : Int} (h : OfOk s lo hi) : ofB s lo hi = true := by simp [ofB, h]
theorem ofB_no {s : ByteArray} {lo hi : Int} (h : ¬ OfOk s lo hi) : ofB s lo hi = false := by simp [ofB, h]

theorem specOf (s : ByteArray) (hs : s.size ≤ maxLen) (lo hi : Int) (hlo : 0 ≤ lo ∧ lo ≤ 255) (hhi : 0 ≤ hi ∧ hi ≤ 255) (w : World) :
    Calls Tryd.prog 47 #[.string s, .int .u8 lo, .int .u8 hi] w fun e w' => e = .returned (.bool (ofB s lo hi)) ∧ w = w' := by
  unfold maxLen at hs
  go_enter Tryd.func47, Tryd.ntmps47
  go_wp2_with fail
  go_loopw [7] (fun i wr => ∃ k : Nat, k ≤ s.size ∧ i = .int .i64 k ∧ Hid (∀ j, j < k → lo ≤ bt s j ∧ bt s j ≤ hi) ∧ w = wr) (fun i _ => s.size - (intOf i).toNat)
  case atStart => exact ⟨0, by omega, rfl, Lib.hid (by omega), rfl⟩
  case round =>
    obtain ⟨k, hk, rfl, hall, rfl⟩ := hrel
    by_cases hlt : k < s.size
    · have hli : (k : Int) < (s.size : Int) := by omega
      have hb := byte_range s k hlt
      by_cases hx : lo ≤ (s[k].toNat : Int) ∧ (s[k].toNat : Int) ≤ hi
      · obtain ⟨hx1, hx2⟩ := hx
        have hnext : Hid (∀ j, j < k + 1 → lo ≤ bt s j ∧ bt s j ≤ hi) := Lib.hid fun j hj => by
          by_cases e : j = k
          · subst e; rw [← bt_at hlt]; exact ⟨hx1, hx2⟩
          · exact hall.out j (by omega)
        go_wp2_with fail
        go_roundw
        case rel => exact ⟨k + 1, by omega, by go_num, hnext, by trivial⟩
        case measure => simp [intOf]; omega
      · have hf : Hid (ofB s lo hi = false) := Lib.hid (ofB_no fun h => hx (by have := h.each k hlt; rw [bt_at hlt]; exact this))
        by_cases hx1 : (s[k].toNat : Int) < lo
        · clear hx
          go_wp2_with fail
          go_ret
          exact ⟨ret_bool hf.out.symm, rfl⟩
        · have hx2 : hi < (s[k].toNat : Int) := by omega
          have hx3 : lo ≤ (s[k].toNat : Int) := by omega
          clear hx hx1
          go_wp2_with fail
          go_ret
          exact ⟨ret_bool hf.out.symm, rfl⟩
    · obtain rfl : k = s.size := by omega
      clear hlt
      by_cases h1 : s.size < 1
      · have hf : Hid (ofB s lo hi = false) := Lib.hid (ofB_no fun h => by have := h.some; omega)
        have h1i : (s.size : Int) < 1 := by omega
        clear h1
        go_wp2_with fail
        go_ret
        exact ⟨ret_bool hf.out.symm, rfl⟩
      have h1i : (1 : Int) ≤ (s.size : Int) := by omega
      clear h1
      by_cases h2 : 8 < s.size
      · have hf : Hid (ofB s lo hi = false) := Lib.hid (ofB_no fun h => by have := h.few; omega)
        have h2i : (8 : Int) < (s.size : Int) := by omega
        clear h2
        go_wp2_with fail
        go_ret
        exact ⟨ret_bool (by rw [hf.out]; exact decide_eq_false (by omega)), rfl⟩
      have h2i : (s.size : Int) ≤ 8 := by omega
      clear h2
      have hf : Hid (ofB s lo hi = true) := Lib.hid (ofB_yes ⟨by omega, by omega, hall.out⟩)
      go_wp2_with fail
      go_ret
      exact ⟨ret_bool (by rw [hf.out]), rfl⟩

noncomputable def typeB (s : ByteArray) : Bool := ofB s 65 90
/-- A word: not 'on', not 'fragment'. -/
noncomputable def wordB (s : ByteArray) : Bool := ofB s 97 122 && (!(s.toList == [111, 110]) && !(s.toList == [102, 114, 97, 103, 109, 101, 110, 116]))
theorem specWordRight (s : ByteArray) (hs : s.size ≤ maxLen) (w : World) :
    Calls Tryd.prog 28 #[.string s] w fun e w' => e = .returned (.bool (wordB s)) ∧ w = w' := by
  go_enter Tryd.func28, Tryd.ntmps28
  go_wp2_with (go_at_call 47; refine (specOf s hs 97 122 (by omega) (by omega) _).mono ?_; rintro e w' ⟨rfl, rfl⟩)
  all_goals go_ret
  all_goals exact ⟨ret_bool (by simp_all [wordB]), rfl⟩
end Go.Proofs.YthdncjdopejkkaaDoor.Words
