/-
  Contracts: impl.isLetters, impl.WordRight answer the plain functions ofB, wordB, typeB of their bytes, and leave the world as it is. Conditions: a text has at most maxLen bytes.
-/
import Derived.Test.YthdncjdopejkkaaDoorRows
import Derived.Test.YthdncjdopejkkaaDoorWordW
namespace Go.Proofs.YthdncjdopejkkaaDoor.Words
open Go.RowKit
set_option linter.unusedVariables false

theorem implOf (s : ByteArray) (hs : s.size ≤ maxLen) (lo hi : Int) (hlo : 0 ≤ lo ∧ lo ≤ 255) (hhi : 0 ≤ hi ∧ hi ≤ 255) (w : World) :
    Calls Tryd.prog 68 #[.string s, .int .u8 lo, .int .u8 hi] w fun e w' => e = .returned (.bool (ofB s lo hi)) ∧ w = w' := by
  unfold maxLen at hs
  by_cases h1 : s.size < 1
  · have hf : Hid (ofB s lo hi = false) := Lib.hid (ofB_no fun h => by have := h.some; omega)
    have h1i : (s.size : Int) < 1 := by omega
    clear h1
    go_enter Tryd.func68, Tryd.ntmps68
    go_wp2_with fail
    go_ret
    exact ⟨ret_bool hf.out.symm, rfl⟩
  have h1i : (1 : Int) ≤ (s.size : Int) := by omega
  by_cases h2 : 8 < s.size
  · have hf : Hid (ofB s lo hi = false) := Lib.hid (ofB_no fun h => by have := h.few; omega)
    have h2i : (8 : Int) < (s.size : Int) := by omega
    clear h2 h1
    go_enter Tryd.func68, Tryd.ntmps68
    go_wp2_with fail
    go_ret
    exact ⟨ret_bool hf.out.symm, rfl⟩
  have h2i : (s.size : Int) ≤ 8 := by omega
  have hone := Lib.hid (show 1 ≤ s.size by omega)
  have hfew := Lib.hid (show s.size ≤ 8 by omega)
  clear h1 h2
  go_enter Tryd.func68, Tryd.ntmps68
  go_wp2_with fail
  go_loopw [18] (fun i wr => ∃ k : Nat, k ≤ s.size ∧ i = .int .i64 k ∧ Hid (∀ j, j < k → lo ≤ bt s j ∧ bt s j ≤ hi) ∧ w = wr) (fun i _ => s.size - (intOf i).toNat)
  case atStart => exact ⟨0, by omega, rfl, Lib.hid (by omega), rfl⟩
  case round =>
    obtain ⟨k, hk, rfl, hall, rfl⟩ := hrel
    by_cases hlt : k < s.size
    · have hli : (k : Int) < (s.size : Int) := by omega
      have hb := byte_range s k hlt
      by_cases hx : lo ≤ (s[k].toNat : Int) ∧ (s[k].toNat : Int) ≤ hi
      · obtain ⟨hx1, hx2⟩ := hx
        have hnext : Hid (∀ j, j < k + 1 → lo ≤ bt s j ∧ bt s j ≤ hi) := Lib.hid fun j hj => by
          by_cases e : j = k
          · subst e; rw [← bt_at hlt]; exact ⟨hx1, hx2⟩
          · exact hall.out j (by omega)
        go_wp2_with fail
        go_roundw
        case rel => exact ⟨k + 1, by omega, by go_num, hnext, by trivial⟩
        case measure => simp [intOf]; omega
      · have hf : Hid (ofB s lo hi = false) := Lib.hid (ofB_no fun h => hx (by have := h.each k hlt; rw [bt_at hlt]; exact this))
        by_cases hx1 : (s[k].toNat : Int) < lo
        · clear hx
          go_wp2_with fail
          go_ret
          exact ⟨ret_bool hf.out.symm, rfl⟩
        · have hx2 : hi < (s[k].toNat : Int) := by omega
          have hx3 : lo ≤ (s[k].toNat : Int) := by omega
          clear hx hx1
          go_wp2_with fail
          go_ret
          exact ⟨ret_bool hf.out.symm, rfl⟩
    · obtain rfl : k = s.size := by omega
      clear hlt
      have hf : Hid (ofB s lo hi = true) := Lib.hid (ofB_yes ⟨hone.out, hfew.out, hall.out⟩)
      go_wp2_with fail
      go_ret
      exact ⟨ret_bool (by rw [hf.out]), rfl⟩

theorem implWordRight (s : ByteArray) (hs : s.size ≤ maxLen) (w : World) :
    Calls Tryd.prog 65 #[.string s] w fun e w' => e = .returned (.bool (wordB s)) ∧ w = w' := by
  go_enter Tryd.func65, Tryd.ntmps65
  go_wp2_with (go_at_call 68; refine (implOf s hs 97 122 (by omega) (by omega) _).mono ?_; rintro e w' ⟨rfl, rfl⟩)
  all_goals go_ret
  all_goals exact ⟨ret_bool (by unfold wordB; rw [Bool.and_comm (ofB s 97 122)] <;> simp_all), rfl⟩
end Go.Proofs.YthdncjdopejkkaaDoor.Words
