/-
  Contracts: isLower, isNameByte, impl.NameRight and spec.NameRight answer the plain functions low, nmb, nameB of their bytes, and leave the world as it is. Conditions: a byte is 0 to 255; a text has at most maxLen bytes.
-/
import Derived.Test.YtpfgmdlkacildaaRows
import Derived.WalkKit
import Derived.Deep.QuietTactic
import Derived.BigQuiet
import Derived.Outline
import Derived.Lib.Hide
namespace Go.Proofs.Ytpfgmdlkacildaa.Names
open Go.RowKit

def low (c : Int) : Bool := decide (97 ≤ c) && decide (c ≤ 122)
def nmb (c : Int) : Bool := low c || (decide (48 ≤ c) && decide (c ≤ 57)) || (c == 95)
theorem low_yes {c : Int} (h : 97 ≤ c) (h' : c ≤ 122) : low c = true := by simp [low, h, h']
theorem low_no {c : Int} (h : c < 97 ∨ 122 < c) : low c = false := by simp [low]; omega
theorem ret_bool {a b : Bool} (h : a = b) : Ending.returned (.bool a) = .returned (.bool b) := by rw [h]
def bt (s : ByteArray) (k : Nat) : Int := if h : k < s.size then (s[k].toNat : Int) else 0
theorem bt_at {s : ByteArray} {k : Nat} (h : k < s.size) : (s[k].toNat : Int) = bt s k := by simp [bt, h]
structure NameOk (s : ByteArray) : Prop where
  some : 1 ≤ s.size
  few : s.size ≤ 20
  first : low (bt s 0) = true
  each : ∀ k, k < s.size → nmb (bt s k) = true
noncomputable def nameB (s : ByteArray) : Bool := @decide (NameOk s) (Classical.propDecidable _)
theorem nameB_yes {s : ByteArray} (h : NameOk s) : nameB s = true := by simp [nameB, h]
theorem nameB_no {s : ByteArray} (h : ¬ NameOk s) : nameB s = false := by simp [nameB, h]

theorem nmb_low {c : Int} (h : low c = true) : nmb c = true := by simp [nmb, h]
theorem nmb_dig {c : Int} (h : 48 ≤ c) (h' : c ≤ 57) : nmb c = true := by simp [nmb, h, h']
theorem nmb_bar {c : Int} (h : c = 95) : nmb c = true := by simp [nmb, h]
theorem nmb_no {c : Int} (h : c < 97 ∨ 122 < c) (h1 : c < 48 ∨ 57 < c) (h2 : c ≠ 95) : nmb c = false := by
  rw [nmb, low_no h]; simp [h2]; omega
theorem each_next {s : ByteArray} {k : Nat} (hlt : k < s.size) (hall : Hid (∀ j, j < k → nmb (bt s j) = true ∧ (j = 0 → low (bt s 0) = true)))
    (hy : nmb (s[k].toNat : Int) = true) (h0 : k = 0 → low (s[k].toNat : Int) = true) :
    Hid (∀ j, j < k + 1 → nmb (bt s j) = true ∧ (j = 0 → low (bt s 0) = true)) := Lib.hid fun j hj => by
  by_cases e : j = k
  · subst e
    exact ⟨by rw [← bt_at hlt]; exact hy, fun e => by subst e; rw [← bt_at hlt]; exact h0 rfl⟩
  · exact hall.out j (by omega)
theorem byte_range (s : ByteArray) (k : Nat) (hlt : k < s.size) : (0 : Int) ≤ (s[k].toNat : Int) ∧ (s[k].toNat : Int) ≤ 255 := by
  have := s[k].toNat_lt; omega

theorem isLower_any (c : Int) (h0 : 0 ≤ c) (h1 : c ≤ 255) (w : World) :
    Calls Try.prog 40 #[.int .u8 c] w fun e w' => e = .returned (.bool (low c)) ∧ w = w' := by
  by_cases ha : 97 ≤ c
  · by_cases hb : c ≤ 122
    · go_enter Try.func40, Try.ntmps40
      go_wp2_with fail
      go_ret
      exact ⟨ret_bool (low_yes ha hb).symm, rfl⟩
    · have hb' : 122 < c := by omega
      go_enter Try.func40, Try.ntmps40
      go_wp2_with fail
      go_ret
      exact ⟨ret_bool (low_no (.inr hb')).symm, rfl⟩
  · have ha' : c < 97 := by omega
    go_enter Try.func40, Try.ntmps40
    go_wp2_with fail
    go_ret
    exact ⟨ret_bool (low_no (.inl ha')).symm, rfl⟩

theorem isNameByte_any (c : Int) (h0 : 0 ≤ c) (h1 : c ≤ 255) (w : World) :
    Calls Try.prog 41 #[.int .u8 c] w fun e w' => e = .returned (.bool (nmb c)) ∧ w = w' := by
  by_cases hl : low c = true
  · go_enter Try.func41, Try.ntmps41
    go_wp2_with (go_at_call 40; refine (isLower_any c h0 h1 _).mono ?_; rintro e w' ⟨rfl, rfl⟩)
    go_ret
    exact ⟨ret_bool (by simp [nmb, hl]), rfl⟩
  · have hl' : low c = false := by simpa using hl
    clear hl
    by_cases ha : 48 ≤ c
    · by_cases hb : c ≤ 57
      · go_enter Try.func41, Try.ntmps41
        go_wp2_with (go_at_call 40; refine (isLower_any c h0 h1 _).mono ?_; rintro e w' ⟨rfl, rfl⟩)
        go_ret
        exact ⟨ret_bool (by simp [nmb, hl', ha, hb]), rfl⟩
      · have hb' : 57 < c := by omega
        go_enter Try.func41, Try.ntmps41
        go_wp2_with (go_at_call 40; refine (isLower_any c h0 h1 _).mono ?_; rintro e w' ⟨rfl, rfl⟩)
        go_ret
        exact ⟨ret_bool (by rw [nmb, hl', show decide (c ≤ 57) = false by simp; omega]; simp), rfl⟩
    · have ha' : c < 48 := by omega
      go_enter Try.func41, Try.ntmps41
      go_wp2_with (go_at_call 40; refine (isLower_any c h0 h1 _).mono ?_; rintro e w' ⟨rfl, rfl⟩)
      go_ret
      exact ⟨ret_bool (by rw [nmb, hl', show decide (48 ≤ c) = false by simp; omega]; simp), rfl⟩

theorem implNameRight (s : ByteArray) (hs : s.size ≤ maxLen) (w : World) :
    Calls Try.prog 25 #[.string s] w fun e w' => e = .returned (.bool (nameB s)) ∧ w = w' := by
  unfold maxLen at hs
  by_cases h1 : s.size < 1
  · have hn : Hid (nameB s = false) := Lib.hid (nameB_no fun h => by have := h.some; omega)
    go_enter Try.func25, Try.ntmps25
    go_wp2_with fail
    go_ret
    exact ⟨ret_bool hn.out.symm, rfl⟩
  have h1' : 0 < s.size := by omega
  have h1i : (1 : Int) ≤ (s.size : Int) := by omega
  clear h1
  by_cases h2 : 20 < s.size
  · have h2i : (20 : Int) < (s.size : Int) := by omega
    have hn : Hid (nameB s = false) := Lib.hid (nameB_no fun h => by have := h.few; omega)
    go_enter Try.func25, Try.ntmps25
    go_wp2_with fail
    go_ret
    exact ⟨ret_bool hn.out.symm, rfl⟩
  have h2' : s.size ≤ 20 := by omega
  have h2i : (s.size : Int) ≤ 20 := by omega
  clear h2
  by_cases h3 : low (bt s 0) = true
  · have h3' : low (s[0].toNat : Int) = true := by rw [bt_at h1']; exact h3
    have H3 := Lib.hid h3
    clear h3
    go_enter Try.func25, Try.ntmps25
    go_wp2_with (go_at_call 40; refine (isLower_any _ (by omega) (by have := s[0].toNat_lt; omega) _).mono ?_; rintro e w' ⟨rfl, rfl⟩)
    go_loop [20] (fun i => ∃ k : Nat, k ≤ s.size ∧ i = .int .i64 k ∧ Hid (∀ j, j < k → nmb (bt s j) = true)) (fun i => s.size - (intOf i).toNat)
    case atStart => exact ⟨0, by omega, rfl, Lib.hid (by omega)⟩
    case round =>
      obtain ⟨k, hk, rfl, hall⟩ := hrel
      by_cases hlt : k < s.size
      · by_cases hy : nmb (s[k].toNat : Int) = true
        · go_wp2_with (go_at_call 41; refine (isNameByte_any _ (by omega) (by have := s[k].toNat_lt; omega) _).mono ?_; rintro e w' ⟨rfl, rfl⟩)
          go_round
          case rel => exact ⟨k + 1, by omega, by go_num, Lib.hid fun j hj => by
            by_cases e : j = k
            · subst e; rw [← bt_at hlt]; exact hy
            · exact hall.out j (by omega)⟩
          case measure => simp [intOf]; omega
        · have hy' : nmb (s[k].toNat : Int) = false := by simpa using hy
          clear hy
          go_wp2_with (go_at_call 41; refine (isNameByte_any _ (by omega) (by have := s[k].toNat_lt; omega) _).mono ?_; rintro e w' ⟨rfl, rfl⟩)
          go_ret
          exact ⟨ret_bool (nameB_no fun h => by have := h.each k hlt; rw [← bt_at hlt, hy'] at this; cases this).symm, rfl⟩
      · go_wp2_with fail
        go_ret
        exact ⟨ret_bool (nameB_yes ⟨by omega, h2', H3.out, fun j hj => hall.out j (by omega)⟩).symm, rfl⟩
  · have h3' : low (s[0].toNat : Int) = false := by rw [bt_at h1']; simpa using h3
    have hn := Lib.hid (nameB_no (s := s) fun h => h3 h.first)
    clear h3
    go_enter Try.func25, Try.ntmps25
    go_wp2_with (go_at_call 40; refine (isLower_any _ (by omega) (by have := s[0].toNat_lt; omega) _).mono ?_; rintro e w' ⟨rfl, rfl⟩)
    go_ret
    exact ⟨ret_bool hn.out.symm, rfl⟩

theorem specNameRight (s : ByteArray) (hs : s.size ≤ maxLen) (w : World) :
    Calls Try.prog 24 #[.string s] w fun e w' => e = .returned (.bool (nameB s)) ∧ w = w' := by
  unfold maxLen at hs
  by_cases h1 : s.size < 1
  · have hn : Hid (nameB s = false) := Lib.hid (nameB_no fun h => by have := h.some; omega)
    go_enter Try.func24, Try.ntmps24
    go_wp2_with fail
    go_ret
    exact ⟨ret_bool hn.out.symm, rfl⟩
  have h1' : 0 < s.size := by omega
  have h1i : (1 : Int) ≤ (s.size : Int) := by omega
  clear h1
  by_cases h2 : 20 < s.size
  · have h2i : (20 : Int) < (s.size : Int) := by omega
    have hn : Hid (nameB s = false) := Lib.hid (nameB_no fun h => by have := h.few; omega)
    go_enter Try.func24, Try.ntmps24
    go_wp2_with fail
    go_ret
    exact ⟨ret_bool hn.out.symm, rfl⟩
  have h2' : s.size ≤ 20 := by omega
  have h2i : (s.size : Int) ≤ 20 := by omega
  clear h2
  go_enter Try.func24, Try.ntmps24
  go_wp2_with fail
  go_loop [3] (fun i => ∃ k : Nat, k ≤ s.size ∧ i = .int .i64 k ∧ Hid (∀ j, j < k → nmb (bt s j) = true ∧ (j = 0 → low (bt s 0) = true))) (fun i => s.size - (intOf i).toNat)
  case atStart => exact ⟨0, by omega, rfl, Lib.hid (by omega)⟩
  case round =>
    obtain ⟨k, hk, rfl, hall⟩ := hrel
    by_cases hlt : k < s.size
    · have ⟨hc0, hc1⟩ := byte_range s k hlt
      rcases (show (97 ≤ (s[k].toNat : Int) ∧ (s[k].toNat : Int) ≤ 122) ∨ (s[k].toNat : Int) < 97 ∨ (97 ≤ (s[k].toNat : Int) ∧ 122 < (s[k].toNat : Int)) from by omega) with ⟨ha, hb⟩ | hlo | ⟨ha, hhi⟩
      · have hL := Lib.hid (low_yes ha hb)
        go_wp2_with fail
        go_round
        case rel => exact ⟨k + 1, by omega, by go_num, each_next hlt hall (nmb_low hL.out) (fun _ => hL.out)⟩
        case measure => simp [intOf]; omega
      · by_cases hk0 : k = 0
        · subst hk0
          go_wp2_with fail
          go_ret
          exact ⟨ret_bool (nameB_no fun h => by have := h.first; rw [← bt_at hlt, low_no (.inl hlo)] at this; cases this).symm, rfl⟩
        · have hk1 : 0 < k := by omega
          have hk2 : ((k : Int) == 0) = false := by simp; omega
          rcases (show (s[k].toNat : Int) < 48 ∨ (48 ≤ (s[k].toNat : Int) ∧ (s[k].toNat : Int) ≤ 57) ∨ (48 ≤ (s[k].toNat : Int) ∧ 57 < (s[k].toNat : Int)) from by omega) with hd | ⟨hd, he⟩ | ⟨hd, he⟩
          · have hne : ((s[k].toNat : Int) != 95) = true := by simp; omega
            go_wp2_with fail
            go_ret
            exact ⟨ret_bool (nameB_no fun h => by have := h.each k hlt; rw [← bt_at hlt, nmb_no (.inl hlo) (.inl hd) (by omega)] at this; cases this).symm, rfl⟩
          · go_wp2_with fail
            go_round
            case rel => exact ⟨k + 1, by omega, by go_num, each_next hlt hall (nmb_dig hd he) (fun e => absurd e hk0)⟩
            case measure => simp [intOf]; omega
          · by_cases hq : (s[k].toNat : Int) = 95
            · have hne : ((s[k].toNat : Int) != 95) = false := by simp; omega
              have HQ := Lib.hid hq
              clear hq
              go_wp2_with fail
              go_round
              case rel => exact ⟨k + 1, by omega, by go_num, each_next hlt hall (nmb_bar HQ.out) (fun e => absurd e hk0)⟩
              case measure => simp [intOf]; omega
            · have hne : ((s[k].toNat : Int) != 95) = true := by simp; omega
              have hef : decide ((s[k].toNat : Int) ≤ 57) = false := by simp; omega
              go_wp2_with fail
              go_ret
              exact ⟨ret_bool (nameB_no fun h => by have := h.each k hlt; rw [← bt_at hlt, nmb_no (.inl hlo) (.inr he) hq] at this; cases this).symm, rfl⟩
      · have hhf : decide ((s[k].toNat : Int) ≤ 122) = false := by simp; omega
        by_cases hk0 : k = 0
        · subst hk0
          go_wp2_with fail
          go_ret
          exact ⟨ret_bool (nameB_no fun h => by have := h.first; rw [← bt_at hlt, low_no (.inr hhi)] at this; cases this).symm, rfl⟩
        · have hk1 : 0 < k := by omega
          have hk2 : ((k : Int) == 0) = false := by simp; omega
          have hd : (48 : Int) ≤ (s[k].toNat : Int) := by omega
          have he : (57 : Int) < (s[k].toNat : Int) := by omega
          have hef : decide ((s[k].toNat : Int) ≤ 57) = false := by simp; omega
          have hne : ((s[k].toNat : Int) != 95) = true := by simp; omega
          go_wp2_with fail
          go_ret
          exact ⟨ret_bool (nameB_no fun h => by have := h.each k hlt; rw [← bt_at hlt, nmb_no (.inr hhi) (.inr he) (by omega)] at this; cases this).symm, rfl⟩
    · go_wp2_with fail
      go_ret
      have h0 := hall.out 0 (by omega)
      exact ⟨ret_bool (nameB_yes ⟨by omega, h2', h0.2 rfl, fun j hj => (hall.out j (by omega)).1⟩).symm, rfl⟩
end Go.Proofs.Ytpfgmdlkacildaa.Names
