/-
  Contracts: spec.l08Plain (of at most 120 bytes), impl.textRight answer the plain function plainB of their bytes, and leave the world as it is. Conditions: a text has at most maxLen bytes.
-/
import Derived.Test.YtlncdkeooacebaaDoorRows
import Derived.Test.YtlncdkeooacebaaDoorWordW
namespace Go.Proofs.YtlncdkeooacebaaDoor.Words
open Go.RowKit
set_option linter.unusedVariables false

/-- A byte that may be told. -/
def okB (b : Int) : Prop := 32 ≤ b ∧ b ≤ 126 ∧ b ≠ 34 ∧ b ≠ 92
structure PlainOk (s : ByteArray) : Prop where
  few : s.size ≤ 120
  each : ∀ k, k < s.size → okB (bt s k)
noncomputable def plainB (s : ByteArray) : Bool := @decide (PlainOk s) (Classical.propDecidable _)
theorem plainB_yes {s : ByteArray} (h : PlainOk s) : plainB s = true := by simp [plainB, h]
theorem plainB_no {s : ByteArray} (h : ¬ PlainOk s) : plainB s = false := by simp [plainB, h]
theorem plainB_size {s : ByteArray} (h : plainB s = true) : s.size ≤ 120 := by
  by_cases c : PlainOk s
  · exact c.few
  · rw [plainB_no c] at h; cases h

theorem specPlain (s : ByteArray) (hs : s.size ≤ maxLen) (w : World) :
    Calls Tryd.prog 112 #[.string s, .int .i64 120] w fun e w' => e = .returned (.bool (plainB s)) ∧ w = w' := by
  unfold maxLen at hs
  go_enter Tryd.func112, Tryd.ntmps112
  go_wp2_with fail
  go_loopw [5] (fun i wr => ∃ k : Nat, k ≤ s.size ∧ k ≤ 121 ∧ i = .int .i64 k ∧ Hid (∀ j, j < k → okB (bt s j)) ∧ w = wr) (fun i _ => s.size - (intOf i).toNat)
  case atStart => exact ⟨0, by omega, by omega, rfl, Lib.hid (by omega), rfl⟩
  case round =>
    obtain ⟨k, hk, hk2, rfl, hall, rfl⟩ := hrel
    by_cases hlt : k < s.size
    · have hli : (k : Int) < (s.size : Int) := by omega
      by_cases hle : k ≤ 120
      · have hlei : (k : Int) ≤ 120 := by omega
        have hb := byte_range s k hlt
        by_cases hx : okB (s[k].toNat : Int)
        · have hnext : Hid (∀ j, j < k + 1 → okB (bt s j)) := Lib.hid fun j hj => by
            by_cases e : j = k
            · subst e; rw [← bt_at hlt]; exact hx
            · exact hall.out j (by omega)
          obtain ⟨hx1, hx2, hx3, hx4⟩ := hx
          have hx3' : ((s[k].toNat : Int) == 34) = false := by simpa using hx3
          have hx4' : ((s[k].toNat : Int) == 92) = false := by simpa using hx4
          clear hx3 hx4
          go_wp2_with fail
          go_roundw
          case rel => exact ⟨k + 1, by omega, by omega, by go_num, hnext, by trivial⟩
          case measure => simp [intOf]; omega
        · have hf : Hid (plainB s = false) := Lib.hid (plainB_no fun h => hx (by have := h.each k hlt; rw [bt_at hlt]; exact this))
          by_cases hx1 : (s[k].toNat : Int) < 32
          · clear hx
            go_wp2_with fail
            go_ret
            exact ⟨ret_bool hf.out.symm, rfl⟩
          have hx1' : 32 ≤ (s[k].toNat : Int) := by omega
          by_cases hx2 : 126 < (s[k].toNat : Int)
          · clear hx hx1
            go_wp2_with fail
            go_ret
            exact ⟨ret_bool hf.out.symm, rfl⟩
          have hx2' : (s[k].toNat : Int) ≤ 126 := by omega
          by_cases hx3 : ((s[k].toNat : Int) == 34) = true
          · clear hx hx1 hx2
            go_wp2_with fail
            go_ret
            exact ⟨ret_bool hf.out.symm, rfl⟩
          have hx3' : ((s[k].toNat : Int) == 34) = false := by simpa using hx3
          have hx4' : ((s[k].toNat : Int) == 92) = true := by
            by_cases hx4 : ((s[k].toNat : Int) == 92) = true
            · exact hx4
            · exact absurd ⟨hx1', hx2', by simpa using hx3, by simpa using hx4⟩ hx
          clear hx hx1 hx2 hx3
          go_wp2_with fail
          go_ret
          exact ⟨ret_bool hf.out.symm, rfl⟩
      · have hgt : (120 : Int) < (k : Int) := by omega
        have hbig : (120 : Int) < (s.size : Int) := by omega
        have hf : Hid (plainB s = false) := Lib.hid (plainB_no fun h => by have := h.few; omega)
        clear hle hlt
        go_wp2_with fail
        go_ret
        exact ⟨ret_bool (by rw [hf.out]; exact decide_eq_false (by omega)), rfl⟩
    · obtain rfl : k = s.size := by omega
      clear hlt
      by_cases h2 : 120 < s.size
      · have hf : Hid (plainB s = false) := Lib.hid (plainB_no fun h => by have := h.few; omega)
        have h2i : (120 : Int) < (s.size : Int) := by omega
        clear h2
        go_wp2_with fail
        go_ret
        exact ⟨ret_bool (by rw [hf.out]; exact decide_eq_false (by omega)), rfl⟩
      have h2i : (s.size : Int) ≤ 120 := by omega
      clear h2
      have hf : Hid (plainB s = true) := Lib.hid (plainB_yes ⟨by omega, hall.out⟩)
      go_wp2_with fail
      go_ret
      exact ⟨ret_bool (by rw [hf.out]), rfl⟩

theorem implPlain (s : ByteArray) (hs : s.size ≤ maxLen) (w : World) :
    Calls Tryd.prog 123 #[.string s] w fun e w' => e = .returned (.bool (plainB s)) ∧ w = w' := by
  unfold maxLen at hs
  by_cases h2 : 120 < s.size
  · have hf : Hid (plainB s = false) := Lib.hid (plainB_no fun h => by have := h.few; omega)
    have h2i : (120 : Int) < (s.size : Int) := by omega
    clear h2
    go_enter Tryd.func123, Tryd.ntmps123
    go_wp2_with fail
    go_ret
    exact ⟨ret_bool hf.out.symm, rfl⟩
  have h2i : (s.size : Int) ≤ 120 := by omega
  have hfew := Lib.hid (show s.size ≤ 120 by omega)
  clear h2
  go_enter Tryd.func123, Tryd.ntmps123
  go_wp2_with fail
  go_loopw [9] (fun i wr => ∃ k : Nat, k ≤ s.size ∧ i = .int .i64 k ∧ Hid (∀ j, j < k → okB (bt s j)) ∧ w = wr) (fun i _ => s.size - (intOf i).toNat)
  case atStart => exact ⟨0, by omega, rfl, Lib.hid (by omega), rfl⟩
  case round =>
    obtain ⟨k, hk, rfl, hall, rfl⟩ := hrel
    by_cases hlt : k < s.size
    · have hli : (k : Int) < (s.size : Int) := by omega
      have hb := byte_range s k hlt
      by_cases hx : okB (s[k].toNat : Int)
      · have hnext : Hid (∀ j, j < k + 1 → okB (bt s j)) := Lib.hid fun j hj => by
          by_cases e : j = k
          · subst e; rw [← bt_at hlt]; exact hx
          · exact hall.out j (by omega)
        obtain ⟨hx1, hx2, hx3, hx4⟩ := hx
        have hx3' : ((s[k].toNat : Int) == 34) = false := by simpa using hx3
        have hx4' : ((s[k].toNat : Int) == 92) = false := by simpa using hx4
        clear hx3 hx4
        go_wp2_with fail
        go_roundw
        case rel => exact ⟨k + 1, by omega, by go_num, hnext, by trivial⟩
        case measure => simp [intOf]; omega
      · have hf : Hid (plainB s = false) := Lib.hid (plainB_no fun h => hx (by have := h.each k hlt; rw [bt_at hlt]; exact this))
        by_cases hx1 : (s[k].toNat : Int) < 32
        · clear hx
          go_wp2_with fail
          go_ret
          exact ⟨ret_bool hf.out.symm, rfl⟩
        have hx1' : 32 ≤ (s[k].toNat : Int) := by omega
        by_cases hx2 : 126 < (s[k].toNat : Int)
        · clear hx hx1
          go_wp2_with fail
          go_ret
          exact ⟨ret_bool hf.out.symm, rfl⟩
        have hx2' : (s[k].toNat : Int) ≤ 126 := by omega
        by_cases hx3 : ((s[k].toNat : Int) == 34) = true
        · clear hx hx1 hx2
          go_wp2_with fail
          go_ret
          exact ⟨ret_bool hf.out.symm, rfl⟩
        have hx3' : ((s[k].toNat : Int) == 34) = false := by simpa using hx3
        have hx4' : ((s[k].toNat : Int) == 92) = true := by
          by_cases hx4 : ((s[k].toNat : Int) == 92) = true
          · exact hx4
          · exact absurd ⟨hx1', hx2', by simpa using hx3, by simpa using hx4⟩ hx
        clear hx hx1 hx2 hx3
        go_wp2_with fail
        go_ret
        exact ⟨ret_bool hf.out.symm, rfl⟩
    · obtain rfl : k = s.size := by omega
      clear hlt
      have hf : Hid (plainB s = true) := Lib.hid (plainB_yes ⟨hfew.out, hall.out⟩)
      go_wp2_with fail
      go_ret
      exact ⟨ret_bool (by rw [hf.out]), rfl⟩
end Go.Proofs.YtlncdkeooacebaaDoor.Words
