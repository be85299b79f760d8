/-
  Contracts: spec.l03Num reads a number; nothing is changed. Conditions: a text within 2^47.
-/
import Derived.Test.YtnkknfnndoegpaaGreatDoorRows
import Derived.Test.YtnkknfnndoegpaaGreatDoorParse
namespace Go.Proofs.YtnkknfnndoegpaaGreatDoor.Selss
open Go.RowKit Words Decs Splits
set_option linter.unusedVariables false

/-- The number that digits are. -/
def valP (t : Tok) : Int := t.foldl (fun n c => 10 * n + ((c.toNat : Int) - 48)) 0
theorem valP_snoc (t : Tok) (c : UInt8) : valP (t ++ [c]) = 10 * valP t + ((c.toNat : Int) - 48) := by unfold valP; rw [List.foldl_append]; rfl
def digP (c : UInt8) : Bool := decide (48 ≤ c.toNat) && decide (c.toNat ≤ 57)
theorem valP_range : ∀ (k : Nat) (t : Tok), t.length = k → t.all digP = true → 0 ≤ valP t ∧ valP t < 10 ^ k
  | 0, t, h, _ => by
    obtain rfl := List.eq_nil_of_length_eq_zero h
    exact ⟨Int.le_refl _, by decide⟩
  | k + 1, t, h, ha => by
    rcases List.eq_nil_or_concat t with rfl | ⟨q, c, rfl⟩
    · simp at h
    · rw [List.concat_eq_append] at h ha ⊢
      rw [List.length_append] at h
      rw [List.all_append] at ha
      simp only [Bool.and_eq_true, List.all_cons, List.all_nil, digP, decide_eq_true_eq] at ha
      have ih := valP_range k q (by simpa using h) ha.1
      rw [valP_snoc, Int.pow_succ]
      omega
theorem numP_of {t : Tok} (h1 : ¬ (t.length < 1 ∨ 9 < t.length ∨ (1 < t.length ∧ t.headD 0 = 48))) (h2 : t.all digP = true) : numP t = valP t := by
  unfold numP
  rw [if_neg h1]
  have : (t.all fun c => decide (48 ≤ c.toNat) && decide (c.toNat ≤ 57)) = true := h2
  rw [if_pos this]; rfl
theorem numP_no {t : Tok} (h : t.length < 1 ∨ 9 < t.length ∨ (1 < t.length ∧ t.headD 0 = 48)) : numP t = -1 := by unfold numP; rw [if_pos h]
theorem numP_bad {t : Tok} {c : UInt8} (hc : c ∈ t) (hd : digP c = false) : numP t = -1 := by
  unfold numP
  split
  · rfl
  · rw [if_neg]
    intro h
    have := List.all_eq_true.1 h c hc
    unfold digP at hd
    rw [hd] at this; cases this
theorem bl_len (s : ByteArray) : (bl s).length = s.size := by unfold bl; rw [Array.length_toList]; rfl
theorem bl_take_succ {s : ByteArray} {k : Nat} (h : k < s.size) : (bl s).take (k + 1) = (bl s).take k ++ [s[k]] := by
  have hl : k < (bl s).length := by rw [bl_len]; exact h
  rw [List.take_succ_eq_append_getElem hl]; rfl
theorem bl_head {s : ByteArray} (h : 0 < s.size) : (bl s).headD 0 = s[0] := by
  have hl : 0 < (bl s).length := by rw [bl_len]; exact h
  show (bl s).headD 0 = (bl s)[0]
  generalize bl s = q at hl
  cases q with
  | nil => simp at hl
  | cons c r => rfl
theorem pow9 : ∀ k : Nat, k ≤ 9 → (10 : Int) ^ k ≤ 1000000000 := by
  intro k hk
  have : ∀ k : Fin 10, (10 : Int) ^ (k : Nat) ≤ 1000000000 := by decide
  exact this ⟨k, by omega⟩

set_option maxHeartbeats 1000000 in
theorem specNum (s : ByteArray) (hs : s.size ≤ 140737488351232) (w : World) :
    Calls Tryz.prog 33 #[.string s] w fun e w' => e = .returned (.int .i64 (numP (bl s))) ∧ w = w' := by
  have ret_i : ∀ {a b : Int}, a = b → Ending.returned (.int .i64 a) = .returned (.int .i64 b) := fun h => by rw [h]
  by_cases h1 : s.size < 1
  · have hf := Lib.hid (numP_no (t := bl s) (.inl (by rw [bl_len]; exact h1)))
    have h1i : (s.size : Int) < 1 := by omega
    go_enter Tryz.func33, Tryz.ntmps33
    go_wp2_with fail
    go_ret
    exact ⟨ret_i hf.out.symm, rfl⟩
  have h1i : (1 : Int) ≤ (s.size : Int) := by omega
  by_cases h2 : 9 < s.size
  · have hf := Lib.hid (numP_no (t := bl s) (.inr (.inl (by rw [bl_len]; exact h2))))
    have h2i : (9 : Int) < (s.size : Int) := by omega
    clear h1
    go_enter Tryz.func33, Tryz.ntmps33
    go_wp2_with fail
    go_ret
    exact ⟨ret_i hf.out.symm, rfl⟩
  have h2i : (s.size : Int) ≤ 9 := by omega
  have hpos : 0 < s.size := by omega
  have hb0 : (0 : Int) ≤ (s[0].toNat : Int) ∧ (s[0].toNat : Int) ≤ 255 := by have := s[0].toNat_lt; omega
  by_cases h3 : 1 < s.size ∧ s[0] = 48
  · have hf := Lib.hid (numP_no (t := bl s) (.inr (.inr ⟨by rw [bl_len]; exact h3.1, by rw [bl_head hpos]; exact h3.2⟩)))
    have h3i : (1 : Int) < (s.size : Int) := by omega
    have h3j : (s[0].toNat : Int) = 48 := by rw [h3.2]; rfl
    clear h1 h2 h3
    go_enter Tryz.func33, Tryz.ntmps33
    go_wp2_with fail
    go_ret
    exact ⟨ret_i hf.out.symm, rfl⟩
  have hno : Hid (¬ ((bl s).length < 1 ∨ 9 < (bl s).length ∨ (1 < (bl s).length ∧ (bl s).headD 0 = 48))) := Lib.hid (by
    rw [bl_len, bl_head hpos]; rintro (h | h | h)
    · exact h1 h
    · exact h2 h
    · exact h3 h)
  have hcase : (s.size : Int) ≤ 1 ∨ ((1 : Int) < (s.size : Int) ∧ (s[0].toNat : Int) ≠ 48) := by
    by_cases h : 1 < s.size
    · right
      refine ⟨by omega, fun e => h3 ⟨h, UInt8.toNat_inj.1 (by show s[0].toNat = 48; omega)⟩⟩
    · left; omega
  clear h1 h2 h3
  rcases hcase with hc | ⟨hc, hc2⟩
  · go_enter Tryz.func33, Tryz.ntmps33
    go_wp2_with fail
    go_loopw [3, 4] (fun n i wr => ∃ k : Nat, k ≤ s.size ∧ n = .int .i64 (valP ((bl s).take k)) ∧ i = .int .i64 k ∧ Hid (((bl s).take k).all digP = true) ∧ w = wr) (fun _ i _ => s.size - (intOf i).toNat)
    case atStart => exact ⟨0, by omega, rfl, rfl, Lib.hid rfl, rfl⟩
    case round =>
      obtain ⟨k, hk, rfl, rfl, hall, rfl⟩ := hrel
      by_cases hlt : k < s.size
      · have hli : (k : Int) < (s.size : Int) := by omega
        have hb := s[k].toNat_lt
        by_cases hd : digP s[k] = true
        · have hd2 : 48 ≤ s[k].toNat ∧ s[k].toNat ≤ 57 := by simpa [digP] using hd
          have hd3 : (48 : Int) ≤ (s[k].toNat : Int) ∧ (s[k].toNat : Int) ≤ 57 := by omega
          have hr := valP_range k ((bl s).take k) (by rw [List.length_take, bl_len]; omega) hall.out
          have hp := pow9 k (by omega)
          have hnext : Hid (10 * valP ((bl s).take k) + ((s[k].toNat : Int) - 48) = valP ((bl s).take (k + 1))) := Lib.hid (by rw [bl_take_succ hlt, valP_snoc])
          have hall2 : Hid (((bl s).take (k + 1)).all digP = true) := Lib.hid (by rw [bl_take_succ hlt, List.all_append, hall.out]; simp [hd])
          have hv0 := hr.1
          have hv1 : valP ((bl s).take k) ≤ 1000000000 := by omega
          clear hr hp hall hd hd2
          generalize valP ((bl s).take k) = q at *
          go_wp2_with fail
          go_roundw
          case rel => exact ⟨k + 1, by omega, by rw [← hnext.out], by go_num, hall2, by trivial⟩
          case measure => simp [intOf]; omega
        · have hf := Lib.hid (numP_bad (t := bl s) (c := s[k]) (by
            have hl : k < (bl s).length := by rw [bl_len]; exact hlt
            exact List.getElem_mem hl) (by simpa using hd))
          have hd2 : s[k].toNat < 48 ∨ 57 < s[k].toNat := by
            simp only [digP, Bool.and_eq_true, decide_eq_true_eq] at hd; omega
          rcases hd2 with hd3 | hd3
          · have hd4 : (s[k].toNat : Int) < 48 := by omega
            clear hall
            go_wp2_with fail
            go_ret
            exact ⟨ret_i hf.out.symm, rfl⟩
          · have hd4 : (57 : Int) < (s[k].toNat : Int) := by omega
            have hd5 : (48 : Int) ≤ (s[k].toNat : Int) := by omega
            clear hall
            go_wp2_with fail
            go_ret
            exact ⟨ret_i hf.out.symm, rfl⟩
      · obtain rfl : k = s.size := by omega
        have hf : Hid (valP ((bl s).take s.size) = numP (bl s)) := Lib.hid (by
          have e : (bl s).take s.size = bl s := by rw [← bl_len, List.take_length]
          rw [e, numP_of hno.out (by have := hall.out; rw [e] at this; exact this)])
        clear hlt hall
        go_wp2_with fail
        go_ret
        exact ⟨ret_i hf.out, rfl⟩
  · have hc3 : ((s[0].toNat : Int) == 48) = false := by rw [beq_eq_false_iff_ne]; exact hc2
    go_enter Tryz.func33, Tryz.ntmps33
    go_wp2_with fail
    go_loopw [3, 4] (fun n i wr => ∃ k : Nat, k ≤ s.size ∧ n = .int .i64 (valP ((bl s).take k)) ∧ i = .int .i64 k ∧ Hid (((bl s).take k).all digP = true) ∧ w = wr) (fun _ i _ => s.size - (intOf i).toNat)
    case atStart => exact ⟨0, by omega, rfl, rfl, Lib.hid rfl, rfl⟩
    case round =>
      obtain ⟨k, hk, rfl, rfl, hall, rfl⟩ := hrel
      by_cases hlt : k < s.size
      · have hli : (k : Int) < (s.size : Int) := by omega
        have hb := s[k].toNat_lt
        by_cases hd : digP s[k] = true
        · have hd2 : 48 ≤ s[k].toNat ∧ s[k].toNat ≤ 57 := by simpa [digP] using hd
          have hd3 : (48 : Int) ≤ (s[k].toNat : Int) ∧ (s[k].toNat : Int) ≤ 57 := by omega
          have hr := valP_range k ((bl s).take k) (by rw [List.length_take, bl_len]; omega) hall.out
          have hp := pow9 k (by omega)
          have hnext : Hid (10 * valP ((bl s).take k) + ((s[k].toNat : Int) - 48) = valP ((bl s).take (k + 1))) := Lib.hid (by rw [bl_take_succ hlt, valP_snoc])
          have hall2 : Hid (((bl s).take (k + 1)).all digP = true) := Lib.hid (by rw [bl_take_succ hlt, List.all_append, hall.out]; simp [hd])
          have hv0 := hr.1
          have hv1 : valP ((bl s).take k) ≤ 1000000000 := by omega
          clear hr hp hall hd hd2
          generalize valP ((bl s).take k) = q at *
          go_wp2_with fail
          go_roundw
          case rel => exact ⟨k + 1, by omega, by rw [← hnext.out], by go_num, hall2, by trivial⟩
          case measure => simp [intOf]; omega
        · have hf := Lib.hid (numP_bad (t := bl s) (c := s[k]) (by
            have hl : k < (bl s).length := by rw [bl_len]; exact hlt
            exact List.getElem_mem hl) (by simpa using hd))
          have hd2 : s[k].toNat < 48 ∨ 57 < s[k].toNat := by
            simp only [digP, Bool.and_eq_true, decide_eq_true_eq] at hd; omega
          rcases hd2 with hd3 | hd3
          · have hd4 : (s[k].toNat : Int) < 48 := by omega
            clear hall
            go_wp2_with fail
            go_ret
            exact ⟨ret_i hf.out.symm, rfl⟩
          · have hd4 : (57 : Int) < (s[k].toNat : Int) := by omega
            have hd5 : (48 : Int) ≤ (s[k].toNat : Int) := by omega
            clear hall
            go_wp2_with fail
            go_ret
            exact ⟨ret_i hf.out.symm, rfl⟩
      · obtain rfl : k = s.size := by omega
        have hf : Hid (valP ((bl s).take s.size) = numP (bl s)) := Lib.hid (by
          have e : (bl s).take s.size = bl s := by rw [← bl_len, List.take_length]
          rw [e, numP_of hno.out (by have := hall.out; rw [e] at this; exact this)])
        clear hlt hall
        go_wp2_with fail
        go_ret
        exact ⟨ret_i hf.out, rfl⟩
end Go.Proofs.YtnkknfnndoegpaaGreatDoor.Selss
