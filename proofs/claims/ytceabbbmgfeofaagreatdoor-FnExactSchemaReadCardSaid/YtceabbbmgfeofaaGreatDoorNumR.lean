/-
  A number read off digits, plainly; and a contract: spec.l03Num; nothing is changed. Conditions: a text within 2^47.
-/
import Derived.Test.YtceabbbmgfeofaaGreatDoorRows
import Derived.Test.YtceabbbmgfeofaaGreatDoorSchT
import Derived.Test.YtceabbbmgfeofaaGreatDoorSplit
namespace Go.Proofs.YtceabbbmgfeofaaGreatDoor.Rw
open Go.RowKit Words Decs Splits
set_option linter.unusedVariables false
set_option maxRecDepth 100000

def ubR (t : (List UInt8)) : ByteArray := ⟨t.toArray⟩
def bL (b : ByteArray) : (List UInt8) := b.data.toList
theorem bL_append (a b : ByteArray) : bL (a ++ b) = bL a ++ bL b := by simp [bL]
theorem bL_empty : bL ByteArray.empty = [] := rfl
theorem bL_inj {a b : ByteArray} (h : bL a = bL b) : a = b := ByteArray.ext (Array.toList_inj.1 h)
/-- A number of at most nine digits; -1: none. -/
def numR (t : (List UInt8)) : Int :=
  if t.length < 1 ∨ 9 < t.length ∨ (1 < t.length ∧ t.headD 0 = 48) then -1
  else if t.all (fun c => decide (48 ≤ c.toNat) && decide (c.toNat ≤ 57)) then t.foldl (fun n c => 10 * n + ((c.toNat : Int) - 48)) 0 else -1
theorem decLsm {n : Nat} (h : n ≤ 100) : ∀ x ∈ decL n, 48 ≤ x.toNat ∧ x.toNat ≤ 57 := by
  intro x hx
  have one : ∀ m : Nat, m < 10 → 48 ≤ (UInt8.ofNat (48 + m)).toNat ∧ (UInt8.ofNat (48 + m)).toNat ≤ 57 := fun m hm => by
    simp; omega
  by_cases h1 : n < 10
  · rw [decL_small h1, List.mem_singleton] at hx; subst hx; exact one n h1
  · rw [decL_big (by omega)] at hx
    by_cases h2 : n / 10 < 10
    · rw [decL_small h2] at hx
      simp only [List.mem_append, List.mem_singleton] at hx
      rcases hx with rfl | rfl
      · exact one _ h2
      · exact one _ (Nat.mod_lt _ (by omega))
    · have hn : n = 100 := by omega
      subst hn
      rw [decL_big (by omega), decL_small (by omega)] at hx
      simp at hx
      rcases hx with rfl | rfl | rfl <;> decide
theorem bL_dec {f : Int} (h : 0 ≤ f) : bL (decB f) = decL f.toNat := by
  unfold decB bL
  rw [if_neg (by omega)]
  have : f.natAbs = f.toNat := by omega
  simp [this]
theorem num_dec {f : Int} (h0 : 0 ≤ f) (h1 : f ≤ 100) : numR (bL (decB f)) = f := by
  rw [bL_dec h0]
  obtain ⟨n, rfl⟩ := Int.eq_ofNat_of_zero_le h0
  rw [Int.toNat_natCast]
  have hn : n ≤ 100 := by omega
  have val : ∀ m : Nat, m < 10 → ((UInt8.ofNat (48 + m)).toNat : Int) - 48 = m := fun m hm => by simp; omega
  have one : ∀ m : Nat, m < 10 → (decide (48 ≤ (UInt8.ofNat (48 + m)).toNat) && decide ((UInt8.ofNat (48 + m)).toNat ≤ 57)) = true := fun m hm => by simp; omega
  by_cases h1 : n < 10
  · rw [decL_small h1]
    unfold numR
    rw [if_neg (by rintro (h | h | ⟨h, _⟩) <;> simp only [List.length_cons, List.length_nil] at h <;> omega), if_pos (by simp only [List.all_cons, List.all_nil, one n h1]; rfl)]
    simp only [List.foldl_cons, List.foldl_nil, val n h1]; omega
  · by_cases h2 : n / 10 < 10
    · rw [decL_big (by omega), decL_small h2]
      have hm : n % 10 < 10 := Nat.mod_lt _ (by omega)
      have hne : UInt8.ofNat (48 + n / 10) ≠ 48 := fun e => by
        have := congrArg UInt8.toNat e; simp at this; omega
      unfold numR
      rw [if_neg (by rintro (h | h | ⟨_, h⟩); · simp only [List.singleton_append, List.length_cons, List.length_nil] at h; omega
                     · simp only [List.singleton_append, List.length_cons, List.length_nil] at h; omega
                     · exact hne h), if_pos (by simp only [List.singleton_append, List.all_cons, List.all_nil, one _ h2, one _ hm]; rfl)]
      simp only [List.singleton_append, List.foldl_cons, List.foldl_nil, val _ h2, val _ hm]; omega
    · have hn : n = 100 := by omega
      subst hn
      rw [decL_big (by omega), decL_big (by omega), decL_small (by omega)]
      decide
/-- The number that digits are. -/
def valR (t : (List UInt8)) : Int := t.foldl (fun n c => 10 * n + ((c.toNat : Int) - 48)) 0
theorem valR_snoc (t : (List UInt8)) (c : UInt8) : valR (t ++ [c]) = 10 * valR t + ((c.toNat : Int) - 48) := by unfold valR; rw [List.foldl_append]; rfl
def digR (c : UInt8) : Bool := decide (48 ≤ c.toNat) && decide (c.toNat ≤ 57)
theorem valR_range : ∀ (k : Nat) (t : (List UInt8)), t.length = k → t.all digR = true → 0 ≤ valR t ∧ valR t < 10 ^ k
  | 0, t, h, _ => by
    obtain rfl := List.eq_nil_of_length_eq_zero h
    exact ⟨Int.le_refl _, by decide⟩
  | k + 1, t, h, ha => by
    rcases List.eq_nil_or_concat t with rfl | ⟨q, c, rfl⟩
    · simp at h
    · rw [List.concat_eq_append] at h ha ⊢
      rw [List.length_append] at h
      rw [List.all_append] at ha
      simp only [Bool.and_eq_true, List.all_cons, List.all_nil, digR, decide_eq_true_eq] at ha
      have ih := valR_range k q (by simpa using h) ha.1
      rw [valR_snoc, Int.pow_succ]
      omega
theorem numR_of {t : (List UInt8)} (h1 : ¬ (t.length < 1 ∨ 9 < t.length ∨ (1 < t.length ∧ t.headD 0 = 48))) (h2 : t.all digR = true) : numR t = valR t := by
  unfold numR
  rw [if_neg h1]
  have : (t.all fun c => decide (48 ≤ c.toNat) && decide (c.toNat ≤ 57)) = true := h2
  rw [if_pos this]; rfl
theorem numR_no {t : (List UInt8)} (h : t.length < 1 ∨ 9 < t.length ∨ (1 < t.length ∧ t.headD 0 = 48)) : numR t = -1 := by unfold numR; rw [if_pos h]
theorem numR_bad {t : (List UInt8)} {c : UInt8} (hc : c ∈ t) (hd : digR c = false) : numR t = -1 := by
  unfold numR
  split
  · rfl
  · rw [if_neg]
    intro h
    have := List.all_eq_true.1 h c hc
    unfold digR at hd
    rw [hd] at this; cases this
theorem bL_len (s : ByteArray) : (bL s).length = s.size := by unfold bL; rw [Array.length_toList]; rfl
theorem bL_take_succ {s : ByteArray} {k : Nat} (h : k < s.size) : (bL s).take (k + 1) = (bL s).take k ++ [s[k]] := by
  have hl : k < (bL s).length := by rw [bL_len]; exact h
  rw [List.take_succ_eq_append_getElem hl]; rfl
theorem bL_head {s : ByteArray} (h : 0 < s.size) : (bL s).headD 0 = s[0] := by
  have hl : 0 < (bL s).length := by rw [bL_len]; exact h
  show (bL s).headD 0 = (bL s)[0]
  generalize bL s = q at hl
  cases q with
  | nil => simp at hl
  | cons c r => rfl
theorem pow9R : ∀ k : Nat, k ≤ 9 → (10 : Int) ^ k ≤ 1000000000 := by
  intro k hk
  have : ∀ k : Fin 10, (10 : Int) ^ (k : Nat) ≤ 1000000000 := by decide
  exact this ⟨k, by omega⟩

set_option maxHeartbeats 1000000 in
theorem specNumR (s : ByteArray) (hs : s.size ≤ 140737488351232) (w : World) :
    Calls Tryz.prog 59 #[.string s] w fun e w' => e = .returned (.int .i64 (numR (bL s))) ∧ w = w' := by
  have ret_i : ∀ {a b : Int}, a = b → Ending.returned (.int .i64 a) = .returned (.int .i64 b) := fun h => by rw [h]
  by_cases h1 : s.size < 1
  · have hf := Lib.hid (numR_no (t := bL s) (.inl (by rw [bL_len]; exact h1)))
    have h1i : (s.size : Int) < 1 := by omega
    go_enter Tryz.func59, Tryz.ntmps59
    go_wp2_with fail
    go_ret
    exact ⟨ret_i hf.out.symm, rfl⟩
  have h1i : (1 : Int) ≤ (s.size : Int) := by omega
  by_cases h2 : 9 < s.size
  · have hf := Lib.hid (numR_no (t := bL s) (.inr (.inl (by rw [bL_len]; exact h2))))
    have h2i : (9 : Int) < (s.size : Int) := by omega
    clear h1
    go_enter Tryz.func59, Tryz.ntmps59
    go_wp2_with fail
    go_ret
    exact ⟨ret_i hf.out.symm, rfl⟩
  have h2i : (s.size : Int) ≤ 9 := by omega
  have hpos : 0 < s.size := by omega
  have hb0 : (0 : Int) ≤ (s[0].toNat : Int) ∧ (s[0].toNat : Int) ≤ 255 := by have := s[0].toNat_lt; omega
  by_cases h3 : 1 < s.size ∧ s[0] = 48
  · have hf := Lib.hid (numR_no (t := bL s) (.inr (.inr ⟨by rw [bL_len]; exact h3.1, by rw [bL_head hpos]; exact h3.2⟩)))
    have h3i : (1 : Int) < (s.size : Int) := by omega
    have h3j : (s[0].toNat : Int) = 48 := by rw [h3.2]; rfl
    clear h1 h2 h3
    go_enter Tryz.func59, Tryz.ntmps59
    go_wp2_with fail
    go_ret
    exact ⟨ret_i hf.out.symm, rfl⟩
  have hno : Hid (¬ ((bL s).length < 1 ∨ 9 < (bL s).length ∨ (1 < (bL s).length ∧ (bL s).headD 0 = 48))) := Lib.hid (by
    rw [bL_len, bL_head hpos]; rintro (h | h | h)
    · exact h1 h
    · exact h2 h
    · exact h3 h)
  have hcase : (s.size : Int) ≤ 1 ∨ ((1 : Int) < (s.size : Int) ∧ (s[0].toNat : Int) ≠ 48) := by
    by_cases h : 1 < s.size
    · right
      refine ⟨by omega, fun e => h3 ⟨h, UInt8.toNat_inj.1 (by show s[0].toNat = 48; omega)⟩⟩
    · left; omega
  clear h1 h2 h3
  rcases hcase with hc | ⟨hc, hc2⟩
  · go_enter Tryz.func59, Tryz.ntmps59
    go_wp2_with fail
    go_loopw [3, 4] (fun n i wr => ∃ k : Nat, k ≤ s.size ∧ n = .int .i64 (valR ((bL s).take k)) ∧ i = .int .i64 k ∧ Hid (((bL s).take k).all digR = true) ∧ w = wr) (fun _ i _ => s.size - (intOf i).toNat)
    case atStart => exact ⟨0, by omega, rfl, rfl, Lib.hid rfl, rfl⟩
    case round =>
      obtain ⟨k, hk, rfl, rfl, hall, rfl⟩ := hrel
      by_cases hlt : k < s.size
      · have hli : (k : Int) < (s.size : Int) := by omega
        have hb := s[k].toNat_lt
        by_cases hd : digR s[k] = true
        · have hd2 : 48 ≤ s[k].toNat ∧ s[k].toNat ≤ 57 := by simpa [digR] using hd
          have hd3 : (48 : Int) ≤ (s[k].toNat : Int) ∧ (s[k].toNat : Int) ≤ 57 := by omega
          have hr := valR_range k ((bL s).take k) (by rw [List.length_take, bL_len]; omega) hall.out
          have hp := pow9R k (by omega)
          have hnext : Hid (10 * valR ((bL s).take k) + ((s[k].toNat : Int) - 48) = valR ((bL s).take (k + 1))) := Lib.hid (by rw [bL_take_succ hlt, valR_snoc])
          have hall2 : Hid (((bL s).take (k + 1)).all digR = true) := Lib.hid (by rw [bL_take_succ hlt, List.all_append, hall.out]; simp [hd])
          have hv0 := hr.1
          have hv1 : valR ((bL s).take k) ≤ 1000000000 := by omega
          clear hr hp hall hd hd2
          generalize valR ((bL s).take k) = q at *
          go_wp2_with fail
          go_roundw
          case rel => exact ⟨k + 1, by omega, by rw [← hnext.out], by go_num, hall2, by trivial⟩
          case measure => simp [intOf]; omega
        · have hf := Lib.hid (numR_bad (t := bL s) (c := s[k]) (by
            have hl : k < (bL s).length := by rw [bL_len]; exact hlt
            exact List.getElem_mem hl) (by simpa using hd))
          have hd2 : s[k].toNat < 48 ∨ 57 < s[k].toNat := by
            simp only [digR, Bool.and_eq_true, decide_eq_true_eq] at hd; omega
          rcases hd2 with hd3 | hd3
          · have hd4 : (s[k].toNat : Int) < 48 := by omega
            clear hall
            go_wp2_with fail
            go_ret
            exact ⟨ret_i hf.out.symm, rfl⟩
          · have hd4 : (57 : Int) < (s[k].toNat : Int) := by omega
            have hd5 : (48 : Int) ≤ (s[k].toNat : Int) := by omega
            clear hall
            go_wp2_with fail
            go_ret
            exact ⟨ret_i hf.out.symm, rfl⟩
      · obtain rfl : k = s.size := by omega
        have hf : Hid (valR ((bL s).take s.size) = numR (bL s)) := Lib.hid (by
          have e : (bL s).take s.size = bL s := by rw [← bL_len, List.take_length]
          rw [e, numR_of hno.out (by have := hall.out; rw [e] at this; exact this)])
        clear hlt hall
        go_wp2_with fail
        go_ret
        exact ⟨ret_i hf.out, rfl⟩
  · have hc3 : ((s[0].toNat : Int) == 48) = false := by rw [beq_eq_false_iff_ne]; exact hc2
    go_enter Tryz.func59, Tryz.ntmps59
    go_wp2_with fail
    go_loopw [3, 4] (fun n i wr => ∃ k : Nat, k ≤ s.size ∧ n = .int .i64 (valR ((bL s).take k)) ∧ i = .int .i64 k ∧ Hid (((bL s).take k).all digR = true) ∧ w = wr) (fun _ i _ => s.size - (intOf i).toNat)
    case atStart => exact ⟨0, by omega, rfl, rfl, Lib.hid rfl, rfl⟩
    case round =>
      obtain ⟨k, hk, rfl, rfl, hall, rfl⟩ := hrel
      by_cases hlt : k < s.size
      · have hli : (k : Int) < (s.size : Int) := by omega
        have hb := s[k].toNat_lt
        by_cases hd : digR s[k] = true
        · have hd2 : 48 ≤ s[k].toNat ∧ s[k].toNat ≤ 57 := by simpa [digR] using hd
          have hd3 : (48 : Int) ≤ (s[k].toNat : Int) ∧ (s[k].toNat : Int) ≤ 57 := by omega
          have hr := valR_range k ((bL s).take k) (by rw [List.length_take, bL_len]; omega) hall.out
          have hp := pow9R k (by omega)
          have hnext : Hid (10 * valR ((bL s).take k) + ((s[k].toNat : Int) - 48) = valR ((bL s).take (k + 1))) := Lib.hid (by rw [bL_take_succ hlt, valR_snoc])
          have hall2 : Hid (((bL s).take (k + 1)).all digR = true) := Lib.hid (by rw [bL_take_succ hlt, List.all_append, hall.out]; simp [hd])
          have hv0 := hr.1
          have hv1 : valR ((bL s).take k) ≤ 1000000000 := by omega
          clear hr hp hall hd hd2
          generalize valR ((bL s).take k) = q at *
          go_wp2_with fail
          go_roundw
          case rel => exact ⟨k + 1, by omega, by rw [← hnext.out], by go_num, hall2, by trivial⟩
          case measure => simp [intOf]; omega
        · have hf := Lib.hid (numR_bad (t := bL s) (c := s[k]) (by
            have hl : k < (bL s).length := by rw [bL_len]; exact hlt
            exact List.getElem_mem hl) (by simpa using hd))
          have hd2 : s[k].toNat < 48 ∨ 57 < s[k].toNat := by
            simp only [digR, Bool.and_eq_true, decide_eq_true_eq] at hd; omega
          rcases hd2 with hd3 | hd3
          · have hd4 : (s[k].toNat : Int) < 48 := by omega
            clear hall
            go_wp2_with fail
            go_ret
            exact ⟨ret_i hf.out.symm, rfl⟩
          · have hd4 : (57 : Int) < (s[k].toNat : Int) := by omega
            have hd5 : (48 : Int) ≤ (s[k].toNat : Int) := by omega
            clear hall
            go_wp2_with fail
            go_ret
            exact ⟨ret_i hf.out.symm, rfl⟩
      · obtain rfl : k = s.size := by omega
        have hf : Hid (valR ((bL s).take s.size) = numR (bL s)) := Lib.hid (by
          have e : (bL s).take s.size = bL s := by rw [← bL_len, List.take_length]
          rw [e, numR_of hno.out (by have := hall.out; rw [e] at this; exact this)])
        clear hlt hall
        go_wp2_with fail
        go_ret
        exact ⟨ret_i hf.out, rfl⟩
end Go.Proofs.YtceabbbmgfeofaaGreatDoor.Rw
