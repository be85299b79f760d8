/-
  Contracts: spec.l01Dec answers the digits of a number; of what was there nothing is changed. Conditions: a number of int64.
-/
import Derived.Test.YtceabbbmgfeofaaGreatDoorRows
import Derived.Test.YtceabbbmgfeofaaGreatDoorBytes
import Derived.Test.YtceabbbmgfeofaaGreatDoorDecM
import Derived.RegionTactic
import Derived.BigRegion
namespace Go.Proofs.YtceabbbmgfeofaaGreatDoor.Decs
open Go.RowKit Texts Bytes
set_option linter.unusedVariables false
set_option maxRecDepth 100000

/-- Digits of what is not negative. -/
theorem specDec (n : Nat) (hn : n ≤ 9223372036854775807) (w : World) :
    Calls Tryz.prog 151 #[.int .i64 n] w fun e w' => e = .returned (.string (decB n)) ∧ Below w.heap.size w w' := by
  by_cases h0 : n = 0
  · subst h0
    have hf := Lib.hid (show (⟨#[48]⟩ : ByteArray) = decB ((0 : Nat) : Int) by unfold decB; rw [show ((0 : Nat) : Int).natAbs = 0 from rfl, decL_small (by omega)]; rfl)
    go_enter Tryz.func151, Tryz.ntmps151
    go_wp2_with fail
    go_ret
    exact ⟨ret_string hf.out, Below.refl _ _⟩
  have hpos : 0 < n := by omega
  have hi : 0 < (n : Int) := by omega
  have hi2 : (n : Int) ≠ 0 := by omega
  have hi3 : 0 ≤ (n : Int) := by omega
  clear h0
  go_enter Tryz.func151, Tryz.ntmps151
  go_wp2_with fail
  go_loopw [0, 4] (fun v o wr => ∃ (m : Nat) (l : List UInt8), m ≤ 9223372036854775807 ∧ v = .int .i64 m ∧ o = .string ⟨l.toArray⟩ ∧ Hid (decL n = (if m = 0 then l else decL m ++ l)) ∧ Hid (m * 10 ^ l.length ≤ 9223372036854775808) ∧ Below w.heap.size w wr) (fun v _ _ => (intOf v).toNat)
  case atStart => exact ⟨n, [], by omega, rfl, rfl, Lib.hid (by rw [if_neg (by omega), List.append_nil]), Lib.hid (by simp; omega), Below.refl _ _⟩
  case round =>
    obtain ⟨m, l, hm, rfl, rfl, hd, hl, hb⟩ := hrel
    have HB := Lib.hid hb
    have hz := Lib.hid hb.size
    by_cases hm0 : m = 0
    · subst hm0
      have hf : Hid ((⟨l.toArray⟩ : ByteArray) = decB (n : Int)) := Lib.hid (by unfold decB; rw [if_neg (by omega), show ((n : Nat) : Int).natAbs = n from rfl, hd.out, if_pos rfl]; rfl)
      have hneg : decide ((n : Int) < 0) = false := decide_eq_false (by omega)
      clear hb hd hl
      go_wp2_with fail
      go_ret
      exact ⟨ret_string hf.out, HB.out⟩
    · have hmp : 0 < m := by omega
      have hmi : 0 < (m : Int) := by omega
      have hmj : ((m : Int) == 0) = false := by rw [beq_eq_false_iff_ne]; omega
      have hlen := dec_len hmp hl.out
      have hcv := one_digit wr m
      have hrel : Hid (decL n = (if m / 10 = 0 then UInt8.ofNat (48 + m % 10) :: l else decL (m / 10) ++ (UInt8.ofNat (48 + m % 10) :: l))) := Lib.hid (by rw [hd.out, if_neg hm0, dec_step hmp])
      have hpw : Hid (m / 10 * 10 ^ (UInt8.ofNat (48 + m % 10) :: l).length ≤ 9223372036854775808) := Lib.hid (dec_next hl.out)
      have hdiv : (m : Int).tdiv 10 = ((m / 10 : Nat) : Int) := by rw [Int.tdiv_eq_ediv_of_nonneg (by omega)]; rfl
      have HB1 := Lib.hid (HB.out.alloc HB.out.size (.cells #[.int .u8 (48 + (m : Int) % 10)] 5))
      have hdl := Nat.div_lt_self hmp (show 1 < 10 by omega)
      clear hb hd hl
      generalize UInt8.ofNat (48 + m % 10) = c at *
      have hcat : ((⟨#[c]⟩ : ByteArray) ++ ⟨l.toArray⟩) = ⟨(c :: l).toArray⟩ := by
        apply ByteArray.ext; simp [ByteArray.data_append]
      go_wp2_with fail
      go_roundw
      case rel => exact ⟨m / 10, c :: l, by omega, by go_num, by trivial, hrel, hpw, HB1.out⟩
      case measure => simp [intOf]; omega
end Go.Proofs.YtceabbbmgfeofaaGreatDoor.Decs
