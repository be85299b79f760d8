/-
  Contract: laws.szStringS tells what is left of a number behind a list of texts in memory; of what was there nothing is changed. Conditions: in memory.
-/
import Derived.Test.YtfcpihoegfbofaaRows
import Derived.Test.YtfcpihoegfbofaaRow
namespace Go.Proofs.Ytfcpihoegfbofaa.Rw
open Go.RowKit
set_option linter.unusedVariables false
set_option maxRecDepth 100000

theorem szStringS (w : World) (A B : Nat) (a : Option Addr) (len cap : Nat) (l : List ByteArray) (left : Int) (hs : TextsAt w A B a len l) (hB : B ≤ w.heap.size) (h0 : 0 ≤ left) (h1 : left ≤ 1048576) :
    Calls Try.prog 28 #[.slice a len cap, .int .i64 left] w fun e w' => e = .returned (.int .i64 (leftOf left (len + sumOf ByteArray.size l))) ∧ Below w.heap.size w w' := by
  have hlen := hs.2.1
  have HS := Lib.hid hs
  have hll := Lib.hid hs.1
  clear hs
  by_cases c1 : left - (len : Int) < 0
  · have hf := Lib.hid (leftOf_no (left := left) (n := len + sumOf ByteArray.size l) (by omega))
    go_enter Try.func28, Try.ntmps28
    go_wp2_with fail
    go_ret
    exact ⟨ret_i hf.out, Below.refl _ _⟩
  have c1' : 0 ≤ left - (len : Int) := by omega
  clear c1
  go_enter Try.func28, Try.ntmps28
  go_wp2_with fail
  go_loopw [1, 5] (fun v i wr => ∃ (i' : Nat) (m : Int), i' ≤ len ∧ 0 ≤ m ∧ m ≤ 1048576 ∧ Hid (m + ((len + sumOf ByteArray.size l : Nat) : Int) = left + (sumOf ByteArray.size (l.drop i') : Int)) ∧ v = .int .i64 m ∧ i = .int .i64 i' ∧ Below w.heap.size w wr) (fun _ i _ => len - (intOf i).toNat)
  case atStart => exact ⟨0, left - len, by omega, by omega, by omega, Lib.hid (by rw [List.drop_zero]; omega), rfl, rfl, Below.refl _ _⟩
  case round =>
    obtain ⟨i, m, hi, hm0, hm1, hm, rfl, rfl, hb⟩ := hrel
    have HB := Lib.hid hb
    by_cases hlt : i < len
    · have hli : (i : Int) < (len : Int) := by omega
      obtain ⟨x, b, off, hd, rfl, hA, hbb, hok, hc⟩ := (HS.out.below textLies (Nat.le_refl _) (hb.mono hB)).at hlt
      rw [Nat.mul_one] at hc
      have hwt := Lib.hid (sumOf_drop (f := ByteArray.size) hd)
      unfold OkS at hok
      clear hlt hd hb
      by_cases c3 : m - (x.size : Int) < 0
      · have hf := Lib.hid (leftOf_no (left := left) (n := len + sumOf ByteArray.size l) (by have e1 := hm.out; have e2 := hwt.out; omega))
        clear hm
        go_wp2_with fail
        go_ret
        exact ⟨ret_i hf.out, HB.out⟩
      · have hlo : 0 ≤ m - (x.size : Int) := by omega
        have hrel : Hid (m - (x.size : Int) + ((len + sumOf ByteArray.size l : Nat) : Int) = left + (sumOf ByteArray.size (l.drop (i + 1)) : Int)) := Lib.hid (by
          have e1 := hm.out; have e2 := hwt.out; omega)
        clear hm c3
        go_wp2_with fail
        go_roundw
        case rel => exact ⟨i + 1, m - x.size, by omega, hlo, by omega, hrel, rfl, by go_num, HB.out⟩
        case measure => simp [intOf]; omega
    · obtain rfl : i = len := by omega
      have hf := Lib.hid (leftOf_yes (left := left) (n := i + sumOf ByteArray.size l) hm0 (by have e1 := hm.out; rw [← hll.out, List.drop_length] at e1; simp only [sumOf, hll.out] at e1; omega))
      clear hlt hb hm
      go_wp2_with fail
      go_ret
      exact ⟨ret_i hf.out, HB.out⟩

end Go.Proofs.Ytfcpihoegfbofaa.Rw
