/-
  Contracts: the cuts, sums, products and the greater one of both sides answer the plain ones; nothing is changed. Conditions: numbers of int64.
-/
import Derived.Test.YtmmhelkgcmeakaaRows
import Derived.Test.YtmmhelkgcmeakaaSatMath
import Derived.WalkKit
import Derived.Outline
import Derived.Lib.Hide
import Derived.Lib.MinMax
namespace Go.Proofs.Ytmmhelkgcmeakaa.Sats
open Go.RowKit SatMath
set_option linter.unusedVariables false

theorem ret_int {k : IntKind} {a b : Int} (h : a = b) : Ending.returned (.int k a) = .returned (.int k b) := by rw [h]
theorem l01Max (a b : Int) (ha0 : -9223372036854775808 ≤ a) (ha1 : a ≤ 9223372036854775807) (hb0 : -9223372036854775808 ≤ b) (hb1 : b ≤ 9223372036854775807) (w : World) :
    Calls Try.prog 34 #[.int .i64 a, .int .i64 b] w fun e w' => e = .returned (.int .i64 (max a b)) ∧ w = w' := by
  by_cases h : b < a
  · have hf := Lib.hid (show a = max a b by omega)
    go_enter Try.func34, Try.ntmps34
    go_wp2_with fail
    go_ret
    exact ⟨ret_int hf.out, rfl⟩
  · have h' : a ≤ b := by omega
    have hf := Lib.hid (show b = max a b by omega)
    clear h
    go_enter Try.func34, Try.ntmps34
    go_wp2_with fail
    go_ret
    exact ⟨ret_int hf.out, rfl⟩
theorem l01Min (a b : Int) (ha0 : -9223372036854775808 ≤ a) (ha1 : a ≤ 9223372036854775807) (hb0 : -9223372036854775808 ≤ b) (hb1 : b ≤ 9223372036854775807) (w : World) :
    Calls Try.prog 36 #[.int .i64 a, .int .i64 b] w fun e w' => e = .returned (.int .i64 (min a b)) ∧ w = w' := by
  by_cases h : a < b
  · have hf := Lib.hid (show a = min a b by omega)
    go_enter Try.func36, Try.ntmps36
    go_wp2_with fail
    go_ret
    exact ⟨ret_int hf.out, rfl⟩
  · have h' : b ≤ a := by omega
    have hf := Lib.hid (show b = min a b by omega)
    clear h
    go_enter Try.func36, Try.ntmps36
    go_wp2_with fail
    go_ret
    exact ⟨ret_int hf.out, rfl⟩
theorem l02Cut (n : Int) (h0 : -9223372036854775808 ≤ n) (h1 : n ≤ 9223372036854775807) (w : World) :
    Calls Try.prog 33 #[.int .i64 n] w fun e w' => e = .returned (.int .i64 (cut n)) ∧ w = w' := by
  have hf := Lib.hid (show max 0 (min n 1000000000) = cut n by unfold cut; split <;> (try split) <;> omega)
  go_enter Try.func33, Try.ntmps33
  go_wp2_with (first
    | (go_at_call 36; refine (l01Min n 1000000000 h0 h1 (by omega) (by omega) _).mono ?_; rintro e w' ⟨rfl, rfl⟩)
    | (go_at_call 34; refine (l01Max 0 (min n 1000000000) (by omega) (by omega) (by omega) (by omega) _).mono ?_; rintro e w' ⟨rfl, rfl⟩))
  go_ret
  exact ⟨ret_int hf.out, rfl⟩
theorem specSatAdd (a b : Int) (ha0 : -9223372036854775808 ≤ a) (ha1 : a ≤ 9223372036854775807) (hb0 : -9223372036854775808 ≤ b) (hb1 : b ≤ 9223372036854775807) (w : World) :
    Calls Try.prog 16 #[.int .i64 a, .int .i64 b] w fun e w' => e = .returned (.int .i64 (add a b)) ∧ w = w' := by
  have c0 := cut_lo a; have c1 := cut_hi a; have d0 := cut_lo b; have d1 := cut_hi b
  have HA := Lib.hid (l02Cut a ha0 ha1)
  have HB := Lib.hid (l02Cut b hb0 hb1)
  have hf := Lib.hid (show cut (cut a + cut b) = add a b from rfl)
  generalize cut a = x at HA hf c0 c1
  generalize cut b = y at HB hf d0 d1
  clear ha0 ha1 hb0 hb1
  go_enter Try.func16, Try.ntmps16
  go_wp2_with (go_at_call 33; first
    | (refine (HA.out _).mono ?_; rintro e w' ⟨rfl, rfl⟩) | (refine (HB.out _).mono ?_; rintro e w' ⟨rfl, rfl⟩)
    | (refine (l02Cut (x + y) (by omega) (by omega) _).mono ?_; rintro e w' ⟨rfl, rfl⟩))
  go_ret
  exact ⟨ret_int hf.out, rfl⟩
end Go.Proofs.Ytmmhelkgcmeakaa.Sats
