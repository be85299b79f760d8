/-
  Contracts: SatMul, SatMax of the model; cappedOf, plus, times, SatAdd, SatMul, SatMax of the program; QuotedLen of both: they answer the plain ones; nothing is changed. Conditions: numbers of int64; a text within 2^47.
-/
import Derived.Test.YtmmhelkgcmeakaaRows
import Derived.Test.YtmmhelkgcmeakaaSat
namespace Go.Proofs.Ytmmhelkgcmeakaa.Sats
open Go.RowKit SatMath
set_option linter.unusedVariables false

theorem specSatMul (a b : Int) (ha0 : -9223372036854775808 ≤ a) (ha1 : a ≤ 9223372036854775807) (hb0 : -9223372036854775808 ≤ b) (hb1 : b ≤ 9223372036854775807) (w : World) :
    Calls Try.prog 17 #[.int .i64 a, .int .i64 b] w fun e w' => e = .returned (.int .i64 (mul a b)) ∧ w = w' := by
  have c0 := cut_lo a; have c1 := cut_hi a; have d0 := cut_lo b; have d1 := cut_hi b
  have m0 := mul_lo a b; have m1 := mul_hi a b
  have HA := Lib.hid (l02Cut a ha0 ha1)
  have HB := Lib.hid (l02Cut b hb0 hb1)
  have hf := Lib.hid (show cut (cut a * cut b) = mul a b from rfl)
  generalize cut a = x at *
  generalize cut b = y at *
  clear ha0 ha1 hb0 hb1
  go_enter Try.func17, Try.ntmps17
  go_wp2_with (go_at_call 33; first
    | (refine (HA.out _).mono ?_; rintro e w' ⟨rfl, rfl⟩) | (refine (HB.out _).mono ?_; rintro e w' ⟨rfl, rfl⟩)
    | (refine (l02Cut (x * y) (by omega) (by omega) _).mono ?_; rintro e w' ⟨rfl, rfl⟩))
  go_ret
  exact ⟨ret_int hf.out, rfl⟩
theorem specSatMax (a b : Int) (ha0 : -9223372036854775808 ≤ a) (ha1 : a ≤ 9223372036854775807) (hb0 : -9223372036854775808 ≤ b) (hb1 : b ≤ 9223372036854775807) (w : World) :
    Calls Try.prog 20 #[.int .i64 a, .int .i64 b] w fun e w' => e = .returned (.int .i64 (big a b)) ∧ w = w' := by
  have c0 := cut_lo a; have c1 := cut_hi a; have d0 := cut_lo b; have d1 := cut_hi b
  have HA := Lib.hid (l02Cut a ha0 ha1)
  have HB := Lib.hid (l02Cut b hb0 hb1)
  have hf := Lib.hid (show max (cut a) (cut b) = big a b from rfl)
  generalize cut a = x at *
  generalize cut b = y at *
  clear ha0 ha1 hb0 hb1
  go_enter Try.func20, Try.ntmps20
  go_wp2_with (first
    | (go_at_call 33; first | (refine (HA.out _).mono ?_; rintro e w' ⟨rfl, rfl⟩) | (refine (HB.out _).mono ?_; rintro e w' ⟨rfl, rfl⟩))
    | (go_at_call 34; refine (l01Max x y (by omega) (by omega) (by omega) (by omega) _).mono ?_; rintro e w' ⟨rfl, rfl⟩))
  go_ret
  exact ⟨ret_int hf.out, rfl⟩
theorem cappedOf (n : Int) (h0 : -9223372036854775808 ≤ n) (h1 : n ≤ 9223372036854775807) (w : World) :
    Calls Try.prog 29 #[.int .i64 n] w fun e w' => e = .returned (.int .i64 (cut n)) ∧ w = w' := by
  have hf := Lib.hid (cut_minmax n)
  go_enter Try.func29, Try.ntmps29
  go_wp2_with fail
  go_ret
  exact ⟨ret_int hf.out, rfl⟩
theorem plus (x y : Int) (h0 : 0 ≤ x + y) (h1 : x + y ≤ 2000000000) (w : World) :
    Calls Try.prog 30 #[.int .i64 x, .int .i64 y] w fun e w' => e = .returned (.int .i64 (cut (x + y))) ∧ w = w' := by
  have hf := Lib.hid (cut_min h0)
  go_enter Try.func30, Try.ntmps30
  go_wp2_with fail
  go_ret
  exact ⟨ret_int hf.out, rfl⟩
theorem times (x y : Int) (h0 : 0 ≤ x * y) (h1 : x * y ≤ 1000000000000000000) (w : World) :
    Calls Try.prog 31 #[.int .i64 x, .int .i64 y] w fun e w' => e = .returned (.int .i64 (cut (x * y))) ∧ w = w' := by
  have hf := Lib.hid (cut_min h0)
  go_enter Try.func31, Try.ntmps31
  go_wp2_with fail
  go_ret
  exact ⟨ret_int hf.out, rfl⟩
theorem implSatAdd (a b : Int) (ha0 : -9223372036854775808 ≤ a) (ha1 : a ≤ 9223372036854775807) (hb0 : -9223372036854775808 ≤ b) (hb1 : b ≤ 9223372036854775807) (w : World) :
    Calls Try.prog 13 #[.int .i64 a, .int .i64 b] w fun e w' => e = .returned (.int .i64 (add a b)) ∧ w = w' := by
  have c0 := cut_lo a; have c1 := cut_hi a; have d0 := cut_lo b; have d1 := cut_hi b
  have m0 := mul_lo a b; have m1 := mul_hi a b
  have HA := Lib.hid (cappedOf a ha0 ha1)
  have HB := Lib.hid (cappedOf b hb0 hb1)
  have hf := Lib.hid (show cut (cut a + cut b) = add a b from rfl)
  generalize cut a = x at *
  generalize cut b = y at *
  clear ha0 ha1 hb0 hb1
  go_enter Try.func13, Try.ntmps13
  go_wp2_with (first
    | (go_at_call 29; first | (refine (HA.out _).mono ?_; rintro e w' ⟨rfl, rfl⟩) | (refine (HB.out _).mono ?_; rintro e w' ⟨rfl, rfl⟩))
    | (go_at_call 30; refine (plus x y (by omega) (by omega) _).mono ?_; rintro e w' ⟨rfl, rfl⟩))
  go_ret
  exact ⟨ret_int hf.out, rfl⟩
theorem implSatMul (a b : Int) (ha0 : -9223372036854775808 ≤ a) (ha1 : a ≤ 9223372036854775807) (hb0 : -9223372036854775808 ≤ b) (hb1 : b ≤ 9223372036854775807) (w : World) :
    Calls Try.prog 14 #[.int .i64 a, .int .i64 b] w fun e w' => e = .returned (.int .i64 (mul a b)) ∧ w = w' := by
  have c0 := cut_lo a; have c1 := cut_hi a; have d0 := cut_lo b; have d1 := cut_hi b
  have m0 := mul_lo a b; have m1 := mul_hi a b
  have HA := Lib.hid (cappedOf a ha0 ha1)
  have HB := Lib.hid (cappedOf b hb0 hb1)
  have hf := Lib.hid (show cut (cut a * cut b) = mul a b from rfl)
  generalize cut a = x at *
  generalize cut b = y at *
  clear ha0 ha1 hb0 hb1
  go_enter Try.func14, Try.ntmps14
  go_wp2_with (first
    | (go_at_call 29; first | (refine (HA.out _).mono ?_; rintro e w' ⟨rfl, rfl⟩) | (refine (HB.out _).mono ?_; rintro e w' ⟨rfl, rfl⟩))
    | (go_at_call 31; refine (times x y (by omega) (by omega) _).mono ?_; rintro e w' ⟨rfl, rfl⟩))
  go_ret
  exact ⟨ret_int hf.out, rfl⟩
theorem implSatMax (a b : Int) (ha0 : -9223372036854775808 ≤ a) (ha1 : a ≤ 9223372036854775807) (hb0 : -9223372036854775808 ≤ b) (hb1 : b ≤ 9223372036854775807) (w : World) :
    Calls Try.prog 19 #[.int .i64 a, .int .i64 b] w fun e w' => e = .returned (.int .i64 (big a b)) ∧ w = w' := by
  have c0 := cut_lo a; have c1 := cut_hi a; have d0 := cut_lo b; have d1 := cut_hi b
  have HA := Lib.hid (cappedOf a ha0 ha1)
  have HB := Lib.hid (cappedOf b hb0 hb1)
  have hf := Lib.hid (show max (cut a) (cut b) = big a b from rfl)
  generalize cut a = x at *
  generalize cut b = y at *
  clear ha0 ha1 hb0 hb1
  go_enter Try.func19, Try.ntmps19
  go_wp2_with (go_at_call 29; first | (refine (HA.out _).mono ?_; rintro e w' ⟨rfl, rfl⟩) | (refine (HB.out _).mono ?_; rintro e w' ⟨rfl, rfl⟩))
  go_ret
  exact ⟨ret_int hf.out, rfl⟩
/-- What a text has in quotes. -/
def quoted (n : Nat) : Int := if 8000 < n then 0 else (n : Int) + 2
theorem quoted_big {n : Nat} (h : 8000 < n) : (0 : Int) = quoted n := (if_pos h).symm
theorem quoted_fits {n : Nat} (h : n ≤ 8000) : (n : Int) + 2 = quoted n := (if_neg (by omega)).symm
theorem specQuotedLen (t : ByteArray) (ht : t.size ≤ maxLen) (w : World) :
    Calls Try.prog 22 #[.string t] w fun e w' => e = .returned (.int .i64 (quoted t.size)) ∧ w = w' := by
  unfold maxLen at ht
  by_cases h : 8000 < t.size
  · have hi : (8000 : Int) < (t.size : Int) := by omega
    have hf := Lib.hid (quoted_big h)
    clear h
    go_enter Try.func22, Try.ntmps22
    go_wp2_with fail
    go_ret
    exact ⟨ret_int hf.out, rfl⟩
  · have h' : t.size ≤ 8000 := by omega
    have hi : (t.size : Int) ≤ 8000 := by omega
    have hf := Lib.hid (quoted_fits h')
    clear h
    go_enter Try.func22, Try.ntmps22
    go_wp2_with fail
    go_ret
    exact ⟨ret_int hf.out, rfl⟩
theorem implQuotedLen (t : ByteArray) (ht : t.size ≤ maxLen) (w : World) :
    Calls Try.prog 21 #[.string t] w fun e w' => e = .returned (.int .i64 (quoted t.size)) ∧ w = w' := by
  unfold maxLen at ht
  by_cases h : 8000 < t.size
  · have hi : (8000 : Int) < (t.size : Int) := by omega
    have hf := Lib.hid (quoted_big h)
    clear h
    go_enter Try.func21, Try.ntmps21
    go_wp2_with fail
    go_ret
    exact ⟨ret_int hf.out, rfl⟩
  · have h' : t.size ≤ 8000 := by omega
    have hi : (t.size : Int) ≤ 8000 := by omega
    have hf := Lib.hid (quoted_fits h')
    clear h
    go_enter Try.func21, Try.ntmps21
    go_wp2_with fail
    go_ret
    exact ⟨ret_int hf.out, rfl⟩
end Go.Proofs.Ytmmhelkgcmeakaa.Sats
