/-
  Contracts: spec.SatSum, impl.cappedSum, impl.SatSum answer the plain sum of a list; of what was there nothing is changed. Conditions: a list within 2^20.
-/
import Derived.Test.YtmmhelkgcmeakaaRows
import Derived.Test.YtmmhelkgcmeakaaInts
import Derived.Test.YtmmhelkgcmeakaaSatB
namespace Go.Proofs.Ytmmhelkgcmeakaa.Sats
open Go.RowKit SatMath Intss
set_option linter.unusedVariables false

theorem sum_step {l : List Int} {k len : Nat} (h : l.length = len) (hk : k < len) : add (sum (l.take k)) (l.getD k 0) = sum (l.take (k + 1)) := by
  have hl : k < l.length := by omega
  rw [sum_take hl, List.getD_eq_getElem?_getD, List.getElem?_eq_getElem hl]; rfl
theorem sum_full {l : List Int} {len : Nat} (h : l.length = len) : sum (l.take len) = sum l := by rw [← h, List.take_length]
theorem sumOf_big {l : List Int} {len : Nat} (h : l.length = len) (hb : 400 < len) : (0 : Int) = sumOf l := (if_pos (by omega)).symm
theorem sumOf_fits {l : List Int} {len : Nat} (h : l.length = len) (hb : len ≤ 400) : sum (l.take len) = sumOf l := by
  rw [sum_full h]; exact (if_neg (by omega)).symm

theorem specSatSum (w : World) (B : Nat) (a : Option Addr) (len cap : Nat) (l : List Int) (h : Ints w B a len l) (hsm : len ≤ 1048576) :
    Calls Try.prog 18 #[.slice a len cap] w fun e w' => e = .returned (.int .i64 (sumOf l)) ∧ w = w' := by
  have HI := Lib.hid h
  clear h
  by_cases hbig : 400 < len
  · have hbi : (400 : Int) < (len : Int) := by omega
    have hf := Lib.hid (sumOf_big HI.out.size hbig)
    clear hbig
    go_enter Try.func18, Try.ntmps18
    go_wp2_with fail
    go_loopw [3, 4] (fun n i wr => n = .int .i64 0 ∧ i = .int .i64 0 ∧ w = wr) (fun _ _ _ => 0)
    case atStart => exact ⟨rfl, rfl, rfl⟩
    case round =>
      obtain ⟨rfl, rfl, rfl⟩ := hrel
      by_cases h0 : (0 : Int) < (len : Int)
      · go_wp2_with fail
        go_ret
        exact ⟨ret_int hf.out, rfl⟩
      · omega
  · have hsmall : len ≤ 400 := by omega
    have hbi : (len : Int) ≤ 400 := by omega
    clear hbig
    go_enter Try.func18, Try.ntmps18
    go_wp2_with fail
    go_loopw [3, 4] (fun n i wr => ∃ k : Nat, k ≤ len ∧ n = .int .i64 (sum (l.take k)) ∧ i = .int .i64 k ∧ w = wr) (fun _ i _ => len - (intOf i).toNat)
    case atStart => exact ⟨0, by omega, rfl, rfl, rfl⟩
    case round =>
      obtain ⟨k, hk, rfl, rfl, rfl⟩ := hrel
      by_cases hlt : k < len
      · have hli : (k : Int) < (len : Int) := by omega
        obtain ⟨b, off, rfl, hb, hc⟩ := HI.out.row k hlt
        have ⟨f0, f1⟩ := HI.out.fit hlt
        have s0 := sum_lo (l.take k)
        have s1 := sum_hi (l.take k)
        have hs := Lib.hid (sum_step HI.out.size hlt)
        generalize l.getD k 0 = v at hc f0 f1 hs
        generalize sum (l.take k) = s at s0 s1 hs
        clear hlt
        go_wp2_with (go_at_call 16; refine (specSatAdd s v (by omega) (by omega) f0 f1 _).mono ?_; rintro e w' ⟨rfl, rfl⟩)
        go_roundw
        case rel => exact ⟨k + 1, by omega, by rw [hs.out], by go_num, by trivial⟩
        case measure => simp [intOf]; omega
      · obtain rfl : k = len := by omega
        have hf := Lib.hid (sumOf_fits HI.out.size hsmall)
        clear hlt
        go_wp2_with fail
        go_ret
        exact ⟨ret_int hf.out, rfl⟩

theorem cappedSum (w : World) (B : Nat) (a : Option Addr) (len cap : Nat) (l : List Int) (h : Ints w B a len l) (hsmall : len ≤ 400) :
    Calls Try.prog 32 #[.slice a len cap] w fun e w' => e = .returned (.int .i64 (sumOf l)) ∧ w = w' := by
  have HI := Lib.hid h
  clear h
  have hbi : (len : Int) ≤ 400 := by omega
  go_enter Try.func32, Try.ntmps32
  go_wp2_with fail
  go_loopw [3, 8] (fun n i wr => ∃ k : Nat, k ≤ len ∧ n = .int .i64 (sum (l.take k)) ∧ i = .int .i64 k ∧ w = wr) (fun _ i _ => len - (intOf i).toNat)
  case atStart => exact ⟨0, by omega, rfl, rfl, rfl⟩
  case round =>
    obtain ⟨k, hk, rfl, rfl, rfl⟩ := hrel
    by_cases hlt : k < len
    · have hli : (k : Int) < (len : Int) := by omega
      obtain ⟨b, off, rfl, hb, hc⟩ := HI.out.row k hlt
      have ⟨f0, f1⟩ := HI.out.fit hlt
      have s0 := sum_lo (l.take k)
      have s1 := sum_hi (l.take k)
      have hs : Hid (cut (sum (l.take k) + cut (l.getD k 0)) = sum (l.take (k + 1))) := Lib.hid (by
        rw [← sum_step HI.out.size hlt]; unfold add; rw [cut_id s0 s1])
      generalize l.getD k 0 = v at hc f0 f1 hs
      generalize sum (l.take k) = s at s0 s1 hs
      have c0 := cut_lo v
      have c1 := cut_hi v
      have HC := Lib.hid (cappedOf v f0 f1)
      generalize cut v = c at c0 c1 hs HC
      clear hlt
      go_wp2_with (first
        | (go_at_call 29; refine (HC.out _).mono ?_; rintro e w' ⟨rfl, rfl⟩)
        | (go_at_call 30; refine (plus s c (by omega) (by omega) _).mono ?_; rintro e w' ⟨rfl, rfl⟩))
      go_roundw
      case rel => exact ⟨k + 1, by omega, by rw [hs.out], by go_num, by trivial⟩
      case measure => simp [intOf]; omega
    · obtain rfl : k = len := by omega
      have hf := Lib.hid (sumOf_fits HI.out.size hsmall)
      clear hlt
      go_wp2_with fail
      go_ret
      exact ⟨ret_int hf.out, rfl⟩

theorem implSatSum (w : World) (B : Nat) (a : Option Addr) (len cap : Nat) (l : List Int) (h : Ints w B a len l) (hsm : len ≤ 1048576) :
    Calls Try.prog 15 #[.slice a len cap] w fun e w' => e = .returned (.int .i64 (sumOf l)) ∧ w = w' := by
  have HI := Lib.hid h
  clear h
  by_cases hbig : 400 < len
  · have hbi : (400 : Int) < (len : Int) := by omega
    have hf := Lib.hid (sumOf_big HI.out.size hbig)
    clear hbig
    go_enter Try.func15, Try.ntmps15
    go_wp2_with fail
    go_ret
    exact ⟨ret_int hf.out, rfl⟩
  · have hsmall : len ≤ 400 := by omega
    have hbi : (len : Int) ≤ 400 := by omega
    clear hbig
    go_enter Try.func15, Try.ntmps15
    go_wp2_with (go_at_call 32; refine (cappedSum _ B a len cap l HI.out hsmall).mono ?_; rintro e w' ⟨rfl, rfl⟩)
    go_ret
    exact ⟨rfl, rfl⟩
end Go.Proofs.Ytmmhelkgcmeakaa.Sats
