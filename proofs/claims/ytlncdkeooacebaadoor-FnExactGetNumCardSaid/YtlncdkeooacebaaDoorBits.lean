/-
  Contract: impl.readBits answers what scan reads off the bytes; the world is left as it is. Condition: a text of at most maxLen bytes.
-/
import Derived.Test.YtlncdkeooacebaaDoorRows
import Derived.Test.YtlncdkeooacebaaDoorScope
import Derived.Test.YtlncdkeooacebaaDoorNumMath
import Derived.WalkKit
import Derived.WalkMore
import Derived.Scope
import Derived.Outline
import Derived.Lib.Hide
namespace Go.Proofs.YtlncdkeooacebaaDoor.Bits
open Go.RowKit Scopes NumMath
set_option linter.unusedVariables false

def errV (c : Int) : Value := if c = 0 then .nilIface else .iface 100 (.agg #[.int .i64 c])
def resV (r : Nat × Nat × Int) : Value := .tuple #[.int .u64 (r.1 : Int), .int .i64 (r.2.1 : Int), errV r.2.2]

theorem ret_res {R : Nat × Nat × Int} {x : Int} {k : Nat} (h : (x.toNat, k, (0 : Int)) = R) (hx : 0 ≤ x) :
    Ending.returned (.tuple #[.int .u64 x, .int .i64 k, .nilIface]) = .returned (resV R) := by
  subst h
  have e : ((x.toNat : Nat) : Int) = x := by omega
  simp [resV, errV, e]
theorem ret_err {R : Nat × Nat × Int} {c : Int} (h : ((0 : Nat), (0 : Nat), c) = R) (hc : c ≠ 0) :
    Ending.returned (.tuple #[.int .u64 0, .int .i64 0, .iface 100 (.agg #[.int .i64 c])]) = .returned (resV R) := by
  subst h
  simp [resV, errV, hc]
theorem last_same {y k x n : Nat} (hn : n = y % 128) (hy : y < 128) :
    (if ((y : Int) = 0 ∧ 1 < k + 1) then ((0 : Nat), (0 : Nat), (3 : Int)) else (((x + n * 128 ^ k : Nat) : Int).toNat, k + 1, 0)) = if y = 0 ∧ 0 < k then (0, 0, 3) else (x + y * 128 ^ k, k + 1, 0) := by
  have e : n = y := by omega
  subst e
  have h1 : ((n : Int) = 0 ∧ 1 < k + 1) ↔ (n = 0 ∧ 0 < k) := by omega
  simp only [h1, Int.toNat_natCast]

/-- What holds at a jump: the frame, and how it stands to the end R. -/
def J (t : ByteArray) (R : Nat × Nat × Int) (w : World) (l : Nat) (a' : Act) (w' : World) : Prop :=
  w = w' ∧ ((l = 1 ∧ ∃ (k : Nat) (x y : Int) (u9 u10 u11 u12 u13 u14 u15 u16 u17 u18 u19 u20 u21 u22 u23 u24 u25 u26 u27 u28 u29 u30 u31 u32 u33 u34 u35 u36 u37 u38 u39 u40 u41 u42 u43 u44 u45 : Value), a' = { tmps := #[.string t, undef, .int .u64 0, .int .i64 0, .nilIface, .int .u64 x, .int .u8 y, .int .i64 k, .int .i64 0, u9, u10, u11, u12, u13, u14, u15, u16, u17, u18, u19, u20, u21, u22, u23, u24, u25, u26, u27, u28, u29, u30, u31, u32, u33, u34, u35, u36, u37, u38, u39, u40, u41, u42, u43, u44, u45], defers := [] } ∧ k ≤ 9 ∧ k ≤ t.size ∧ 0 ≤ x ∧ Hid (x.toNat < 128 ^ k ∧ scan t (10 - k) k x.toNat = R)) ∨
    (l = 2 ∧ ∃ (k : Nat) (x y : Int) (u9 u10 u11 u12 u13 u14 u15 u16 u17 u18 u19 u20 u21 u22 u23 u24 u25 u26 u27 u28 u29 u30 u31 u32 u33 u34 u35 u36 u37 u38 u39 u40 u41 u42 u43 u44 u45 : Value), a' = { tmps := #[.string t, undef, .int .u64 0, .int .i64 0, .nilIface, .int .u64 x, .int .u8 y, .int .i64 k, .int .i64 0, u9, u10, u11, u12, u13, u14, u15, u16, u17, u18, u19, u20, u21, u22, u23, u24, u25, u26, u27, u28, u29, u30, u31, u32, u33, u34, u35, u36, u37, u38, u39, u40, u41, u42, u43, u44, u45], defers := [] } ∧ 1 ≤ k ∧ k ≤ 10 ∧ 0 ≤ y ∧ y ≤ 255 ∧ Hid ((if y = 0 ∧ 1 < k then (0, 0, 3) else (x.toNat, k, 0)) = R ∧ 0 ≤ x)) ∨
    (l = 0 ∧ ∃ (c x y k : Int) (u9 u10 u11 u12 u13 u14 u15 u16 u17 u18 u19 u20 u21 u22 u23 u24 u25 u26 u27 u28 u29 u30 u31 u32 u33 u34 u35 u36 u37 u38 u39 u40 u41 u42 u43 u44 u45 : Value), a' = { tmps := #[.string t, undef, .int .u64 0, .int .i64 0, .nilIface, .int .u64 x, .int .u8 y, .int .i64 k, .int .i64 c, u9, u10, u11, u12, u13, u14, u15, u16, u17, u18, u19, u20, u21, u22, u23, u24, u25, u26, u27, u28, u29, u30, u31, u32, u33, u34, u35, u36, u37, u38, u39, u40, u41, u42, u43, u44, u45], defers := [] } ∧ Hid ((0, 0, c) = R ∧ c ≠ 0)))
def mu (l : Nat) (a : Act) : Nat := match l with | 1 => 12 - (intOf (a.tmps.getD 7 undef)).toNat | 2 => 1 | _ => 0

set_option maxRecDepth 100000 in
theorem readBits (t : ByteArray) (hs : t.size ≤ maxLen) (w : World) :
    Calls Tryd.prog 57 #[.string t] w fun e w' => e = .returned (resV (scan t 10 0 0)) ∧ w = w' := by
  unfold maxLen at hs
  obtain ⟨R, hR⟩ : ∃ R, R = scan t 10 0 0 := ⟨_, rfl⟩
  rw [← hR]
  have HR := Lib.hid hR
  clear hR
  go_enter Tryd.func57, Tryd.ntmps57
  go_wp2_with fail
  refine wp_scope_many (J t R w) (fun l a _ => mu l a) ?_ ?_
  · by_cases hlt : 0 < t.size
    · have he : ((0 : Int) == (t.size : Int)) = false := beq_eq_false_iff_ne.2 (by omega)
      have hb0 : (0 : Int) ≤ (t[0].toNat : Int) := by omega
      have hb1 : (t[0].toNat : Int) ≤ 255 := by have := t[0].toNat_lt; omega
      have hand := and_127 hb0 hb1
      have hnb := nb_at hlt
      have hor := or_zero (y := (t[0].toNat : Int) % 128) (by omega)
      by_cases hs8 : (t[0].toNat : Int) < 128
      · have hR := HR.out
        rw [scan_last (k := 0) (.inl (by omega)) hlt (by omega)] at hR
        have HX := Lib.hid hR
        clear hR
        have HN := Lib.hid hnb
        clear hnb
        go_wp2_with fail
        go_step3
        go_wp2_with fail
        go_step3
        refine ⟨rfl, .inr (.inl ⟨rfl, 1, _, _, _, _, _, _, _, _, _, _, _, _, _, _, _, _, _, _, _, _, _, _, _, _, _, _, _, _, _, _, _, _, _, _, _, _, _, _, _, rfl, by omega, by omega, hb0, hb1, Lib.hid ⟨?_, by omega⟩⟩)⟩
        rw [HX.out, ← HN.out, if_neg (by omega), if_neg (by omega)]
        congr 1
        omega
      · have hR := HR.out
        rw [show scan t 10 0 0 = scan t (10 - 0) 0 0 from rfl, scan_next (k := 0) (by omega) hlt (by omega)] at hR
        have HX := Lib.hid hR
        clear hR
        have HN := Lib.hid hnb
        clear hnb
        have hge : 128 ≤ (t[0].toNat : Int) := by omega
        go_wp2_with fail
        go_step3
        go_wp2_with fail
        go_step3
        refine ⟨rfl, .inl ⟨rfl, 1, _, _, _, _, _, _, _, _, _, _, _, _, _, _, _, _, _, _, _, _, _, _, _, _, _, _, _, _, _, _, _, _, _, _, _, _, _, _, _, rfl, by omega, by omega, by omega, Lib.hid ⟨by omega, ?_⟩⟩⟩
        rw [HX.out, ← HN.out]
        congr 1
        omega
    · have he : ((0 : Int) == (t.size : Int)) = true := beq_iff_eq.2 (by omega)
      have hR := HR.out
      rw [show scan t 10 0 0 = scan t (10 - 0) 0 0 from rfl, scan_end (k := 0) (by omega) (by omega)] at hR
      have HX := Lib.hid hR
      clear hR
      go_wp2_with fail
      go_step3
      go_wp2_with fail
      go_step3
      exact ⟨rfl, .inr (.inr ⟨rfl, 4, _, _, _, _, _, _, _, _, _, _, _, _, _, _, _, _, _, _, _, _, _, _, _, _, _, _, _, _, _, _, _, _, _, _, _, _, _, _, _, _, rfl, Lib.hid ⟨HX.out.symm, by decide⟩⟩)⟩
  · rintro l a' w' ⟨rfl, ⟨rfl, k, x, y, u9, u10, u11, u12, u13, u14, u15, u16, u17, u18, u19, u20, u21, u22, u23, u24, u25, u26, u27, u28, u29, u30, u31, u32, u33, u34, u35, u36, u37, u38, u39, u40, u41, u42, u43, u44, u45, rfl, hk, hks, hx0, hx⟩ | ⟨rfl, k, x, y, u9, u10, u11, u12, u13, u14, u15, u16, u17, u18, u19, u20, u21, u22, u23, u24, u25, u26, u27, u28, u29, u30, u31, u32, u33, u34, u35, u36, u37, u38, u39, u40, u41, u42, u43, u44, u45, rfl, hk1, hk, hy0, hy1, hx⟩ | ⟨rfl, c, x, y, k, u9, u10, u11, u12, u13, u14, u15, u16, u17, u18, u19, u20, u21, u22, u23, u24, u25, u26, u27, u28, u29, u30, u31, u32, u33, u34, u35, u36, u37, u38, u39, u40, u41, u42, u43, u44, u45, rfl, hx⟩⟩
    · refine ⟨_, rfl, ?_⟩
      by_cases hlt : k < t.size
      · have he : ((k : Int) == (t.size : Int)) = false := beq_eq_false_iff_ne.2 (by omega)
        have hb0 : (0 : Int) ≤ (t[k].toNat : Int) := by omega
        have hb1 : (t[k].toNat : Int) ≤ 255 := by have := t[k].toNat_lt; omega
        have hand := and_127 hb0 hb1
        have hnb := nb_at hlt
        have HNB := Lib.hid hnb
        by_cases h9 : k = 9
        · have h10 : ((k : Int) + 1 == 10) = true := beq_iff_eq.2 (by omega)
          by_cases hgt : (1 : Int) < (t[k].toNat : Int)
          · have hR := hx.out.2
            rw [scan_big h9 hlt (by omega)] at hR
            have HX := Lib.hid hR
            clear hR h9 hnb
            go_wp2_with fail
            go_step3
            exact ⟨⟨rfl, .inr (.inr ⟨rfl, 3, _, _, _, _, _, _, _, _, _, _, _, _, _, _, _, _, _, _, _, _, _, _, _, _, _, _, _, _, _, _, _, _, _, _, _, _, _, _, _, _, rfl, Lib.hid ⟨HX.out, by decide⟩⟩)⟩, by simp [mu, intOf]; omega⟩
          · have hle : (t[k].toNat : Int) ≤ 1 := by omega
            have hR := hx.out.2
            rw [scan_last (.inr ⟨h9, by omega⟩) hlt (by omega)] at hR
            have HX := Lib.hid hR
            have hor := or_shift hx0 hx.out.1 (show 0 ≤ (t[k].toNat : Int) % 128 by omega) (by omega) (.inr ⟨h9, by omega⟩)
            have hdec : decide ((1 : Int) < (t[k].toNat : Int)) = false := by simp; omega
            have HOR := Lib.hid hor
            clear hR h9 hnb hgt hor
            go_wp2_with fail
            go_step3
            refine ⟨⟨rfl, .inr (.inl ⟨rfl, k + 1, _, _, _, _, _, _, _, _, _, _, _, _, _, _, _, _, _, _, _, _, _, _, _, _, _, _, _, _, _, _, _, _, _, _, _, _, _, _, _, rfl, by omega, by omega, hb0, hb1, Lib.hid ⟨?_, by rw [HOR.out]; omega⟩⟩)⟩, by simp [mu, intOf]; omega⟩
            rw [← HX.out, HOR.out, ← HNB.out]
            exact last_same (by omega) (by omega)
        · have h10 : ((k : Int) + 1 == 10) = false := beq_eq_false_iff_ne.2 (by omega)
          have hor := or_shift hx0 hx.out.1 (show 0 ≤ (t[k].toNat : Int) % 128 by omega) (by omega) (.inl (by omega))
          have HOR := Lib.hid hor
          clear hor
          by_cases hs8 : (t[k].toNat : Int) < 128
          · have hR := hx.out.2
            rw [scan_last (.inl (by omega)) hlt (by omega)] at hR
            have HX := Lib.hid hR
            clear hR hnb
            go_wp2_with fail
            go_step3
            refine ⟨⟨rfl, .inr (.inl ⟨rfl, k + 1, _, _, _, _, _, _, _, _, _, _, _, _, _, _, _, _, _, _, _, _, _, _, _, _, _, _, _, _, _, _, _, _, _, _, _, _, _, _, _, rfl, by omega, by omega, hb0, hb1, Lib.hid ⟨?_, by rw [HOR.out]; omega⟩⟩)⟩, by simp [mu, intOf]; omega⟩
            rw [← HX.out, HOR.out, ← HNB.out]
            exact last_same (by omega) (by omega)
          · have hR := hx.out.2
            rw [scan_next (by omega) hlt (by omega)] at hR
            have hpn := pow_next (y := nb t k % 128) hx.out.1 (by omega)
            have HX := Lib.hid hR
            have HPN := Lib.hid hpn
            have hge : 128 ≤ (t[k].toNat : Int) := by omega
            clear hR hnb hs8 hpn
            go_wp2_with fail
            go_step3
            refine ⟨⟨rfl, .inl ⟨rfl, k + 1, _, _, _, _, _, _, _, _, _, _, _, _, _, _, _, _, _, _, _, _, _, _, _, _, _, _, _, _, _, _, _, _, _, _, _, _, _, _, _, rfl, by omega, by omega, by rw [HOR.out]; omega, Lib.hid ⟨?_, ?_⟩⟩⟩, by simp [mu, intOf]; omega⟩
            · rw [HOR.out]
              have e : ((t[k].toNat : Int) % 128).toNat = nb t k % 128 := by have := HNB.out; omega
              rw [e, Int.toNat_natCast]; exact HPN.out
            · rw [HOR.out]
              have e : ((t[k].toNat : Int) % 128).toNat = nb t k % 128 := by have := HNB.out; omega
              rw [e, Int.toNat_natCast]; exact HX.out
      · have he : ((k : Int) == (t.size : Int)) = true := beq_iff_eq.2 (by omega)
        have hR := hx.out.2
        rw [scan_end hk (by omega)] at hR
        have HX := Lib.hid hR
        clear hR
        go_wp2_with fail
        go_step3
        exact ⟨⟨rfl, .inr (.inr ⟨rfl, 4, _, _, _, _, _, _, _, _, _, _, _, _, _, _, _, _, _, _, _, _, _, _, _, _, _, _, _, _, _, _, _, _, _, _, _, _, _, _, _, _, rfl, Lib.hid ⟨HX.out, by decide⟩⟩)⟩, by simp [mu, intOf]; omega⟩
    · refine ⟨_, rfl, ?_⟩
      by_cases hz : y = 0
      · by_cases h1 : 1 < k
        · have hR := hx.out.1
          rw [if_pos ⟨hz, h1⟩] at hR
          have HX := Lib.hid hR
          have hyz : (y == 0) = true := beq_iff_eq.2 hz
          have h1i : (1 : Int) < (k : Int) := by omega
          clear hR hz
          go_wp2_with fail
          go_step3
          exact ⟨⟨rfl, .inr (.inr ⟨rfl, 3, _, _, _, _, _, _, _, _, _, _, _, _, _, _, _, _, _, _, _, _, _, _, _, _, _, _, _, _, _, _, _, _, _, _, _, _, _, _, _, _, rfl, Lib.hid ⟨HX.out, by decide⟩⟩)⟩, by simp [mu]⟩
        · have hR := hx.out.1
          rw [if_neg (by omega)] at hR
          have HX := Lib.hid hR
          have hyz : (y == 0) = true := beq_iff_eq.2 hz
          have h1d : decide ((1 : Int) < (k : Int)) = false := by simp; omega
          clear hR hz h1
          go_wp2_with fail
          simp only [jumps]
          go_ret3
          exact ⟨ret_res HX.out hx.out.2, rfl⟩
      · have hR := hx.out.1
        rw [if_neg (by omega)] at hR
        have HX := Lib.hid hR
        have hyz : (y == 0) = false := beq_eq_false_iff_ne.2 hz
        clear hR hz
        go_wp2_with fail
        simp only [jumps]
        go_ret3
        exact ⟨ret_res HX.out hx.out.2, rfl⟩
    · refine ⟨_, rfl, ?_⟩
      go_wp2_with fail
      simp only [jumps]
      go_ret3
      exact ⟨ret_err hx.out.1 hx.out.2, rfl⟩
end Go.Proofs.YtlncdkeooacebaaDoor.Bits
