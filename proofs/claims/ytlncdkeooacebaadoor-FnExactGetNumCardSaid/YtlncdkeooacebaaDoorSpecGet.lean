/-
  Contract: spec.GetNum answers the struct numV of getN; of what was there nothing is changed. Conditions: a text of at most maxLen bytes, a place of int64.
-/
import Derived.Test.YtlncdkeooacebaaDoorRows
import Derived.Test.YtlncdkeooacebaaDoorGet
namespace Go.Proofs.YtlncdkeooacebaaDoor.SpecGets
open Go.RowKit NumMath Bits ErrAs Texts Gets
set_option linter.unusedVariables false

theorem readN_scan {s : ByteArray} {p : Nat} {R : Nat × Nat × Int} (h : scan (s.extract p s.size) 10 0 0 = R) :
    readN s p = if R.2.2 = 0 then (unz R.1, (p : Int) + (R.2.1 : Int), 0) else (0, 0, R.2.2) := by
  by_cases hf : (s.size : Int) < p
  · have h0 : scan (s.extract p s.size) 10 0 0 = (0, 0, 4) := scan_end (k := 0) (by omega) (by simp; omega)
    rw [h0] at h; subst h
    rw [readN_far (by omega) hf]; rfl
  · rw [readN, if_neg (by omega), if_neg (by omega), Int.toNat_natCast, h]
theorem trip {a b c d : Int} (h : a = b) (h' : c = d) : ((a, c, (0 : Int)) : Int × Int × Int) = (b, d, 0) := by rw [h, h']
theorem sum_shift {x : Int} {y k : Nat} (hx : 0 ≤ x) (hlt : x.toNat < 128 ^ k) (hk : k < 9 ∨ k = 9 ∧ y ≤ 1) :
    IntKind.u64.wrap (x + IntKind.u64.wrap (((y : Nat) : Int) % 128 * 2 ^ (7 * k))) = ((x.toNat + y % 128 * 128 ^ k : Nat) : Int) := by
  obtain ⟨m, rfl⟩ := Int.eq_ofNat_of_zero_le hx
  have e1 : (((y : Nat) : Int) % 128 * 2 ^ (7 * k)) = ((y % 128 * 128 ^ k : Nat) : Int) := by
    rw [Int.natCast_mul, Int.natCast_pow, Int.pow_mul]
    congr 1
  simp only [Int.toNat_natCast] at hlt ⊢
  have hf := shift_fit (k := k) (y := y % 128) (by omega) (by omega)
  have hs : m + y % 128 * 128 ^ k < 18446744073709551616 := by
    rcases hk with hk | ⟨rfl, hy⟩
    · have h8 := pow_next (y := y % 128) hlt (by omega)
      have h6 := Nat.pow_le_pow_right (n := 128) (by omega) (show k + 1 ≤ 9 by omega)
      have e : (128 : Nat) ^ 9 = 9223372036854775808 := by decide
      omega
    · have e : (128 : Nat) ^ 9 = 9223372036854775808 := by decide
      have h2 : y % 128 * 128 ^ 9 ≤ 1 * 128 ^ 9 := Nat.mul_le_mul_right _ (by omega)
      omega
  rw [e1, IntKind.wrap_u64, IntKind.wrap_u64]
  omega
theorem ext_size (s : ByteArray) (p : Nat) : (s.extract p s.size).size = s.size - p := by simp

set_option maxHeartbeats 4000000 in
set_option maxRecDepth 100000 in
theorem specGetNum (s : ByteArray) (a : Int) (hs : s.size ≤ maxLen) (h0 : -9223372036854775808 ≤ a) (h1 : a ≤ 9223372036854775807) (w : World) :
    Calls Tryd.prog 16 #[.string s, .int .i64 a] w fun e w' => e = .returned (numV (getN s a)) ∧ Below w.heap.size w w' := by
  have hs' := hs
  unfold maxLen at hs'
  by_cases h8 : 8000 < s.size
  · have h8i : (8000 : Int) < (s.size : Int) := by omega
    have hv : getN s a = (0, 0, 2) := by rw [getN, if_pos h8]
    have HV := Lib.hid hv
    clear h8 hv
    go_enter Tryd.func16, Tryd.ntmps16
    go_wp2_with fail
    exact bodyPost_ret (v := numV (0, 0, 2)) (by simp [results, Tryd.results16, numV, go_sem]) rfl ⟨ret_eq (by rw [HV.out]), (Below.refl _ _).alloc (Nat.le_refl _) _⟩
  have h8' : s.size ≤ 8000 := by omega
  have h8i : (s.size : Int) ≤ 8000 := by omega
  have hv : getN s a = readN s a := by rw [getN, if_neg h8]
  clear h8 hs hs'
  by_cases hn : a < 0
  · have HV := Lib.hid (hv.trans (readN_neg hn))
    clear hv
    go_enter Tryd.func16, Tryd.ntmps16
    go_wp2_with fail
    exact bodyPost_ret (v := numV (0, 0, 1)) (by simp [results, Tryd.results16, numV, go_sem]) rfl ⟨ret_eq (by rw [HV.out]), (Below.refl _ _).alloc (Nat.le_refl _) _⟩
  have hn' : 0 ≤ a := by omega
  clear hn
  obtain ⟨p, rfl⟩ := Int.eq_ofNat_of_zero_le hn'
  obtain ⟨t, ht⟩ : ∃ t, t = s.extract p s.size := ⟨_, rfl⟩
  obtain ⟨R, hR⟩ : ∃ R, scan t 10 0 0 = R := ⟨_, rfl⟩
  have HV := Lib.hid (hv.trans (readN_scan (R := R) (by rw [← ht]; exact hR)))
  have HR := Lib.hid hR
  have HT : Hid (t.size = s.size - p ∧ ∀ k, nb t k = nb s (p + k)) := Lib.hid ⟨by rw [ht]; exact ext_size s p, fun k => by rw [ht]; exact nb_extract s p k⟩
  clear hv hR ht
  go_enter Tryd.func16, Tryd.ntmps16
  go_wp2_with fail
  go_loop [5, 6] (fun u i => ∃ k : Nat, ∃ x : Int, k ≤ 9 ∧ 0 ≤ x ∧ Hid (x.toNat < 128 ^ k ∧ scan t (10 - k) k x.toNat = R) ∧ u = .int .u64 x ∧ i = .int .i64 k) (fun _ i => 10 - (intOf i).toNat)
  case atStart => exact ⟨0, 0, by omega, Int.le_refl _, Lib.hid ⟨by decide, HR.out⟩, rfl, rfl⟩
  case round =>
    obtain ⟨k, x, hk, hx0, hx, rfl, rfl⟩ := hrel
    by_cases hlt : p + k < s.size
    · have hlti : (p : Int) < (s.size : Int) - (k : Int) := by omega
      have hkt : k < t.size := by have := HT.out.1; omega
      have hb0 : (0 : Int) ≤ (s[p + k].toNat : Int) := by omega
      have hb1 : (s[p + k].toNat : Int) ≤ 255 := by have := s[p + k].toNat_lt; omega
      have hnb : s[p + k].toNat = nb t k := by rw [HT.out.2]; exact nb_at hlt
      have hnl := nb_lt t k
      by_cases h9 : k = 9
      · have hk9 : ((k : Int) == 9) = true := beq_iff_eq.2 (by omega)
        by_cases hgt : 1 < nb t k
        · have hgti : (1 : Int) < ((nb t k : Nat) : Int) := by omega
          have hR := hx.out.2
          rw [scan_big h9 hkt hgt] at hR
          have HV2 : Hid (getN s p = (0, 0, 3)) := Lib.hid (by rw [HV.out, ← hR]; rfl)
          clear hR hgt h9
          go_wp2_with fail
          exact bodyPost_ret (v := numV (0, 0, 3)) (by simp [results, Tryd.results16, numV, go_sem]) rfl ⟨ret_eq (by rw [HV2.out]), (Below.refl _ _).alloc (Nat.le_refl _) _⟩
        · have hgtd : decide ((1 : Int) < ((nb t k : Nat) : Int)) = false := by simp; omega
          have hkk : k < 9 ∨ k = 9 ∧ nb t k ≤ 1 := .inr ⟨h9, by omega⟩
          have hs8 : nb t k < 128 := by omega
          clear hgt h9
          have hR := hx.out.2
          rw [scan_last hkk hkt hs8] at hR
          have hsum := sum_shift hx0 hx.out.1 hkk
          have hsl := scan_lt t (10 - k) k x.toNat (by omega) hx.out.1
          rw [hx.out.2] at hsl
          have hs8i : ((nb t k : Nat) : Int) < 128 := by omega
          by_cases hz : nb t k = 0
          · have hz1 : (((nb t k : Nat) : Int) == 0) = true := beq_iff_eq.2 (by omega)
            by_cases hk0 : 0 < k
            · rw [if_pos ⟨hz, hk0⟩] at hR
              have HV2 : Hid (getN s p = (0, 0, 3)) := Lib.hid (by rw [HV.out, ← hR]; rfl)
              have hk0i : (0 : Int) < (k : Int) := by omega
              clear hR hz hsum hsl hs8 hkk
              go_wp2_with fail
              exact bodyPost_ret (v := numV (0, 0, 3)) (by simp [results, Tryd.results16, numV, go_sem]) rfl ⟨ret_eq (by rw [HV2.out]), (Below.refl _ _).alloc (Nat.le_refl _) _⟩
            · rw [if_neg (by omega)] at hR
              have hk0d : decide (0 < k) = false := by simp; omega
              obtain ⟨V, hV⟩ : ∃ V, V = x.toNat + nb t k % 128 * 128 ^ k := ⟨_, rfl⟩
              rw [← hV] at hsum
              have HX : Hid ((V, k + 1, (0 : Int)) = R) := Lib.hid (by rw [← hR, hV, Nat.mod_eq_of_lt hs8])
              have hV2 : (V : Int) / 2 ≤ 9223372036854775807 := by have := hsl.1; rw [← HX.out] at this; have h' : V < 18446744073709551616 := this; omega
              clear hR hz hsl hs8 hkk hV hk0
              by_cases hodd : V % 2 = 1
              · have hob : (((V : Nat) : Int) % 2 == 1) = true := beq_iff_eq.2 (by omega)
                have HV2 : Hid (getN s p = (-((V : Int) / 2) - 1, (p : Int) + (k : Int) + 1, 0)) := Lib.hid (by
                  rw [HV.out, ← HX.out, if_pos rfl, unz, if_pos hodd]
                  exact trip (by (try dsimp only); omega) (by (try dsimp only); omega))
                clear hodd
                go_wp2_with fail
                exact bodyPost_ret (v := numV (-((V : Int) / 2) - 1, (p : Int) + (k : Int) + 1, 0)) (by simp [results, Tryd.results16, numV, go_sem]) rfl ⟨ret_eq (by rw [HV2.out]), (Below.refl _ _).alloc (Nat.le_refl _) _⟩
              · have hob : (((V : Nat) : Int) % 2 == 1) = false := beq_eq_false_iff_ne.2 (by omega)
                have HV2 : Hid (getN s p = ((V : Int) / 2, (p : Int) + (k : Int) + 1, 0)) := Lib.hid (by
                  rw [HV.out, ← HX.out, if_pos rfl, unz, if_neg hodd]
                  exact trip (by (try dsimp only); omega) (by (try dsimp only); omega))
                clear hodd
                go_wp2_with fail
                exact bodyPost_ret (v := numV ((V : Int) / 2, (p : Int) + (k : Int) + 1, 0)) (by simp [results, Tryd.results16, numV, go_sem]) rfl ⟨ret_eq (by rw [HV2.out]), (Below.refl _ _).alloc (Nat.le_refl _) _⟩
          · have hz1 : (((nb t k : Nat) : Int) == 0) = false := beq_eq_false_iff_ne.2 (by omega)
            rw [if_neg (by omega)] at hR
            obtain ⟨V, hV⟩ : ∃ V, V = x.toNat + nb t k % 128 * 128 ^ k := ⟨_, rfl⟩
            rw [← hV] at hsum
            have HX : Hid ((V, k + 1, (0 : Int)) = R) := Lib.hid (by rw [← hR, hV, Nat.mod_eq_of_lt hs8])
            have hV2 : (V : Int) / 2 ≤ 9223372036854775807 := by have := hsl.1; rw [← HX.out] at this; have h' : V < 18446744073709551616 := this; omega
            clear hR hz hsl hs8 hkk hV
            by_cases hodd : V % 2 = 1
            · have hob : (((V : Nat) : Int) % 2 == 1) = true := beq_iff_eq.2 (by omega)
              have HV2 : Hid (getN s p = (-((V : Int) / 2) - 1, (p : Int) + (k : Int) + 1, 0)) := Lib.hid (by
                rw [HV.out, ← HX.out, if_pos rfl, unz, if_pos hodd]
                exact trip (by (try dsimp only); omega) (by (try dsimp only); omega))
              clear hodd
              go_wp2_with fail
              exact bodyPost_ret (v := numV (-((V : Int) / 2) - 1, (p : Int) + (k : Int) + 1, 0)) (by simp [results, Tryd.results16, numV, go_sem]) rfl ⟨ret_eq (by rw [HV2.out]), (Below.refl _ _).alloc (Nat.le_refl _) _⟩
            · have hob : (((V : Nat) : Int) % 2 == 1) = false := beq_eq_false_iff_ne.2 (by omega)
              have HV2 : Hid (getN s p = ((V : Int) / 2, (p : Int) + (k : Int) + 1, 0)) := Lib.hid (by
                rw [HV.out, ← HX.out, if_pos rfl, unz, if_neg hodd]
                exact trip (by (try dsimp only); omega) (by (try dsimp only); omega))
              clear hodd
              go_wp2_with fail
              exact bodyPost_ret (v := numV ((V : Int) / 2, (p : Int) + (k : Int) + 1, 0)) (by simp [results, Tryd.results16, numV, go_sem]) rfl ⟨ret_eq (by rw [HV2.out]), (Below.refl _ _).alloc (Nat.le_refl _) _⟩
      · have hk9 : ((k : Int) == 9) = false := beq_eq_false_iff_ne.2 (by omega)
        by_cases hs8 : nb t k < 128
        · have hkk : k < 9 ∨ k = 9 ∧ nb t k ≤ 1 := .inl (by omega)
          clear h9
          have hR := hx.out.2
          rw [scan_last hkk hkt hs8] at hR
          have hsum := sum_shift hx0 hx.out.1 hkk
          have hsl := scan_lt t (10 - k) k x.toNat (by omega) hx.out.1
          rw [hx.out.2] at hsl
          have hs8i : ((nb t k : Nat) : Int) < 128 := by omega
          by_cases hz : nb t k = 0
          · have hz1 : (((nb t k : Nat) : Int) == 0) = true := beq_iff_eq.2 (by omega)
            by_cases hk0 : 0 < k
            · rw [if_pos ⟨hz, hk0⟩] at hR
              have HV2 : Hid (getN s p = (0, 0, 3)) := Lib.hid (by rw [HV.out, ← hR]; rfl)
              have hk0i : (0 : Int) < (k : Int) := by omega
              clear hR hz hsum hsl hs8 hkk
              go_wp2_with fail
              exact bodyPost_ret (v := numV (0, 0, 3)) (by simp [results, Tryd.results16, numV, go_sem]) rfl ⟨ret_eq (by rw [HV2.out]), (Below.refl _ _).alloc (Nat.le_refl _) _⟩
            · rw [if_neg (by omega)] at hR
              have hk0d : decide (0 < k) = false := by simp; omega
              obtain ⟨V, hV⟩ : ∃ V, V = x.toNat + nb t k % 128 * 128 ^ k := ⟨_, rfl⟩
              rw [← hV] at hsum
              have HX : Hid ((V, k + 1, (0 : Int)) = R) := Lib.hid (by rw [← hR, hV, Nat.mod_eq_of_lt hs8])
              have hV2 : (V : Int) / 2 ≤ 9223372036854775807 := by have := hsl.1; rw [← HX.out] at this; have h' : V < 18446744073709551616 := this; omega
              clear hR hz hsl hs8 hkk hV hk0
              by_cases hodd : V % 2 = 1
              · have hob : (((V : Nat) : Int) % 2 == 1) = true := beq_iff_eq.2 (by omega)
                have HV2 : Hid (getN s p = (-((V : Int) / 2) - 1, (p : Int) + (k : Int) + 1, 0)) := Lib.hid (by
                  rw [HV.out, ← HX.out, if_pos rfl, unz, if_pos hodd]
                  exact trip (by (try dsimp only); omega) (by (try dsimp only); omega))
                clear hodd
                go_wp2_with fail
                exact bodyPost_ret (v := numV (-((V : Int) / 2) - 1, (p : Int) + (k : Int) + 1, 0)) (by simp [results, Tryd.results16, numV, go_sem]) rfl ⟨ret_eq (by rw [HV2.out]), (Below.refl _ _).alloc (Nat.le_refl _) _⟩
              · have hob : (((V : Nat) : Int) % 2 == 1) = false := beq_eq_false_iff_ne.2 (by omega)
                have HV2 : Hid (getN s p = ((V : Int) / 2, (p : Int) + (k : Int) + 1, 0)) := Lib.hid (by
                  rw [HV.out, ← HX.out, if_pos rfl, unz, if_neg hodd]
                  exact trip (by (try dsimp only); omega) (by (try dsimp only); omega))
                clear hodd
                go_wp2_with fail
                exact bodyPost_ret (v := numV ((V : Int) / 2, (p : Int) + (k : Int) + 1, 0)) (by simp [results, Tryd.results16, numV, go_sem]) rfl ⟨ret_eq (by rw [HV2.out]), (Below.refl _ _).alloc (Nat.le_refl _) _⟩
          · have hz1 : (((nb t k : Nat) : Int) == 0) = false := beq_eq_false_iff_ne.2 (by omega)
            rw [if_neg (by omega)] at hR
            obtain ⟨V, hV⟩ : ∃ V, V = x.toNat + nb t k % 128 * 128 ^ k := ⟨_, rfl⟩
            rw [← hV] at hsum
            have HX : Hid ((V, k + 1, (0 : Int)) = R) := Lib.hid (by rw [← hR, hV, Nat.mod_eq_of_lt hs8])
            have hV2 : (V : Int) / 2 ≤ 9223372036854775807 := by have := hsl.1; rw [← HX.out] at this; have h' : V < 18446744073709551616 := this; omega
            clear hR hz hsl hs8 hkk hV
            by_cases hodd : V % 2 = 1
            · have hob : (((V : Nat) : Int) % 2 == 1) = true := beq_iff_eq.2 (by omega)
              have HV2 : Hid (getN s p = (-((V : Int) / 2) - 1, (p : Int) + (k : Int) + 1, 0)) := Lib.hid (by
                rw [HV.out, ← HX.out, if_pos rfl, unz, if_pos hodd]
                exact trip (by (try dsimp only); omega) (by (try dsimp only); omega))
              clear hodd
              go_wp2_with fail
              exact bodyPost_ret (v := numV (-((V : Int) / 2) - 1, (p : Int) + (k : Int) + 1, 0)) (by simp [results, Tryd.results16, numV, go_sem]) rfl ⟨ret_eq (by rw [HV2.out]), (Below.refl _ _).alloc (Nat.le_refl _) _⟩
            · have hob : (((V : Nat) : Int) % 2 == 1) = false := beq_eq_false_iff_ne.2 (by omega)
              have HV2 : Hid (getN s p = ((V : Int) / 2, (p : Int) + (k : Int) + 1, 0)) := Lib.hid (by
                rw [HV.out, ← HX.out, if_pos rfl, unz, if_neg hodd]
                exact trip (by (try dsimp only); omega) (by (try dsimp only); omega))
              clear hodd
              go_wp2_with fail
              exact bodyPost_ret (v := numV ((V : Int) / 2, (p : Int) + (k : Int) + 1, 0)) (by simp [results, Tryd.results16, numV, go_sem]) rfl ⟨ret_eq (by rw [HV2.out]), (Below.refl _ _).alloc (Nat.le_refl _) _⟩
        · have hR := hx.out.2
          rw [scan_next (by omega) hkt (by omega)] at hR
          have hsum := sum_shift (y := nb t k) hx0 hx.out.1 (.inl (by omega : k < 9))
          have hpn := pow_next (y := nb t k % 128) hx.out.1 (by omega)
          obtain ⟨V, hV⟩ : ∃ V, V = x.toNat + nb t k % 128 * 128 ^ k := ⟨_, rfl⟩
          rw [← hV] at hsum hR hpn
          have HX := Lib.hid (And.intro hpn hR)
          have hge : (128 : Int) ≤ ((nb t k : Nat) : Int) := by omega
          have hk8 : k ≤ 8 := by omega
          clear hR hs8 hV hpn h9
          go_wp2_with fail
          go_round
          case rel => exact ⟨k + 1, _, by omega, by omega, Lib.hid ⟨by rw [Int.toNat_natCast]; exact HX.out.1, by rw [Int.toNat_natCast]; exact HX.out.2⟩, rfl, by go_num⟩
          case measure => simp [intOf]; omega
    · have hR := hx.out.2
      rw [scan_end hk (by have := HT.out.1; omega)] at hR
      have hge : (s.size : Int) - (k : Int) ≤ (p : Int) := by omega
      have HV2 : Hid (getN s p = (0, 0, 4)) := Lib.hid (by rw [HV.out, ← hR]; rfl)
      clear hR
      go_wp2_with fail
      exact bodyPost_ret (v := numV (0, 0, 4)) (by simp [results, Tryd.results16, numV, go_sem]) rfl ⟨ret_eq (by rw [HV2.out]), (Below.refl _ _).alloc (Nat.le_refl _) _⟩
end Go.Proofs.YtlncdkeooacebaaDoor.SpecGets
