/-
  Contracts: laws.heldNodeS, heldNode, heldNodeOut; of what was there nothing is changed. Conditions: marked nodes in memory; marks of at most 9000000.
-/
import Derived.Test.YtlncdkeooacebaaDoorRows
import Derived.Test.YtlncdkeooacebaaDoorNdK
namespace Go.Proofs.YtlncdkeooacebaaDoor.Rw
open Go.RowKit Decs
set_option linter.unusedVariables false
set_option maxRecDepth 100000

def HdAll (n : Nat) : Prop := ∀ (w : World) (A B : Nat) (c : Option Addr) (cap : Nat) (l : List NodeP) (k : Nat), NodesAt n w A B c l.length (mkL (mkN n) (cntN n) l k) → B ≤ w.heap.size → 1 ≤ k → k + sumOf (cntN n) l ≤ 9000000 →
    Calls Tryd.prog 87 #[.slice c l.length cap, .int .i64 k] w fun e w' => e = .returned (.int .i64 ((k + sumOf (cntN n) l : Nat) : Int)) ∧ Below w.heap.size w w'
theorem hdAll_zero : HdAll 0 := by
  intro w A B c cap l k hs hB h1 hk
  cases l with
  | nil =>
    clear hs
    go_enter Tryd.func87, Tryd.ntmps87
    go_wp2_with fail
    go_loopw [1, 5] (fun v i wr => v = .int .i64 k ∧ i = .int .i64 0 ∧ w = wr) (fun _ _ _ => 0)
    case atStart => exact ⟨rfl, rfl, rfl⟩
    case round =>
      obtain ⟨rfl, rfl, rfl⟩ := hrel
      go_wp2_with fail
      go_ret
      exact ⟨ret_i (by simp [sumOf]), Below.refl _ _⟩
  | cons x l =>
    exfalso
    obtain ⟨y, b, off, _, _, _, _, h⟩ := hs.at (i := 0) (by simp)
    exact h

set_option maxHeartbeats 4000000 in
theorem hdAll_succ (m : Nat) (IH : HdAll m) : HdAll (m + 1) := by
  intro w A B a cap l k hs hB h1 hk
  obtain ⟨len, hll⟩ : ∃ len, l.length = len := ⟨_, rfl⟩
  rw [hll] at hs ⊢
  obtain ⟨S, hS⟩ : ∃ S : Nat, sumOf (cntN (m + 1)) l = S := ⟨_, rfl⟩
  have HS0 := Lib.hid hS
  rw [hS] at hk ⊢
  have hlen := hs.2.1
  have HS := Lib.hid hs
  have HIH := Lib.hid IH
  clear hs IH hS
  go_enter Tryd.func87, Tryd.ntmps87
  go_wp2_with fail
  go_loopw [1, 5] (fun v i wr => ∃ (i' kk : Nat), i' ≤ len ∧ kk ≤ 9000000 ∧ 1 ≤ kk ∧ Hid (kk = k + (sumOf (cntN (m + 1)) l - sumOf (cntN (m + 1)) (l.drop i'))) ∧ v = .int .i64 kk ∧ i = .int .i64 i' ∧ Below w.heap.size w wr) (fun _ i _ => len - (intOf i).toNat)
  case atStart => exact ⟨0, k, by omega, by omega, h1, Lib.hid (by rw [List.drop_zero]; omega), rfl, rfl, Below.refl _ _⟩
  case round =>
    obtain ⟨i, kk, hi, hk9, hk1, hkk, rfl, rfl, hb⟩ := hrel
    have HB := Lib.hid hb
    by_cases hlt : i < len
    · have hli : (i : Int) < (len : Int) := by omega
      obtain ⟨x, hx⟩ : ∃ x, l[i]? = some x := ⟨l[i], List.getElem?_eq_getElem (by omega)⟩
      have hdn := sumOf_drop (f := cntN (m + 1)) hx
      have hle := sumOf_le (cntN (m + 1)) i l
      obtain ⟨y, b, off, hd, rfl, hAb, hbb, hok, a1, ca1, cm, ccm, hc, h2, h3⟩ := (HS.out.below (nodeLies (m + 1)) (Nat.le_refl _) (hb.mono hB)).at hlt
      have hy := mkL_at (f := mkN (m + 1)) (g := cntN (m + 1)) i l k hx
      rw [← hkk.out] at hy
      obtain rfl : y = mkN (m + 1) x kk := by rw [hy] at hd; exact (Option.some.inj hd).symm
      obtain ⟨kd, tx, ks, ns⟩ := x
      obtain ⟨SK, hSK⟩ : ∃ SK : Nat, sumOf (cntN m) ns = SK := ⟨_, rfl⟩
      have hnx : cntN (m + 1) ⟨kd, tx, ks, ns⟩ = 2 + ks.length + SK := by rw [← hSK]; rfl
      have hkn : kk + 2 + ks.length + SK = k + (sumOf (cntN (m + 1)) l - sumOf (cntN (m + 1)) (l.drop (i + 1))) := by have := hkk.out; omega
      have hkx : kk + 2 + ks.length + SK ≤ 9000000 := by have := hkk.out; have := HS0.out; omega
      simp only [mkN, NodeP.cells, textsMark_len, mkL_len] at hc h2 h3
      obtain ⟨c0, c1, c2, c3⟩ := nrow4 hc
      have h2' := h2.1
      have h3' := h3.1
      have CM : Hid (∀ w, Calls Tryd.prog 107 #[.int .i64 ((kk : Int) + 1)] w fun e w' => e = .returned (.string (mkT (kk + 1))) ∧ Below w.heap.size w w') := Lib.hid fun w => markText (kk + 1) (by omega) (by omega) w
      have CT : Hid (∀ w', Below wr.heap.size wr w' → Calls Tryd.prog 86 #[.slice a1 ks.length ca1, .int .i64 ((kk : Int) + 1 + 1)] w' fun e w'' => e = .returned (.int .i64 ((kk + 2 + ks.length : Nat) : Int)) ∧ Below w'.heap.size w' w'') := Lib.hid fun w' g => by
        have := heldStringS w' A B a1 ks.length ca1 ks (kk + 2) (h2'.below textLies (Nat.le_trans hB HB.out.size) g) (Nat.le_trans hB (Nat.le_trans HB.out.size g.size)) (by omega) (by omega)
        rwa [show ((kk + 2 : Nat) : Int) = (kk : Int) + 1 + 1 by omega] at this
      have CK : Hid (∀ w', Below wr.heap.size wr w' → Calls Tryd.prog 87 #[.slice cm ns.length ccm, .int .i64 ((kk + 2 + ks.length : Nat) : Int)] w' fun e w'' => e = .returned (.int .i64 ((kk + 2 + ks.length + SK : Nat) : Int)) ∧ Below w'.heap.size w' w'') := Lib.hid fun w' g => by
        have := HIH.out w' A B cm ccm ns (kk + 2 + ks.length) (h3'.below (nodeLies m) (Nat.le_trans hB HB.out.size) g) (Nat.le_trans hB (Nat.le_trans HB.out.size g.size)) (by omega) (by rw [hSK]; omega)
        rwa [hSK] at this
      obtain ⟨k2, hk2⟩ : ∃ k2 : Nat, kk + 2 + ks.length = k2 := ⟨_, rfl⟩
      obtain ⟨k3, hk3⟩ : ∃ k3 : Nat, k2 + SK = k3 := ⟨_, rfl⟩
      rw [hk2] at CT CK
      rw [hk3] at CK
      obtain ⟨K2, hK2⟩ : ∃ K2 : Int, (k2 : Int) = K2 := ⟨_, rfl⟩
      obtain ⟨K3, hK3⟩ : ∃ K3 : Int, (k3 : Int) = K3 := ⟨_, rfl⟩
      have HK3 := Lib.hid hK3
      rw [hK2] at CT CK
      rw [hK3] at CK
      have hbw : b < wr.heap.size := by have := HB.out.size; omega
      have x1 : wr.drew.cell? ⟨b, off + i * 4 + 1, none⟩ = some (.string (mkT (kk + 1))) := c1
      have HC2 : Hid (wr.cell? ⟨b, off + i * 4 + 2, none⟩ = some (.slice a1 ks.length ca1)) := Lib.hid c2
      have HC3 : Hid (wr.cell? ⟨b, off + i * 4 + 3, none⟩ = some (.slice cm ns.length ccm)) := Lib.hid c3
      have hbd : b < wr.drew.heap.size := hbw
      have HBd := Lib.hid HB.out.drew
      have hkk5 : (kk : Int) + 1 + 1 ≤ 9000000 := by omega
      have hk2n : (0 : Int) ≤ K2 := by omega
      have hk3n : (0 : Int) ≤ K3 := by omega
      have HKN : Hid (k3 = k + (sumOf (cntN (m + 1)) l - sumOf (cntN (m + 1)) (l.drop (i + 1)))) := Lib.hid (by omega)
      have hk39 : k3 ≤ 9000000 := by omega
      have hk31 : 1 ≤ k3 := by omega
      clear hd hb hlt hok hc c2 c3 h2 h3 h2' h3' hy hx hdn hle hnx hkn hkx hk2 hk3 hK2 hK3 hSK
      go_wp2_with fail
      go_region_held3 (fun w' => w'.cell? ⟨b, off + i * 4 + 1, none⟩ = some (.string (mkT (kk + 1)))) (go_keep)
        (first | (go_at_call 107; refine (CM.out _).mono ?_; rintro e w2 ⟨rfl, hb2⟩; have d0 := kcell hb2 hbd x1))
      all_goals
        have HW2 := Lib.hid ((Below.refl wr.heap.size wr).drew.trans hb2)
        have HB2 := Lib.hid (HBd.out.trans (hb2.mono HBd.out.size))
        have d2 := kcell HW2.out hbw HC2.out
        have d3 := kcell HW2.out hbw HC3.out
        clear hb2 c0 c1 x1 d0
        go_wp2_with fail
        refine (CT.out _ HW2.out).mono ?_
        rintro e w3 ⟨rfl, hb3⟩
        have HW3 := Lib.hid (HW2.out.trans (hb3.mono HW2.out.size))
        have HB3 := Lib.hid (HB2.out.trans (hb3.mono HB2.out.size))
        have e4 := kcell HW3.out hbw HC3.out
        clear hb3 d2 d3
        have HH9 := Lib.hid (And.intro hk39 hk31)
        have HHL := Lib.hid hll
        clear hkk5 hk31 hk39 hk9 hk1 hll hAb hbb hk h1
        go_wp2_with fail
        refine (CK.out _ HW3.out).mono ?_
        rintro e w4 ⟨rfl, hb4⟩
        have HB4 := Lib.hid (HB3.out.trans (hb4.mono HB3.out.size))
        clear hb4 e4
        go_wp2_with fail
        go_roundw
        case rel => exact ⟨i + 1, k3, by omega, HH9.out.1, HH9.out.2, HKN, by rw [HK3.out], by go_num, HB4.out⟩
        case measure => simp [intOf]; omega
    · obtain rfl : i = len := by omega
      have hfin : Hid (kk = k + S) := Lib.hid (by have := hkk.out; have h5 := HS0.out; rw [← hll, List.drop_length] at this; simpa [sumOf, h5] using this)
      clear hlt hb
      go_wp2_with fail
      go_ret
      exact ⟨ret_i (by rw [hfin.out]), HB.out⟩
theorem hdAll : ∀ n, HdAll n
  | 0 => hdAll_zero
  | n + 1 => hdAll_succ n (hdAll n)
end Go.Proofs.YtlncdkeooacebaaDoor.Rw
