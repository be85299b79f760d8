/-
  Contracts: laws.markNodeS, markNode, markNodeOut; of what was there nothing else is changed. Conditions: each list in blocks of its own, marks from 1 to 9 000 000.
-/
import Derived.Test.YtlncdkeooacebaaDoorRows
import Derived.Test.YtlncdkeooacebaaDoorNdK
namespace Go.Proofs.YtlncdkeooacebaaDoor.Rw
open Go.RowKit Decs
set_option linter.unusedVariables false
set_option maxRecDepth 100000

/-- What laws.markNodeS does of nodes no deeper than n. -/
def MkAll (n : Nat) : Prop := ∀ (w : World) (F : List Nat) (c : Option Addr) (cap : Nat) (l : List NodeP) (k : Nat), RwF (NdF n) w F c l → F.Nodup → (∀ b ∈ F, b < w.heap.size) → l.length ≤ 1048576 → 1 ≤ k → k + sumOf (cntN n) l ≤ 9000000 →
    Calls Tryd.prog 85 #[.slice c l.length cap, .int .i64 k] w fun e w' => e = .returned (.int .i64 ((k + sumOf (cntN n) l : Nat) : Int)) ∧ RwF (NdF n) w' F c (mkL (mkN n) (cntN n) l k) ∧ Chg F w w'

theorem mkAll_nil (n : Nat) (w : World) (F : List Nat) (c : Option Addr) (cap : Nat) (k : Nat) (hs : RwF (NdF n) w F c []) :
    Calls Tryd.prog 85 #[.slice c ([] : List NodeP).length cap, .int .i64 k] w fun e w' => e = .returned (.int .i64 ((k + sumOf (cntN n) [] : Nat) : Int)) ∧ RwF (NdF n) w' F c (mkL (mkN n) (cntN n) [] k) ∧ Chg F w w' := by
  have HS := Lib.hid hs
  clear hs
  go_enter Tryd.func85, Tryd.ntmps85
  go_wp2_with fail
  go_loopw [1, 5] (fun v i wr => v = .int .i64 k ∧ i = .int .i64 0 ∧ w = wr) (fun _ _ _ => 0)
  case atStart => exact ⟨rfl, rfl, rfl⟩
  case round =>
    obtain ⟨rfl, rfl, rfl⟩ := hrel
    go_wp2_with fail
    go_ret
    exact ⟨ret_i (by simp [sumOf]), HS.out, Chg.refl _ _⟩

theorem mkAll_zero : MkAll 0 := by
  intro w F c cap l k hs hnd hF hl h1 hk
  cases l with
  | nil => exact mkAll_nil 0 w F c cap k hs
  | cons x l =>
    exfalso
    rcases hs with ⟨h, _⟩ | ⟨b, off, G, _, _, _, G1, G2, _, h, _⟩
    · cases h
    · exact h

set_option maxHeartbeats 4000000 in
theorem mkAll_succ (m : Nat) (IH : MkAll m) : MkAll (m + 1) := by
  intro w F c0 cap l k hs hnd hF hlen h1 hk
  rcases hs with ⟨rfl, rfl⟩ | ⟨b, off, G, rfl, rfl, hfree, hl⟩
  · exact mkAll_nil _ w _ _ cap k (.inl ⟨rfl, rfl⟩)
  obtain ⟨S, hS⟩ : ∃ S : Nat, sumOf (cntN (m + 1)) l = S := ⟨_, rfl⟩
  have HS0 := Lib.hid hS
  rw [hS] at hk ⊢
  have HIH := Lib.hid IH
  have HL := Lib.hid hl
  have HF0 := Lib.hid hfree
  have HND := Lib.hid hnd
  have HLT := Lib.hid hF
  clear hl hfree hnd hF hS IH
  go_enter Tryd.func85, Tryd.ntmps85
  go_wp2_with fail
  go_loopw [1, 5] (fun v i wr => ∃ (i' kk : Nat), i' ≤ l.length ∧ kk ≤ 9000000 ∧ Hid (kk = k + (sumOf (cntN (m + 1)) l - sumOf (cntN (m + 1)) (l.drop i'))) ∧ v = .int .i64 kk ∧ i = .int .i64 i' ∧ Hid (∃ G1 G2, G = G1 ++ G2 ∧ LsF (NdF (m + 1)) wr G1 b off ((mkL (mkN (m + 1)) (cntN (m + 1)) l k).take i') ∧ LsF (NdF (m + 1)) wr G2 b (off + i' * 4) (l.drop i')) ∧ Hid (Free wr b) ∧ Hid (Chg (b :: G) w wr)) (fun _ i _ => l.length - (intOf i).toNat)
  case atStart => exact ⟨0, k, by omega, by omega, Lib.hid (by rw [List.drop_zero]; omega), rfl, rfl, Lib.hid ⟨[], G, rfl, by rw [List.take_zero]; rfl, by rw [List.drop_zero, Nat.zero_mul, Nat.add_zero]; exact HL.out⟩, HF0, Lib.hid (Chg.refl _ _)⟩
  case round =>
    obtain ⟨i, kk, hi, hk9, hkk, rfl, rfl, HP, HFR, HW⟩ := hrel
    by_cases hlt : i < l.length
    · have hli : (i : Int) < (l.length : Int) := by omega
      obtain ⟨x, hd⟩ : ∃ x, l[i]? = some x := ⟨l[i], List.getElem?_eq_getElem hlt⟩
      have hst := Lib.hid (sumOf_drop (f := cntN (m + 1)) hd)
      have hdl := Lib.hid (sumOf_le (cntN (m + 1)) i l)
      have hmt := Lib.hid (mkL_at (f := mkN (m + 1)) (g := cntN (m + 1)) i l k hd)
      have hdc : l.drop i = x :: l.drop (i + 1) := by
        obtain ⟨hl, e⟩ := List.getElem?_eq_some_iff.1 hd
        rw [List.drop_eq_getElem_cons hl, e]
      obtain ⟨G1, G2, hG, hpre, hpo⟩ := HP.out
      rw [hdc] at hpo
      obtain ⟨Gx, G3, rfl, ⟨a, ca, c, cc, hrow, hok, hka, hkc, hk1, hk2, F1, F2, rfl, htx, hrw⟩, hpost⟩ := hpo
      have hcx : cntN (m + 1) x = 2 + x.keys.length + sumOf (cntN m) x.kids := rfl
      have hnx : mkN (m + 1) x kk = ⟨(kk : Int), mkT (kk + 1), textsMark x.keys (kk + 2), mkL (mkN m) (cntN m) x.kids (kk + 2 + x.keys.length)⟩ := rfl
      obtain ⟨kd, tx, ks, ns⟩ := x
      simp only [NodeP.cells] at hrow hka hkc hk1 hk2 htx hrw hcx hnx
      obtain ⟨SK, hSK⟩ : ∃ SK : Nat, sumOf (cntN m) ns = SK := ⟨_, rfl⟩
      rw [hSK] at hcx
      have hkk2 : kk + 2 + ks.length + SK ≤ 9000000 := by
        have e1 := hkk.out; have e2 := hst.out; have e3 := hdl.out; have e4 := HS0.out
        omega
      have HSK := Lib.hid hSK
      -- disjointness
      have hnd := HND.out
      rw [hG] at hnd
      have hbG : b ∉ G1 ++ (F1 ++ F2 ++ G3) := (List.nodup_cons.1 hnd).1
      have hnG := (List.nodup_cons.1 hnd).2
      obtain ⟨_, hn2, hd12⟩ := List.nodup_append.1 hnG
      obtain ⟨hnx2, hn3, hdx3⟩ := List.nodup_append.1 hn2
      obtain ⟨hnF1, hnF2, hdF⟩ := List.nodup_append.1 hnx2
      have HD1x : Hid (∀ q ∈ G1, q ∉ F1 ++ F2) := Lib.hid fun q hq hm => hd12 q hq q (List.mem_append_left _ hm) rfl
      have HD3x : Hid (∀ q ∈ G3, q ∉ F1 ++ F2) := Lib.hid fun q hq hm => hdx3 q hm q hq rfl
      have HD12 : Hid (∀ q ∈ F2, q ∉ F1) := Lib.hid fun q hq hm => hdF q hm q hq rfl
      have HD21 : Hid (∀ q ∈ F1, q ∉ F2) := Lib.hid fun q hq hm => hdF q hq q hm rfl
      have HBG : Hid (∀ q ∈ G1 ++ (F1 ++ F2 ++ G3), q ≠ b) := Lib.hid fun q hq e => hbG (e ▸ hq)
      have HN2 := Lib.hid hnF2
      have HGL : Hid (∀ q ∈ G1 ++ (F1 ++ F2 ++ G3), q < wr.heap.size) := Lib.hid fun q hq => Nat.lt_of_lt_of_le (HLT.out q (by rw [hG]; exact List.mem_cons_of_mem _ hq)) HW.out.size
      have HPRE := Lib.hid hpre
      have HPOST := Lib.hid hpost
      have HTX := Lib.hid htx
      have HRW := Lib.hid hrw
      have R0 := Lib.hid hrow
      have HG := Lib.hid hG
      have HKS := Lib.hid (And.intro hka (And.intro hkc (And.intro hk1 hk2)))
      have HNX := Lib.hid hnx
      have CM1 : Hid (∀ w, Calls Tryd.prog 107 #[.int .i64 ((kk : Int) + 1)] w fun e w' => e = .returned (.string (mkT (kk + 1))) ∧ Below w.heap.size w w') := Lib.hid fun w => markText (kk + 1) (by omega) (by omega) w
      have CS : Hid (∀ w, TxF w F1 a ks → (∀ c ∈ F1, c < w.heap.size) → Calls Tryd.prog 84 #[.slice a ks.length ca, .int .i64 ((kk : Int) + 1 + 1)] w fun e w' => e = .returned (.int .i64 ((kk + 2 + ks.length : Nat) : Int)) ∧ TxF w' F1 a (textsMark ks (kk + 2)) ∧ Chg F1 w w') := Lib.hid fun w h1 h2 => markTxF h1 hk1 ca (kk + 2) h2 (by omega) (by omega)
      have CK : Hid (∀ w, RwF (NdF m) w F2 c ns → (∀ c ∈ F2, c < w.heap.size) → Calls Tryd.prog 85 #[.slice c ns.length cc, .int .i64 ((kk + 2 + ks.length : Nat) : Int)] w fun e w' => e = .returned (.int .i64 ((kk + 2 + ks.length + SK : Nat) : Int)) ∧ RwF (NdF m) w' F2 c (mkL (mkN m) (cntN m) ns (kk + 2 + ks.length)) ∧ Chg F2 w w') := Lib.hid fun w h1 h2 => by
        have := HIH.out w F2 c cc ns (kk + 2 + ks.length) h1 HN2.out h2 hk2 (by omega) (by rw [hSK]; omega)
        rwa [hSK] at this
      have X0 := Round.refl 4 b (off + i * 4) 0 0 wr
      have X1 := Lib.hid (X0.set (j := off + i * 4) (by omega) (by omega) (.int .i64 kk))
      have R1 := Lib.hid (R0.out.put (j := 0) (by simp) (.int .i64 kk))
      rw [Nat.add_zero] at R1
      obtain ⟨q0, q1, q2, q3⟩ := nrow4 R0.out
      have p0 := HFR.out.frozen (off + i * 4)
      obtain ⟨kv, hkv⟩ : ∃ kv : Nat, kk + 2 + ks.length = kv := ⟨_, rfl⟩
      have HKV := Lib.hid hkv
      rw [hkv] at CS CK
      have hkv9 : kv + SK ≤ 9000000 := by omega
      clear hd hdc hok hrow hlt hka hkc hk1 hk2 htx hrw hcx hnx hSK hnd hbG hnG hn2 hd12 hnx2 hn3 hdx3 hnF1 hnF2 hdF hpre hpost hG hkv X0
      go_wp2_with fail
      refine (CM1.out _).mono ?_
      rintro e w2 ⟨rfl, hb2⟩
      have X2 := Lib.hid (X1.out.below HFR.out hb2)
      have R2 := Lib.hid (R1.out.block (hb2.block b (by have := (X1.out.free HFR.out).lt; exact this)))
      clear q0 q1 q2 q3 p0
      obtain ⟨q0, q1, q2, q3⟩ := nrow4 R2.out
      have p1 := (X2.out.free HFR.out).frozen (off + i * 4 + 1)
      have X3 := Lib.hid (X2.out.set (j := off + i * 4 + 1) (by omega) (by omega) (.string (mkT (kk + 1))))
      have R3 := Lib.hid (R2.out.put (j := 1) (by simp) (.string (mkT (kk + 1))))
      clear hb2
      go_wp2_with fail
      generalize w2.setCell ⟨b, off + i * 4 + 1, none⟩ (.string (mkT (kk + 1))) = w5 at *
      have hz5 := X3.out.size
      refine (CS.out w5 (HTX.out.frame fun q hq => X3.out.other q (HGL.out q (by simp [hq])) (HBG.out q (by simp [hq])) (by omega)) (fun q hq => Nat.lt_of_lt_of_le (HGL.out q (by simp [hq])) hz5)).mono ?_
      rintro e w6 ⟨rfl, htx6, hw6⟩
      have HTX6 := Lib.hid htx6
      have X6 : Hid (RndF b (off + i * 4) (F1 ++ F2) wr w6) := Lib.hid ((RndF.of_round X3.out).chg HFR.out (fun hm => HBG.out b (List.mem_append_right _ (List.mem_append_left _ hm)) rfl) (hw6.mono fun q hq => List.mem_append_left _ hq))
      have R6 : Hid (RowN w6 b (off + i * 4) [.int .i64 kk, .string (mkT (kk + 1)), .slice a ks.length ca, .slice c ns.length cc]) := Lib.hid (R3.out.block (hw6.block b (X3.out.free HFR.out).lt (fun hm => HBG.out b (by simp [hm]) rfl)))
      have HRW6 : Hid (RwF (NdF m) w6 F2 c ns) := Lib.hid (HRW.out.frame (fun _ _ _ _ g g1 g2 => NdF.frame g g1 g2) fun q hq => (hw6.block q (Nat.lt_of_lt_of_le (HGL.out q (by simp [hq])) hz5) (HD12.out q hq)).trans (X3.out.other q (HGL.out q (by simp [hq])) (HBG.out q (by simp [hq])) (by omega)))
      clear q0 q1 q2 q3 p1
      obtain ⟨q0, q1, q2, q3⟩ := nrow4 R6.out
      have hz6 := X6.out.size
      clear htx6 hw6
      go_wp2_with fail
      refine (CK.out w6 HRW6.out (fun q hq => Nat.lt_of_lt_of_le (HGL.out q (by simp [hq])) hz6)).mono ?_
      rintro e w7 ⟨rfl, hrw7, hw7⟩
      have hk7 := Lib.hid (hw7.mono (G := F1 ++ F2) fun q hq => List.mem_append_right _ hq)
      have X7 : Hid (RndF b (off + i * 4) (F1 ++ F2) wr w7) := Lib.hid (X6.out.chg HFR.out (fun hm => HBG.out b (List.mem_append_right _ (List.mem_append_left _ hm)) rfl) hk7.out)
      have R7 : Hid (RowN w7 b (off + i * 4) [.int .i64 kk, .string (mkT (kk + 1)), .slice a ks.length ca, .slice c ns.length cc]) := Lib.hid (R6.out.block (hw7.block b (X6.out.free HFR.out).lt (fun hm => HBG.out b (by simp [hm]) rfl)))
      have HTX7 : Hid (TxF w7 F1 a (textsMark ks (kk + 2))) := Lib.hid (HTX6.out.frame fun q hq => hw7.block q (Nat.lt_of_lt_of_le (HGL.out q (by simp [hq])) hz6) (HD21.out q hq))
      have HRW7 := Lib.hid hrw7
      have HX7 : Hid (NdF (m + 1) w7 (F1 ++ F2) b (off + i * 4) (mkN (m + 1) ⟨kd, tx, ks, ns⟩ kk)) := Lib.hid (by
        rw [HNX.out, HKV.out]
        refine ⟨a, ca, c, cc, ?_, ⟨?_, ?_⟩, ?_, ?_, ?_, ?_, F1, F2, rfl, HTX7.out, HRW7.out⟩
        · simp only [NodeP.cells, textsMark_len, mkL_len]; exact R7.out
        · unfold OkI; simp only; omega
        · exact mkT_ok (by have := HKV.out; omega)
        · simp only [textsMark_len]; exact HKS.out.1
        · simp only [mkL_len]; exact HKS.out.2.1
        · simp only [textsMark_len]; exact HKS.out.2.2.1
        · simp only [mkL_len]; exact HKS.out.2.2.2)
      have hst7 : Hid (∃ H1 H2, G = H1 ++ H2 ∧ LsF (NdF (m + 1)) w7 H1 b off ((mkL (mkN (m + 1)) (cntN (m + 1)) l k).take (i + 1)) ∧ LsF (NdF (m + 1)) w7 H2 b (off + (i + 1) * 4) (l.drop (i + 1))) := Lib.hid (by
        have hlen2 : ((mkL (mkN (m + 1)) (cntN (m + 1)) l k).take i).length = i := by rw [List.length_take, mkL_len]; omega
        refine ⟨G1 ++ (F1 ++ F2), G3, by rw [HG.out]; simp, ?_, ?_⟩
        · rw [List.take_add_one, hmt.out, ← hkk.out]
          refine LsF.join (HPRE.out.frameC (fun q hq => X7.out.other q (HGL.out q (by simp [hq])) (HBG.out q (by simp [hq])) (HD1x.out q hq)) fun j j1 j2 => X7.out.cells j (by rw [hlen2] at j2; omega)) ?_
          rw [hlen2]
          exact ⟨F1 ++ F2, [], by simp, HX7.out, rfl⟩
        · rw [show off + (i + 1) * 4 = off + i * 4 + 4 by omega]
          exact HPOST.out.frameC (fun q hq => X7.out.other q (HGL.out q (by simp [hq])) (HBG.out q (by simp [hq])) (HD3x.out q hq)) fun j j1 j2 => X7.out.cells j (by omega))
      have HF7 := Lib.hid (X7.out.free HFR.out)
      have HW7 : Hid (Chg (b :: G) w w7) := Lib.hid (HW.out.trans (X7.out.toChg fun q hq => by rw [HG.out]; exact List.mem_append_right _ (List.mem_append_left _ hq)))
      have hkn : Hid (kv + SK = k + (sumOf (cntN (m + 1)) l - sumOf (cntN (m + 1)) (l.drop (i + 1)))) := Lib.hid (by
        have e1 := hkk.out; have e2 := hst.out; have e3 := hdl.out; have e5 := HSK.out; have e6 := HKV.out
        have e4 : cntN (m + 1) ⟨kd, tx, ks, ns⟩ = 2 + ks.length + sumOf (cntN m) ns := rfl
        omega)
      clear hrw7 hw7 q0 q1 q2 q3
      go_wp2_with fail
      go_roundw
      case rel => exact ⟨i + 1, kv + SK, by omega, hkv9, hkn, rfl, by go_num, hst7, HF7, HW7⟩
      case measure => simp [intOf]; omega
    · obtain rfl : i = l.length := by omega
      have hfin : Hid (kk = k + S) := Lib.hid (by have e1 := hkk.out; rw [List.drop_length] at e1; have e2 := HS0.out; simpa [sumOf, e2] using e1)
      have hall : Hid (RwF (NdF (m + 1)) wr (b :: G) (some ⟨b, off, none⟩) (mkL (mkN (m + 1)) (cntN (m + 1)) l k)) := Lib.hid (by
        obtain ⟨G1, G2, e, h1, h2⟩ := HP.out
        rw [List.drop_length] at h2
        obtain rfl : G2 = [] := h2
        rw [List.append_nil] at e
        subst e
        rw [← mkL_len (f := mkN (m + 1)) (g := cntN (m + 1)) l k, List.take_length] at h1
        exact .inr ⟨b, off, _, rfl, rfl, HFR.out, h1⟩)
      clear hlt
      go_wp2_with fail
      go_ret
      exact ⟨ret_i (by rw [hfin.out]), hall.out, HW.out⟩
theorem mkAll : ∀ n, MkAll n
  | 0 => mkAll_zero
  | n + 1 => mkAll_succ n (mkAll n)
end Go.Proofs.YtlncdkeooacebaaDoor.Rw
