/-
  The walk of laws.FnExactJsonRead: it answers true; of what was there nothing is changed. Conditions: the library's variables hold what the program lays.
-/
import Derived.Test.YtlncdkeooacebaaDoorRows
import Derived.Test.YtlncdkeooacebaaDoorNdQ
namespace Go.Proofs.YtlncdkeooacebaaDoor.Rw
open Go.RowKit Words Decs
set_option linter.unusedVariables false
set_option maxRecDepth 100000

set_option maxHeartbeats 8000000 in
theorem jsonReadLaw (w : World) (a0 : ByteArray) (w0 : a0.size ≤ maxLen) (h0 : VarsJ w.heap.size w) :
    Calls Tryd.prog 7 #[.string a0] w fun e w' => e = .returned (.bool true) ∧ Below w.heap.size w w' := by
  have HG := Lib.hid h0
  clear h0
  unfold maxLen at w0
  by_cases hbig : 1048576 < a0.size
  · have hbi : (1048576 : Int) < (a0.size : Int) := by omega
    go_enter Tryd.func7, Tryd.ntmps7
    go_wp2_with fail
    go_ret
    exact ⟨rfl, Below.refl _ _⟩
  have hsi : (a0.size : Int) ≤ 1048576 := by omega
  have hsn : ¬ (1048576 : Int) < (a0.size : Int) := by omega
  have hsm : a0.size ≤ 9223372036854775807 := by omega
  have CM := Lib.hid (specJsonRead w a0 hsm)
  have CI : Hid (∀ w', Below w.heap.size w w' → Calls Tryd.prog 26 #[.string a0] w' fun e w'' => JrOut a0 w' e w'' ∧ Below w'.heap.size w' w'') := Lib.hid fun w' h => implJsonRead w' a0 hsm (fun w'' g => (HG.out.on h) w'' (g.mono h.size))
  clear hbig hsm
  go_enter Tryd.func7, Tryd.ntmps7
  go_wp2_with fail
  refine CM.out.mono ?_
  rintro e w1 ⟨x, c, v, rfl, HO, ⟨a1, ca1, c1, cc1, rfl, hn1⟩, hb1⟩
  have hfew := outJ_few HO.out 8002 (by omega)
  obtain ⟨kd, tx, ks, ns⟩ := x
  simp only at hn1 ⊢
  have HFEW : Hid (1 + ks.length + sumOf (cntN 8001) ns ≤ 9000000) := Lib.hid (by
    have e4 : cntN (8001 + 1) ⟨kd, tx, ks, ns⟩ = 2 + ks.length + sumOf (cntN 8001) ns := rfl
    rw [show (8002 : Nat) = 8001 + 1 from rfl, e4] at hfew
    omega)
  clear hfew CM
  have hA1 : Below w1.heap.size w1 (w1.alloc (.cells #[.int .i64 kd, .string tx, .slice a1 ks.length ca1, .slice c1 ns.length cc1, .int .i64 c] 55)) := (Below.refl _ _).alloc (Nat.le_refl _) _
  have HX1 := Lib.hid ((NodeV.mono (by omega : 102 ≤ 8002) hn1).below (Nat.le_refl _) hA1)
  have HB1 := Lib.hid (hb1.trans (hA1.mono hb1.size))
  have HN1 := Lib.hid (heap_alloc_new w1 (.cells #[.int .i64 kd, .string tx, .slice a1 ks.length ca1, .slice c1 ns.length cc1, .int .i64 c] 55))
  have hz1 := hb1.size
  have hz1a : (w1.alloc (.cells #[.int .i64 kd, .string tx, .slice a1 ks.length ca1, .slice c1 ns.length cc1, .int .i64 c] 55)).heap.size = w1.heap.size + 1 := by simp
  clear hb1 hn1 hA1
  go_wp2_with fail
  refine (CI.out _ HB1.out).mono ?_
  rintro e w2 ⟨⟨⟨x2, a2, ca2, c2, cc2, F2, lo2, hi2⟩, code2, HO2, rfl, hok2, hlo2, hhi2⟩, hb2⟩
  obtain ⟨hx2, hc2⟩ := outJ_one HO2.out HO.out
  simp only at hx2
  subst hx2 hc2
  simp only at hok2 hlo2 hhi2 ⊢
  have HB2 := Lib.hid (HB1.out.trans (hb2.mono HB1.out.size))
  have HN2 := Lib.hid ((hb2.block w1.heap.size (by omega)).trans HN1.out)
  have HX12 := Lib.hid (HX1.out.below (by omega : w1.heap.size ≤ _) hb2)
  have hz2 := hb2.size
  have hA2 : Below w2.heap.size w2 (w2.alloc (.cells #[.int .i64 kd, .string tx, .slice a2 ks.length ca2, .slice c2 ns.length cc2, .int .i64 code2] 55)) := (Below.refl _ _).alloc (Nat.le_refl _) _
  have HB3 := Lib.hid (HB2.out.trans (hA2.mono HB2.out.size))
  have HN3 := Lib.hid ((hA2.block w1.heap.size (by omega)).trans HN2.out)
  have HM3 := Lib.hid (heap_alloc_new w2 (.cells #[.int .i64 kd, .string tx, .slice a2 ks.length ca2, .slice c2 ns.length cc2, .int .i64 code2] 55))
  have HX13 := Lib.hid (HX12.out.below (by omega : w1.heap.size ≤ _) hA2)
  have HOK := Lib.hid (hok2.block fun q _ q2 => hA2.block q (by simp only at q2; omega))
  have hz3 : (w2.alloc (.cells #[.int .i64 kd, .string tx, .slice a2 ks.length ca2, .slice c2 ns.length cc2, .int .i64 code2] 55)).heap.size = w2.heap.size + 1 := by simp
  have HLH := Lib.hid (And.intro hlo2 hhi2)
  clear hb2 hok2 hA2 HN1 HB1 HN2 HX12 HB2 HX1 hlo2 hhi2 HO2
  rw [hz1a] at *
  have ⟨⟨n0, n1, n2, n3, n4⟩, _⟩ := keep5J HN3.out
  go_wp2_with fail
  clear n0 n1 n2 n3 n4
  generalize w2.alloc (.cells #[.int .i64 kd, .string tx, .slice a2 ks.length ca2, .slice c2 ns.length cc2, .int .i64 code2] 55) = w3 at *
  have HF2 : Hid (F2.Nodup ∧ ∀ q ∈ F2, w1.heap.size + 1 ≤ q ∧ q < w2.heap.size) := Lib.hid ⟨HOK.out.2.1, fun q hq => by have e1 := HOK.out.2.2.2 q hq; have e2 := HLH.out; simp only at e1; omega⟩
  have HBO3 : Hid (BodyF (NdF 8001) w3 F2 ⟨kd, tx, ks, ns⟩ a2 ca2 c2 cc2) := Lib.hid HOK.out.1
  clear HOK HLH
  refine (eqNodeOut w3 0 w3.heap.size kd code2 tx ks ns _ _ _ _ _ _ _ _ ((HBO3.out.val (fun q hq => HF2.out.2 q hq)).wide (Nat.zero_le _) (by omega)) (HX13.out.wide (Nat.zero_le _) (by omega)) (Nat.le_refl _)).mono ?_
  rintro e w4 ⟨rfl, hb4⟩
  have HB4 := Lib.hid (HB3.out.trans (hb4.mono HB3.out.size))
  have HN4 := Lib.hid ((hb4.block w1.heap.size (by omega)).trans HN3.out)
  have HM4 := Lib.hid ((hb4.block w2.heap.size (by omega)).trans HM3.out)
  have HX14 := Lib.hid (HX13.out.below (by omega : w1.heap.size ≤ _) hb4)
  have HBO4 := Lib.hid (HBO3.out.frameN fun q hq => hb4.block q (by have := HF2.out.2 q hq; omega))
  have hz4 := hb4.size
  have ⟨⟨m0, m1, m2, m3, m4⟩, _⟩ := keep5J HM4.out
  clear hb4 HB3 HN3 HM3 HX13 HBO3
  go_wp2_with fail
  refine (markNodeOut w4 F2 ⟨kd, tx, ks, ns⟩ a2 c2 ca2 cc2 1 code2 HBO4.out HF2.out.1 (fun q hq => by have := HF2.out.2 q hq; omega) (Nat.le_refl _) HFEW.out).mono ?_
  rintro e w5 ⟨rfl, hx5, hw5⟩
  simp only
  obtain ⟨q, hq⟩ : ∃ q : Int, ((1 + ks.length + sumOf (cntN 8001) ns : Nat) : Int) = q := ⟨_, rfl⟩
  have hq0 : 0 ≤ q := by omega
  rw [hq]
  have HQ := Lib.hid hq
  have hz5 := hw5.size
  have HB5 : Hid (Below w.heap.size w w5) := Lib.hid (HB4.out.trans (hw5.below (C := w.heap.size) (fun q hq => by have := HF2.out.2 q hq; omega) (by omega)))
  have HN5 := Lib.hid ((hw5.block w1.heap.size (by omega) (fun hm => by have := HF2.out.2 _ hm; omega)).trans HN4.out)
  have HM5 := Lib.hid ((hw5.block w2.heap.size (by omega) (fun hm => by have := HF2.out.2 _ hm; omega)).trans HM4.out)
  have HX15 := Lib.hid (nodeV_block (w' := w5) HX14.out fun q q1 q2 => hw5.block q (by omega) (fun hm => by have := HF2.out.2 _ hm; omega))
  have hnd5 := hx5.nodes (fun g hg => NdF.lie g hg) (fun q hq => HF2.out.2 q hq)
  simp only [topMk, textsMark_len, mkL_len] at hnd5
  have HT5 := Lib.hid hnd5.2.1.1
  have HK5 := Lib.hid hnd5.2.2.1
  have ⟨⟨r0, r1, r2, r3, r4⟩, _⟩ := keep5J HM5.out
  clear hq hx5 hw5 hnd5 m0 m1 m2 m3 m4 HB4 HN4 HM4 HX14 HBO4
  go_wp2_with fail
  refine (heldNodeOut w5 (w1.heap.size + 1) w2.heap.size kd code2 tx ks ns a2 c2 ca2 cc2 1 HT5.out HK5.out (by omega) (Nat.le_refl _) HFEW.out).mono ?_
  rintro e w6 ⟨rfl, hb6⟩
  rw [HQ.out]
  have hz6 := hb6.size
  have HB6 := Lib.hid (HB5.out.trans (hb6.mono HB5.out.size))
  have HN6 := Lib.hid ((hb6.block w1.heap.size (by omega)).trans HN5.out)
  have HM6 := Lib.hid ((hb6.block w2.heap.size (by omega)).trans HM5.out)
  have HX16 := Lib.hid (HX15.out.below (by omega : w1.heap.size ≤ _) hb6)
  have HT6 := Lib.hid (HT5.out.below textLies (by omega : w2.heap.size ≤ _) hb6)
  have HK6 := Lib.hid (HK5.out.below (nodeLies 8001) (by omega : w2.heap.size ≤ _) hb6)
  clear hb6 r0 r1 r2 r3 r4 HB5 HN5 HM5 HX15 HT5 HK5
  go_wp2_with fail
  refine (CI.out w6 HB6.out).mono ?_
  rintro e w7 ⟨⟨⟨x3, a3, ca3, c3, cc3, F3, lo3, hi3⟩, code3, HO3, rfl, hok3, hlo3, hhi3⟩, hb7⟩
  obtain ⟨hx3, hc3⟩ := outJ_one HO3.out HO.out
  simp only at hx3
  subst hx3 hc3
  simp only at hok3 hlo3 hhi3 ⊢
  have hz7 := hb7.size
  have hA7 : Below w7.heap.size w7 (w7.alloc (.cells #[.int .i64 kd, .string tx, .slice a3 ks.length ca3, .slice c3 ns.length cc3, .int .i64 code3] 55)) := (Below.refl _ _).alloc (Nat.le_refl _) _
  have HB8 := Lib.hid ((HB6.out.trans (hb7.mono HB6.out.size)).trans (hA7.mono (by omega)))
  have HN8 := Lib.hid ((hA7.block w1.heap.size (by omega)).trans ((hb7.block w1.heap.size (by omega)).trans HN6.out))
  have HM8 := Lib.hid ((hA7.block w2.heap.size (by omega)).trans ((hb7.block w2.heap.size (by omega)).trans HM6.out))
  have HX18 := Lib.hid ((HX16.out.below (by omega : w1.heap.size ≤ _) hb7).below (by omega : w1.heap.size ≤ w7.heap.size) hA7)
  have HT8 := Lib.hid ((HT6.out.below textLies (by omega : w2.heap.size ≤ _) hb7).below textLies (by omega : w2.heap.size ≤ w7.heap.size) hA7)
  have HK8 := Lib.hid ((HK6.out.below (nodeLies 8001) (by omega : w2.heap.size ≤ _) hb7).below (nodeLies 8001) (by omega : w2.heap.size ≤ w7.heap.size) hA7)
  have HX78 := Lib.hid ((BodyF.val (n := 8001) (x := ⟨kd, tx, ks, ns⟩) hok3.1 (A := 0) (B := w7.heap.size) (fun q hq => by have := hok3.2.2.2 q hq; simp only at this; omega)).below (Nat.le_refl _) hA7)
  have hz8 : (w7.alloc (.cells #[.int .i64 kd, .string tx, .slice a3 ks.length ca3, .slice c3 ns.length cc3, .int .i64 code3] 55)).heap.size = w7.heap.size + 1 := by simp
  have ⟨⟨n0, n1, n2, n3, n4⟩, _⟩ := keep5J HN8.out
  clear hb7 hok3 hlo3 hhi3 hA7 HB6 HN6 HM6 HX16 HT6 HK6 HO3
  go_wp2_with fail
  clear n0 n1 n2 n3 n4
  generalize w7.alloc (.cells #[.int .i64 kd, .string tx, .slice a3 ks.length ca3, .slice c3 ns.length cc3, .int .i64 code3] 55) = w8 at *
  refine (eqNodeOut w8 0 w8.heap.size kd code3 tx ks ns _ _ _ _ _ _ _ _ (HX78.out.wide (Nat.zero_le _) (by omega)) (HX18.out.wide (Nat.zero_le _) (by omega)) (Nat.le_refl _)).mono ?_
  rintro e w9 ⟨rfl, hb9⟩
  have hz9 := hb9.size
  have HB9 := Lib.hid (HB8.out.trans (hb9.mono HB8.out.size))
  have HM9 := Lib.hid ((hb9.block w2.heap.size (by omega)).trans HM8.out)
  have HT9 := Lib.hid (HT8.out.below textLies (by omega : w2.heap.size ≤ _) hb9)
  have HK9 := Lib.hid (HK8.out.below (nodeLies 8001) (by omega : w2.heap.size ≤ _) hb9)
  have ⟨⟨m0, m1, m2, m3, m4⟩, _⟩ := keep5J HM9.out
  clear hb9 HB8 HN8 HM8 HX18 HT8 HK8 HX78
  go_wp2_with fail
  refine (heldNodeOut w9 (w1.heap.size + 1) w2.heap.size kd code3 tx ks ns a2 c2 ca2 cc2 1 HT9.out HK9.out (by omega) (Nat.le_refl _) HFEW.out).mono ?_
  rintro e w10 ⟨rfl, hb10⟩
  rw [HQ.out]
  have HB10 := Lib.hid (HB9.out.trans (hb10.mono HB9.out.size))
  clear hb10 m0 m1 m2 m3 m4 HB9 HM9 HT9 HK9
  go_wp2_with fail
  go_ret
  exact ⟨rfl, HB10.out⟩
end Go.Proofs.YtlncdkeooacebaaDoor.Rw
