/-
  Contracts: the draws of a purse. Conditions: as each theorem says.
-/
import Derived.Test.YtlbjnblbjbdaaaaDoorRows
import Derived.Test.YtlbjnblbjbdaaaaDoorPurN
import Derived.Test.YtlbjnblbjbdaaaaDoorEdge
import Derived.Test.YtlbjnblbjbdaaaaDoorDrawOne
import Derived.BigRegion
import Derived.Deep.RegionWith
namespace Go.Proofs.YtlbjnblbjbdaaaaDoor.Draws
open Go.RowKit Texts Bytes Rw
open Bnd (BP keep4)
open Pur (kept2)
set_option linter.unusedVariables false
set_option maxRecDepth 100000

theorem only_put {p g : Nat} {w W : World} (h : Only p w W) (hg : w.heap.size ≤ g) (i : Nat) (v : Value) : Only p w (W.setCell ⟨g, i, none⟩ v) :=
  ⟨h.os, h.tape, h.output, by simpa using h.size, fun k hk hp => (Below.heap_setCell W ⟨g, i, none⟩ v k (by show k ≠ g; omega)).trans (h.block k hk hp)⟩
theorem src_put {p len cap : Nat} {a : Option Addr} {W : World} (h : Src W p a len cap) {g : Nat} (hg : p < g) (i : Nat) (v : Value) : Src (W.setCell ⟨g, i, none⟩ v) p a len cap :=
  h.below (Nat.lt_succ_self p) ((Below.refl _ _).setCell (by show p + 1 ≤ g; omega) v)

theorem fin4 {p len cap : Nat} {a : Option Addr} {w W : World} (hO : Only p w W) (hS : Src W p a len cap) (hp : p < w.heap.size) {g : Nat} (hg : w.heap.size ≤ g) (v0 v1 v2 v3 : Value) : Src ((((W.setCell ⟨g, 0, none⟩ v0).setCell ⟨g, 1, none⟩ v1).setCell ⟨g, 2, none⟩ v2).setCell ⟨g, 3, none⟩ v3) p a len cap ∧ Only p w ((((W.setCell ⟨g, 0, none⟩ v0).setCell ⟨g, 1, none⟩ v1).setCell ⟨g, 2, none⟩ v2).setCell ⟨g, 3, none⟩ v3) :=
  ⟨src_put (src_put (src_put (src_put hS (by omega) _ _) (by omega) _ _) (by omega) _ _) (by omega) _ _, only_put (only_put (only_put (only_put hO hg _ _) hg _ _) hg _ _) hg _ _⟩
set_option maxHeartbeats 4000000 in
theorem src_purse (w : World) (p len cap : Nat) (a : Option Addr) (h : Src w p a len cap) :
    Calls Tryd.prog 23 #[.pointer (some ⟨p, 0, none⟩)] w fun e w' => (∃ x : BP, x.ok ∧ e = .returned x.val) ∧ Src w' p a len cap ∧ Only p w w' := by
  have hplt := h.lt
  have HS := Lib.hid h
  clear h
  have hb0 : Below w.heap.size w (w.alloc (.cells #[.int .i64 0, .int .i64 0, .int .i64 0, .int .i64 0] 24)) := (Below.refl _ _).alloc (Nat.le_refl _) _
  have HK0 : Hid ((w.alloc (.cells #[.int .i64 0, .int .i64 0, .int .i64 0, .int .i64 0] 24)).heap[w.heap.size]? = some (.cells #[.int .i64 0, .int .i64 0, .int .i64 0, .int .i64 0] 24 (0, 0))) := Lib.hid (heap_alloc_new w _)
  have HS0 := Lib.hid (HS.out.below hplt hb0)
  have HO0 : Hid (Only p w (w.alloc (.cells #[.int .i64 0, .int .i64 0, .int .i64 0, .int .i64 0] 24))) := Lib.hid ((Only.refl p w).of_below (Nat.le_refl _) hb0)
  have HPL := Lib.hid hplt
  clear hb0
  go_enter Tryd.func23, Tryd.ntmps23
  go_wp2_with fail
  refine (src_n _ p len cap a HS0.out 4 (by omega)).mono ?_
  rintro e w1 ⟨⟨r0, rfl, a0, a1⟩, hs1, ho1⟩
  have HS1 := Lib.hid hs1
  have HK1 := Lib.hid ((ho1.block w.heap.size (by simp) (by have := HPL.out; omega)).trans HK0.out)
  have HO1 := Lib.hid (HO0.out.trans ho1)
  clear hs1 ho1 HS0 HK0 HO0
  go_wp2_with fail
  refine (src_n _ p len cap a HS1.out 20 (by omega)).mono ?_
  rintro e w2 ⟨⟨r1, rfl, b0, b1⟩, hs2, ho2⟩
  have HS2 := Lib.hid hs2
  have HK2 := Lib.hid ((ho2.block w.heap.size (lt_of_get HK1.out) (by have := HPL.out; omega)).trans HK1.out)
  have HO2 := Lib.hid (HO1.out.trans ho2)
  clear hs2 ho2 HS1 HK1 HO1
  go_wp2_with fail
  refine (src_n _ p len cap a HS2.out 10 (by omega)).mono ?_
  rintro e w3 ⟨⟨r2, rfl, c0, c1⟩, hs3, ho3⟩
  have HK3 := Lib.hid ((ho3.block w.heap.size (lt_of_get HK2.out) (by have := HPL.out; omega)).trans HK2.out)
  have HO3 := Lib.hid (HO2.out.trans ho3)
  have hgl : w.heap.size < w3.heap.size := lt_of_get HK3.out
  have hb3 : Below w3.heap.size w3 (w3.alloc (.cells #[.int .i64 r0, .int .i64 r1, .int .i64 0, .int .i64 r2] 24)) := (Below.refl _ _).alloc (Nat.le_refl _) _
  have HS4 : Hid (Src (w3.alloc (.cells #[.int .i64 r0, .int .i64 r1, .int .i64 0, .int .i64 r2] 24)) p a len cap) := Lib.hid (hs3.below hs3.lt hb3)
  have HO4 : Hid (Only p w (w3.alloc (.cells #[.int .i64 r0, .int .i64 r1, .int .i64 0, .int .i64 r2] 24))) := Lib.hid (HO3.out.of_below HO3.out.size hb3)
  have HK4 : Hid ((w3.alloc (.cells #[.int .i64 r0, .int .i64 r1, .int .i64 0, .int .i64 r2] 24)).heap[w.heap.size]? = some (.cells #[.int .i64 0, .int .i64 0, .int .i64 0, .int .i64 0] 24 (0, 0))) := Lib.hid ((Go.Deep.blk_alloc_lt w3 _ _ hgl).trans HK3.out)
  have HL4 : Hid ((w3.alloc (.cells #[.int .i64 r0, .int .i64 r1, .int .i64 0, .int .i64 r2] 24)).heap[w3.heap.size]? = some (.cells #[.int .i64 r0, .int .i64 r1, .int .i64 0, .int .i64 r2] 24 (0, 0))) := Lib.hid (heap_alloc_new w3 _)
  have HPG : Hid (p < w3.heap.size) := Lib.hid hs3.lt
  clear hs3 ho3 hb3 HS2 HK2 HO2 HK3 HO3
  go_wp2_with fail
  refine (src_n _ p len cap a HS4.out (r1 + 1) (by omega)).mono ?_
  rintro e w4 ⟨⟨r3, rfl, d0, d1⟩, hs5, ho5⟩
  obtain ⟨g, hg⟩ : ∃ g, w3.heap.size = g := ⟨_, rfl⟩
  have HK5 := Lib.hid ((ho5.block w.heap.size (lt_of_get HK4.out) (by have := HPL.out; omega)).trans HK4.out)
  have HL5 := Lib.hid ((ho5.block w3.heap.size (lt_of_get HL4.out) (by have := HPG.out; omega)).trans HL4.out)
  have HO5 := Lib.hid (HO4.out.trans ho5)
  have HS5 := Lib.hid hs5
  rw [hg] at HL5 HPG hgl ⊢
  have hg4 : g < w4.heap.size := lt_of_get HL5.out
  clear hs5 ho5 HS4 HO4 HK4 HL4 hg
  have ⟨⟨m0, m1, m2, m3⟩, n0, n1, n2, n3⟩ := keep4 HL5.out
  have HPW : Hid (p < w.heap.size) := HPL
  have HS6 := Lib.hid (src_put HS5.out HPG.out 2 (.int .i64 r3))
  have HO6 := Lib.hid (only_put HO5.out (Nat.le_of_lt hgl) 2 (.int .i64 r3))
  have HK6 : Hid ((w4.setCell ⟨g, 2, none⟩ (.int .i64 r3)).heap[w.heap.size]? = some (.cells #[.int .i64 0, .int .i64 0, .int .i64 0, .int .i64 0] 24 (0, 0))) := Lib.hid ((Below.heap_setCell _ ⟨g, 2, none⟩ _ _ (by show w.heap.size ≠ g; omega)).trans HK5.out)
  have HL6 : Hid ((w4.setCell ⟨g, 2, none⟩ (.int .i64 r3)).heap[g]? = some (.cells #[.int .i64 r0, .int .i64 r1, .int .i64 r3, .int .i64 r2] 24 (0, 0))) := Lib.hid (by rw [heap_setCell_same _ _ _ _ _ _ HL5.out]; simp)
  go_wp2_with fail
  refine (src_n _ p len cap a HS6.out 12 (by omega)).mono ?_
  rintro e w5 ⟨⟨r4, rfl, e0, e1⟩, hs7, ho7⟩
  have HK7 := Lib.hid ((ho7.block w.heap.size (lt_of_get HK6.out) (by have := HPL.out; omega)).trans HK6.out)
  have HL7 := Lib.hid ((ho7.block g (lt_of_get HL6.out) (by have := HPG.out; omega)).trans HL6.out)
  have HO7 := Lib.hid (HO6.out.trans ho7)
  have HS7 := Lib.hid hs7
  have hg5 : g < w5.heap.size := lt_of_get HL7.out
  clear hs7 ho7 HS5 HO5 HK5 HL5 HS6 HO6 HK6 HL6 m0 m1 m2 m3 n0 n1 n2 n3
  have ⟨⟨m0, m1, m2, m3⟩, n0, n1, n2, n3⟩ := keep4 HL7.out
  have ⟨⟨k0, k1, k2, k3⟩, l0, l1, l2, l3⟩ := keep4 HK7.out
  have i64s : ∀ n : Int, 0 ≤ n → n ≤ 100 → OkI n := fun n h1 h2 => by unfold OkI; omega
  have HI := Lib.hid i64s
  clear i64s
  by_cases q0 : r4 = 0
  · subst q0
    have HA8 : Hid (Below w5.heap.size w5 (w5.alloc (.cells #[.int .i64 (-1), .int .i64 1000, .int .i64 1001] 2))) := Lib.hid ((Below.refl _ _).alloc (Nat.le_refl _) _)
    go_wp2_with fail
    refine (src_n _ p len cap a (HS7.out.below HS7.out.lt HA8.out) 3 (by omega)).mono ?_
    rintro e w6 ⟨⟨r5, rfl, f0, f1⟩, hs8, ho8⟩
    have hq : w6.heap[w5.heap.size]? = some (.cells #[.int .i64 (-1), .int .i64 1000, .int .i64 1001] 2 (0, 0)) := (ho8.block w5.heap.size (by simp) (by have := HPG.out; omega)).trans (heap_alloc_new w5 _)
    obtain ⟨m, rfl⟩ := Int.eq_ofNat_of_zero_le f0
    obtain ⟨v, hv, hv1⟩ : ∃ v : Int, w6.cell? ⟨w5.heap.size, m, none⟩ = some (.int .i64 v) ∧ OkI v := by
      have h3 : m = 0 ∨ m = 1 ∨ m = 2 := by omega
      rcases h3 with rfl | rfl | rfl
      · exact ⟨-1, Rw.row_cell hq (k := 0) (by simp), by unfold OkI; omega⟩
      · exact ⟨1000, Rw.row_cell hq (k := 1) (by simp), by unfold OkI; omega⟩
      · exact ⟨1001, Rw.row_cell hq (k := 2) (by simp), by unfold OkI; omega⟩
    have HV := Lib.hid hv1
    have hm3 : m < 3 := by omega
    have HL8 := Lib.hid ((ho8.block g (by simp; omega) (by have := HPG.out; omega)).trans ((Go.Deep.blk_alloc_lt w5 _ _ hg5).trans HL7.out))
    have HK8 := Lib.hid ((ho8.block w.heap.size (by simp; omega) (by have := HPL.out; omega)).trans ((Go.Deep.blk_alloc_lt w5 _ _ (by omega)).trans HK7.out))
    have HO8 := Lib.hid ((HO7.out.of_below HO7.out.size HA8.out).trans ho8)
    have HS8 := Lib.hid hs8
    clear hs8 ho8 hq hv1 f1 m0 m1 m2 m3 n0 n1 n2 n3 k0 k1 k2 k3 l0 l1 l2 l3
    have ⟨⟨m0, m1, m2, m3⟩, n0, n1, n2, n3⟩ := keep4 HL8.out
    have ⟨⟨k0, k1, k2, k3⟩, l0, l1, l2, l3⟩ := keep4 HK8.out
    go_wp2_with fail
    exact bodyPost_ret (v := .agg #[.int .i64 v, .int .i64 r1, .int .i64 r3, .int .i64 r2]) (by simp [results, Tryd.results23, go_sem, k0, k1, k2, k3]) rfl ⟨⟨⟨v, r1, r3, r2⟩, ⟨HV.out, HI.out _ (by dsimp only; omega) (by dsimp only; omega), HI.out _ (by dsimp only; omega) (by dsimp only; omega), HI.out _ (by dsimp only; omega) (by dsimp only; omega)⟩, rfl⟩, fin4 (only_put HO8.out (Nat.le_of_lt hgl) _ _) (src_put HS8.out HPG.out _ _) HPL.out (Nat.le_refl _) _ _ _ _⟩
  have q0b : (r4 == 0) = false := by simp [q0]
  by_cases q1 : r4 = 1
  · subst q1
    have HA8 : Hid (Below w5.heap.size w5 (w5.alloc (.cells #[.int .i64 (-1), .int .i64 10000, .int .i64 10001] 2))) := Lib.hid ((Below.refl _ _).alloc (Nat.le_refl _) _)
    go_wp2_with fail
    refine (src_n _ p len cap a (HS7.out.below HS7.out.lt HA8.out) 3 (by omega)).mono ?_
    rintro e w6 ⟨⟨r5, rfl, f0, f1⟩, hs8, ho8⟩
    have hq : w6.heap[w5.heap.size]? = some (.cells #[.int .i64 (-1), .int .i64 10000, .int .i64 10001] 2 (0, 0)) := (ho8.block w5.heap.size (by simp) (by have := HPG.out; omega)).trans (heap_alloc_new w5 _)
    obtain ⟨m, rfl⟩ := Int.eq_ofNat_of_zero_le f0
    obtain ⟨v, hv, hv1⟩ : ∃ v : Int, w6.cell? ⟨w5.heap.size, m, none⟩ = some (.int .i64 v) ∧ OkI v := by
      have h3 : m = 0 ∨ m = 1 ∨ m = 2 := by omega
      rcases h3 with rfl | rfl | rfl
      · exact ⟨-1, Rw.row_cell hq (k := 0) (by simp), by unfold OkI; omega⟩
      · exact ⟨10000, Rw.row_cell hq (k := 1) (by simp), by unfold OkI; omega⟩
      · exact ⟨10001, Rw.row_cell hq (k := 2) (by simp), by unfold OkI; omega⟩
    have HV := Lib.hid hv1
    have hm3 : m < 3 := by omega
    have HL8 := Lib.hid ((ho8.block g (by simp; omega) (by have := HPG.out; omega)).trans ((Go.Deep.blk_alloc_lt w5 _ _ hg5).trans HL7.out))
    have HK8 := Lib.hid ((ho8.block w.heap.size (by simp; omega) (by have := HPL.out; omega)).trans ((Go.Deep.blk_alloc_lt w5 _ _ (by omega)).trans HK7.out))
    have HO8 := Lib.hid ((HO7.out.of_below HO7.out.size HA8.out).trans ho8)
    have HS8 := Lib.hid hs8
    clear hs8 ho8 hq hv1 f1 m0 m1 m2 m3 n0 n1 n2 n3 k0 k1 k2 k3 l0 l1 l2 l3
    have ⟨⟨m0, m1, m2, m3⟩, n0, n1, n2, n3⟩ := keep4 HL8.out
    have ⟨⟨k0, k1, k2, k3⟩, l0, l1, l2, l3⟩ := keep4 HK8.out
    go_wp2_with fail
    exact bodyPost_ret (v := .agg #[.int .i64 r0, .int .i64 v, .int .i64 r3, .int .i64 r2]) (by simp [results, Tryd.results23, go_sem, k0, k1, k2, k3]) rfl ⟨⟨⟨r0, v, r3, r2⟩, ⟨HI.out _ (by dsimp only; omega) (by dsimp only; omega), HV.out, HI.out _ (by dsimp only; omega) (by dsimp only; omega), HI.out _ (by dsimp only; omega) (by dsimp only; omega)⟩, rfl⟩, fin4 (only_put HO8.out (Nat.le_of_lt hgl) _ _) (src_put HS8.out HPG.out _ _) HPL.out (Nat.le_refl _) _ _ _ _⟩
  have q1b : (r4 == 1) = false := by simp [q1]
  by_cases q2 : r4 = 2
  · subst q2
    have HS8 : Hid (Src w5.drew p a len cap) := Lib.hid (HS7.out.below HS7.out.lt (Below.refl w5.heap.size _).drew)
    go_wp2_with fail
    go_region_with (go_at_call 20; refine (src_n _ p len cap a HS8.out 3 (by omega)).mono ?_; rintro e w6 ⟨⟨r5, rfl, f0, f1⟩, hs8, ho8⟩; have HL8 := Lib.hid ((ho8.block g hg5 (by have := HPG.out; omega)).trans HL7.out); have HK8 := Lib.hid ((ho8.block w.heap.size (by show _ < w5.heap.size; omega) (by have := HPL.out; omega)).trans HK7.out); have HO8 := Lib.hid (HO7.out.drew.trans ho8); have HS9 := Lib.hid hs8; clear hs8 ho8; have ⟨⟨i0, i1, i2, i3⟩, j0, j1, j2, j3⟩ := keep4 HL8.out)
    all_goals
      clear m0 m1 m2 m3 n0 n1 n2 n3 k0 k1 k2 k3 l0 l1 l2 l3
      have ⟨⟨k0, k1, k2, k3⟩, l0, l1, l2, l3⟩ := keep4 HK8.out
      go_wp2_with fail
      exact bodyPost_ret (v := .agg #[.int .i64 r0, .int .i64 r1, .int .i64 (r3 + r5 - 1), .int .i64 r2]) (by simp [results, Tryd.results23, go_sem, k0, k1, k2, k3]) rfl ⟨⟨⟨r0, r1, (r3 + r5 - 1), r2⟩, ⟨HI.out _ (by dsimp only; omega) (by dsimp only; omega), HI.out _ (by dsimp only; omega) (by dsimp only; omega), (by unfold OkI; dsimp only; omega), HI.out _ (by dsimp only; omega) (by dsimp only; omega)⟩, rfl⟩, fin4 (only_put HO8.out (Nat.le_of_lt hgl) _ _) (src_put HS9.out HPG.out _ _) HPL.out (Nat.le_refl _) _ _ _ _⟩
  · have q2b : (r4 == 2) = false := by simp [q2]
    go_wp2_with fail
    exact bodyPost_ret (v := .agg #[.int .i64 r0, .int .i64 r1, .int .i64 r3, .int .i64 r2]) (by simp [results, Tryd.results23, go_sem, k0, k1, k2, k3]) rfl ⟨⟨⟨r0, r1, r3, r2⟩, ⟨HI.out _ (by dsimp only; omega) (by dsimp only; omega), HI.out _ (by dsimp only; omega) (by dsimp only; omega), HI.out _ (by dsimp only; omega) (by dsimp only; omega), HI.out _ (by dsimp only; omega) (by dsimp only; omega)⟩, rfl⟩, fin4 (HO7.out) (HS7.out) HPL.out (Nat.le_refl _) _ _ _ _⟩
end Go.Proofs.YtlbjnblbjbdaaaaDoor.Draws
