/-
  Contracts: spec.DrawPurseAsk, spec.DrawPurseNew, spec.DrawPurseAt. Conditions: the bytes lie in memory.
-/
import Derived.Test.YtlbjnblbjbdaaaaDoorRows
import Derived.Test.YtlbjnblbjbdaaaaDoorPurD
import Derived.BigQuiet
namespace Go.Proofs.YtlbjnblbjbdaaaaDoor.Draws
open Go.RowKit Texts Bytes Rw
open Bnd (BP keep4)
open Pur (kept2)
set_option linter.unusedVariables false
set_option maxRecDepth 100000

theorem below_put4 {w W : World} (h : Below w.heap.size w W) (v0 v1 v2 v3 : Value) : Below w.heap.size w ((((W.setCell ⟨w.heap.size, 0, none⟩ v0).setCell ⟨w.heap.size, 1, none⟩ v1).setCell ⟨w.heap.size, 2, none⟩ v2).setCell ⟨w.heap.size, 3, none⟩ v3) :=
  (((h.setCell (Nat.le_refl _) v0).setCell (Nat.le_refl _) v1).setCell (Nat.le_refl _) v2).setCell (Nat.le_refl _) v3

set_option maxHeartbeats 4000000 in
theorem drawAsk (w : World) (len cap : Nat) (a : Option Addr) (h : BytesAt w w.heap.size a len) (hsm : len ≤ 140737488351232) :
    Calls Tryd.prog 5 #[.slice a len cap] w fun e w' => (∃ (x : BP) (c t : Int), (x.ok ∧ OkI c ∧ OkI t) ∧ e = .returned (.tuple #[x.val, .int .i64 c, .int .i64 t])) ∧ Below w.heap.size w w' := by
  have hb0 : Below w.heap.size w (w.alloc (.cells #[.int .i64 0, .int .i64 0, .int .i64 0, .int .i64 0] 24)) := (Below.refl _ _).alloc (Nat.le_refl _) _
  have HB0 := Lib.hid hb0
  have HK0 : Hid ((w.alloc (.cells #[.int .i64 0, .int .i64 0, .int .i64 0, .int .i64 0] 24)).heap[w.heap.size]? = some (.cells #[.int .i64 0, .int .i64 0, .int .i64 0, .int .i64 0] 24 (0, 0))) := Lib.hid (heap_alloc_new w _)
  have HBY := Lib.hid ((h.below hb0).mono hb0.size)
  clear h hb0
  go_enter Tryd.func5, Tryd.ntmps5
  go_wp2_with fail
  refine (source _ len cap a HBY.out hsm).mono ?_
  rintro e w1 ⟨rfl, hs1, hb1⟩
  have hs1' : Src w1 (w.heap.size + 1) a len cap := by simpa using hs1
  have HS1 := Lib.hid hs1'
  have HK1 := Lib.hid ((hb1.block w.heap.size (by simp)).trans HK0.out)
  have HB1 := Lib.hid (HB0.out.trans (hb1.mono (by simp)))
  clear hs1 hs1' hb1 HK0 HB0 HBY
  obtain ⟨p, hp⟩ : ∃ p, w.heap.size + 1 = p := ⟨_, rfl⟩
  have HP := Lib.hid hp
  go_wp2_with fail
  first | rw [hp] | skip
  rw [hp] at HS1
  clear hp
  refine (src_n _ p len cap a HS1.out 12 (by omega)).mono ?_
  rintro e w2 ⟨⟨r0, rfl, a0, a1⟩, hs2, ho2⟩
  have HS2 := Lib.hid hs2
  have HK2 := Lib.hid ((ho2.block w.heap.size (lt_of_get HK1.out) (by have := HP.out; omega)).trans HK1.out)
  have HB2 := Lib.hid (HB1.out.trans (ho2.below (B := w.heap.size) (by have := HP.out; omega) HB1.out.size))
  clear hs2 ho2 HS1 HK1 HB1
  go_wp2_with fail
  refine (src_n _ p len cap a HS2.out 12 (by omega)).mono ?_
  rintro e w3 ⟨⟨r1, rfl, b0, b1⟩, hs3, ho3⟩
  have HS3 := Lib.hid hs3
  have HK3 := Lib.hid ((ho3.block w.heap.size (lt_of_get HK2.out) (by have := HP.out; omega)).trans HK2.out)
  have HB3 := Lib.hid (HB2.out.trans (ho3.below (B := w.heap.size) (by have := HP.out; omega) HB2.out.size))
  clear hs3 ho3 HS2 HK2 HB2
  go_wp2_with fail
  refine (src_one _ p len cap a HS3.out 8 (by omega)).mono ?_
  rintro e w4 ⟨⟨q, rfl⟩, hs4, ho4⟩
  have HS4 := Lib.hid hs4
  have HK4 := Lib.hid ((ho4.block w.heap.size (lt_of_get HK3.out) (by have := HP.out; omega)).trans HK3.out)
  have HB4 := Lib.hid (HB3.out.trans (ho4.below (B := w.heap.size) (by have := HP.out; omega) HB3.out.size))
  clear hs4 ho4 HS3 HK3 HB3
  cases q
  · have HOC : Hid (OkI r0 ∧ OkI (8 + r1)) := Lib.hid (by unfold OkI; omega)
    go_wp2_with fail
    refine (src_purse _ p len cap a HS4.out).mono ?_
    rintro e w5 ⟨⟨x, hx, rfl⟩, hs5, ho5⟩
    have HX := Lib.hid hx
    have HB5 := Lib.hid (HB4.out.trans (ho5.below (B := w.heap.size) (by have := HP.out; omega) HB4.out.size))
    have hk5 := ((ho5.block w.heap.size (lt_of_get HK4.out) (by have := HP.out; omega)).trans HK4.out)
    have ⟨⟨k0, k1, k2, k3⟩, l0, l1, l2, l3⟩ := keep4 hk5
    clear hs5 ho5 hk5 hx
    obtain ⟨x0, x1, x2, x3⟩ := x
    simp only [BP.val]
    go_wp2_with fail
    exact bodyPost_ret (v := .tuple #[.agg #[.int .i64 x0, .int .i64 x1, .int .i64 x2, .int .i64 x3], .int .i64 r0, .int .i64 (8 + r1)]) (by simp [results, Tryd.results5, go_sem, k0, k1, k2, k3]) rfl ⟨⟨⟨x0, x1, x2, x3⟩, r0, 8 + r1, ⟨HX.out, HOC.out⟩, rfl⟩, below_put4 HB5.out _ _ _ _⟩
  · go_wp2_with fail
    refine (src_edge _ p len cap a HS4.out).mono ?_
    rintro e w5 ⟨⟨v0, rfl, c0, c1⟩, hs5, ho5⟩
    have HS5 := Lib.hid hs5
    have HK5 := Lib.hid ((ho5.block w.heap.size (lt_of_get HK4.out) (by have := HP.out; omega)).trans HK4.out)
    have HB5 := Lib.hid (HB4.out.trans (ho5.below (B := w.heap.size) (by have := HP.out; omega) HB4.out.size))
    clear hs5 ho5 HS4 HK4 HB4
    go_wp2_with fail
    refine (src_edge _ p len cap a HS5.out).mono ?_
    rintro e w6 ⟨⟨v1, rfl, d0, d1⟩, hs6, ho6⟩
    have HS6 := Lib.hid hs6
    have HK6 := Lib.hid ((ho6.block w.heap.size (lt_of_get HK5.out) (by have := HP.out; omega)).trans HK5.out)
    have HB6 := Lib.hid (HB5.out.trans (ho6.below (B := w.heap.size) (by have := HP.out; omega) HB5.out.size))
    have HOC : Hid (OkI v0 ∧ OkI v1) := Lib.hid (by unfold OkI; omega)
    clear hs6 ho6 HS5 HK5 HB5
    go_wp2_with fail
    refine (src_purse _ p len cap a HS6.out).mono ?_
    rintro e w7 ⟨⟨x, hx, rfl⟩, hs7, ho7⟩
    have HX := Lib.hid hx
    have HB7 := Lib.hid (HB6.out.trans (ho7.below (B := w.heap.size) (by have := HP.out; omega) HB6.out.size))
    have hk7 := ((ho7.block w.heap.size (lt_of_get HK6.out) (by have := HP.out; omega)).trans HK6.out)
    have ⟨⟨k0, k1, k2, k3⟩, l0, l1, l2, l3⟩ := keep4 hk7
    clear hs7 ho7 hk7 hx
    obtain ⟨x0, x1, x2, x3⟩ := x
    simp only [BP.val]
    go_wp2_with fail
    exact bodyPost_ret (v := .tuple #[.agg #[.int .i64 x0, .int .i64 x1, .int .i64 x2, .int .i64 x3], .int .i64 v0, .int .i64 v1]) (by simp [results, Tryd.results5, go_sem, k0, k1, k2, k3]) rfl ⟨⟨⟨x0, x1, x2, x3⟩, v0, v1, ⟨HX.out, HOC.out⟩, rfl⟩, below_put4 HB7.out _ _ _ _⟩

set_option maxHeartbeats 4000000 in
theorem drawAt (w : World) (len cap : Nat) (a : Option Addr) (h : BytesAt w w.heap.size a len) (hsm : len ≤ 140737488351232) :
    Calls Tryd.prog 8 #[.slice a len cap] w fun e w' => (∃ (x : BP) (t : Int), (x.ok ∧ OkI t) ∧ e = .returned (.tuple #[x.val, .int .i64 t])) ∧ Below w.heap.size w w' := by
  have hb0 : Below w.heap.size w (w.alloc (.cells #[.int .i64 0, .int .i64 0, .int .i64 0, .int .i64 0] 24)) := (Below.refl _ _).alloc (Nat.le_refl _) _
  have HB0 := Lib.hid hb0
  have HK0 : Hid ((w.alloc (.cells #[.int .i64 0, .int .i64 0, .int .i64 0, .int .i64 0] 24)).heap[w.heap.size]? = some (.cells #[.int .i64 0, .int .i64 0, .int .i64 0, .int .i64 0] 24 (0, 0))) := Lib.hid (heap_alloc_new w _)
  have HBY := Lib.hid ((h.below hb0).mono hb0.size)
  clear h hb0
  go_enter Tryd.func8, Tryd.ntmps8
  go_wp2_with fail
  refine (drawAsk _ len cap a HBY.out hsm).mono ?_
  rintro e w1 ⟨⟨x, c, t, hx, rfl⟩, hb1⟩
  have HX := Lib.hid hx
  have hk1 := (hb1.block w.heap.size (by simp)).trans HK0.out
  have HB1 := Lib.hid (HB0.out.trans (hb1.mono (by simp)))
  have hl1 : w.heap.size < w1.heap.size := lt_of_get hk1
  have ⟨⟨k0, k1, k2, k3⟩, l0, l1, l2, l3⟩ := keep4 hk1
  clear hb1 hk1 hx HK0
  obtain ⟨x0, x1, x2, x3⟩ := x
  simp only [BP.val]
  go_wp2_with fail
  exact bodyPost_ret (v := .tuple #[.agg #[.int .i64 x0, .int .i64 x1, .int .i64 x2, .int .i64 x3], .int .i64 t]) (by simp [results, Tryd.results8, go_sem, k0, k1, k2, k3, hl1]) rfl ⟨⟨⟨x0, x1, x2, x3⟩, t, ⟨HX.out.1, HX.out.2.2⟩, rfl⟩, by first | exact (below_put4 HB1.out _ _ _ _).alloc (by simpa using HB1.out.size) _ | exact below_put4 (HB1.out.alloc HB1.out.size _) _ _ _ _⟩

set_option maxHeartbeats 4000000 in
theorem drawNew (w : World) (len cap : Nat) (a : Option Addr) (h : BytesAt w w.heap.size a len) (hsm : len ≤ 140737488351232) :
    Calls Tryd.prog 7 #[.slice a len cap] w fun e w' => (∃ (r b t : Int), (OkI r ∧ OkI b ∧ OkI t) ∧ e = .returned (.tuple #[.int .i64 r, .int .i64 b, .int .i64 t])) ∧ Below w.heap.size w w' := by
  have HBY := Lib.hid h
  clear h
  go_enter Tryd.func7, Tryd.ntmps7
  go_wp2_with fail
  refine (source _ len cap a HBY.out hsm).mono ?_
  rintro e w1 ⟨rfl, hs1, hb1⟩
  have HS1 := Lib.hid hs1
  have HB1 := Lib.hid hb1
  clear hs1 hb1 HBY
  obtain ⟨p, hp⟩ : ∃ p, w.heap.size = p := ⟨_, rfl⟩
  have HP := Lib.hid hp
  rw [hp] at HS1 HB1 ⊢
  clear hp
  go_wp2_with fail
  refine (src_purse _ p len cap a HS1.out).mono ?_
  rintro e w2 ⟨⟨x, hx, rfl⟩, hs2, ho2⟩
  have HX := Lib.hid hx
  have HB2 := Lib.hid (HB1.out.trans (ho2.below (B := p) (Nat.le_refl _) (Nat.le_of_lt HS1.out.lt)))
  have HPL : Hid (p < w2.heap.size) := Lib.hid hs2.lt
  obtain ⟨x0, x1, x2, x3⟩ := x
  have hb2 : Below w2.heap.size w2 (w2.alloc (.cells #[.int .i64 x0, .int .i64 x1, .int .i64 x2, .int .i64 x3] 24)) := (Below.refl _ _).alloc (Nat.le_refl _) _
  have HS3 : Hid (Src (w2.alloc (.cells #[.int .i64 x0, .int .i64 x1, .int .i64 x2, .int .i64 x3] 24)) p a len cap) := Lib.hid (hs2.below hs2.lt hb2)
  have HB3 : Hid (Below p w (w2.alloc (.cells #[.int .i64 x0, .int .i64 x1, .int .i64 x2, .int .i64 x3] 24))) := Lib.hid (HB2.out.trans (hb2.mono (Nat.le_of_lt hs2.lt)))
  have HL3 : Hid ((w2.alloc (.cells #[.int .i64 x0, .int .i64 x1, .int .i64 x2, .int .i64 x3] 24)).heap[w2.heap.size]? = some (.cells #[.int .i64 x0, .int .i64 x1, .int .i64 x2, .int .i64 x3] 24 (0, 0))) := Lib.hid (heap_alloc_new w2 _)
  clear hs2 ho2 hx hb2 HS1 HB1 HB2
  simp only [BP.val]
  go_wp2_with fail
  refine (src_one _ p len cap a HS3.out 8 (by omega)).mono ?_
  rintro e w3 ⟨⟨q, rfl⟩, hs4, ho4⟩
  have HS4 := Lib.hid hs4
  have HL4 := Lib.hid ((ho4.block w2.heap.size (lt_of_get HL3.out) (by have := HPL.out; omega)).trans HL3.out)
  have HB4 := Lib.hid (HB3.out.trans (ho4.below (B := p) (Nat.le_refl _) (by have := HPL.out; simp; omega)))
  clear hs4 ho4 HS3 HL3 HB3
  cases q
  · have ⟨⟨k0, k1, k2, k3⟩, l0, l1, l2, l3⟩ := keep4 HL4.out
    go_wp2_with fail
    go_region
    go_wp2_with fail
    exact bodyPost_ret (v := .tuple #[.int .i64 x0, .int .i64 x1, .int .i64 x3]) (by simp [results, Tryd.results7, go_sem]) rfl ⟨⟨x0, x1, x3, ⟨HX.out.1, HX.out.2.1, HX.out.2.2.2⟩, rfl⟩, by rw [HP.out]; exact HB4.out.drew⟩
  · go_wp2_with fail
    refine (src_edge _ p len cap a HS4.out).mono ?_
    rintro e w5 ⟨⟨v0, rfl, c0, c1⟩, hs5, ho5⟩
    have HL5 := Lib.hid ((ho5.block w2.heap.size (lt_of_get HL4.out) (by have := HPL.out; omega)).trans HL4.out)
    have HB5 := Lib.hid (HB4.out.trans (ho5.below (B := p) (Nat.le_refl _) (Nat.le_of_lt HS4.out.lt)))
    have HV : Hid (OkI v0) := Lib.hid ⟨c0, c1⟩
    clear hs5 ho5
    have ⟨⟨k0, k1, k2, k3⟩, l0, l1, l2, l3⟩ := keep4 HL5.out
    have HB6 : Hid (Below p w (w5.setCell ⟨w2.heap.size, 3, none⟩ (.int .i64 v0))) := Lib.hid (HB5.out.setCell (by show p ≤ w2.heap.size; have := HPL.out; omega) _)
    go_wp2_with fail
    go_region
    go_wp2_with fail
    exact bodyPost_ret (v := .tuple #[.int .i64 x0, .int .i64 x1, .int .i64 v0]) (by simp [results, Tryd.results7, go_sem]) rfl ⟨⟨x0, x1, v0, ⟨HX.out.1, HX.out.2.1, HV.out⟩, rfl⟩, by rw [HP.out]; exact HB6.out.drew⟩
end Go.Proofs.YtlbjnblbjbdaaaaDoor.Draws
