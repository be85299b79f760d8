/-
  Contract: the model's DocRead answers what outP says, in new memory (under way: it ends in a hole). Conditions: a text of at most 2^20 bytes.
-/
import Derived.Test.YtnkknfnndoegpaaGreatDoorRows
import Derived.Test.YtnkknfnndoegpaaGreatDoorModDoc
import Derived.Deep.QuietTactic
import Derived.BigQuiet
import Derived.Test.YtnkknfnndoegpaaGreatDoorDocText
namespace Go.Proofs.YtnkknfnndoegpaaGreatDoor.Selss
open Go.RowKit Words Decs Splits
set_option linter.unusedVariables false
set_option maxRecDepth 100000

theorem pFrags_step {m : Nat} {V : List Tok} (h : word V = [102, 114, 97, 103, 109, 101, 110, 116]) :
    (pFrags (m + 1) V).1 = ⟨ub (word (V.drop 1)), ub (word (((V.drop 1).drop 1).drop 1)), (pSels 7 ((((V.drop 1).drop 1).drop 1).drop 1)).1⟩ :: (pFrags m (pSels 7 ((((V.drop 1).drop 1).drop 1).drop 1)).2).1 := by
  rw [pFrags, if_pos h]
theorem pFrags_stop {m : Nat} {V : List Tok} (h : word V ≠ [102, 114, 97, 103, 109, 101, 110, 116]) : (pFrags m V).1 = [] := by
  cases m with
  | zero => rfl
  | succ m => rw [pFrags, if_neg h]
/-- One more Frag is read. -/
theorem frags_more {V0 V1 V2 : List Tok} {L : List FragP} {x : FragP} (h : (pFrags 6 V0).1 = L ++ (pFrags (6 - L.length) V1).1) (hL : L.length ≤ 5) (h1 : ∀ m, (pFrags (m + 1) V1).1 = x :: (pFrags m V2).1) :
    (pFrags 6 V0).1 = (L ++ [x]) ++ (pFrags (6 - (L ++ [x]).length) V2).1 := by
  have e : 6 - L.length = (5 - L.length) + 1 := by omega
  rw [h, e, h1]
  simp

theorem bytes_nil {a : ByteArray} (h : a.toList = []) : a = ByteArray.empty := by
  rw [Lib.toList_data] at h
  exact ByteArray.ext (Array.toList_inj.1 h)
theorem rd_put {T : TypeId} {w : World} {p cap k : Nat} {a : Option Addr} {W : List Tok} (h : Rd T w p a cap W k) : Rd T (w.setCell ⟨p, 1, none⟩ (.int .i64 ((k : Int) + 1))) p a cap W (k + 1) := by
  refine ⟨heap_setCell_same w p 1 _ _ _ h.hd, fun i x hx => ?_, h.small, h.sizes⟩
  obtain ⟨b, off, ha, hb, hc⟩ := h.row i x hx
  have hne : b ≠ p := by omega
  exact ⟨b, off, ha, hb, (World.cell?_setCell_other _ _ _ _ (by simp)).trans hc⟩
theorem only_put (p : Nat) (w : World) (v : Value) : OnlyP p w (w.setCell ⟨p, 1, none⟩ v) := ⟨rfl, rfl, rfl, by simp, fun q _ hq => Go.Deep.blk_setCell_other w ⟨p, 1, none⟩ _ q hq⟩

set_option maxHeartbeats 8000000 in
theorem specDocRead (t : ByteArray) (ht : t.size ≤ 1048576) (w : World) :
    Calls Tryz.prog 4 #[.string t] w fun e w' => OutRes w w' t e := by
  have HA : Hid (∀ o, Below w.heap.size w (w.alloc o)) := Lib.hid fun o => (Below.refl _ _).alloc (Nat.le_refl _) o
  by_cases hbig : 8000 < t.size
  · have HO := Lib.hid (outP_big hbig)
    have hbi : (8000 : Int) < (t.size : Int) := by omega
    go_enter Tryz.func4, Tryz.ntmps4
    go_wp2_with fail
    exact bodyPost_ret (v := .agg #[.slice none 0 0, .slice none 0 0, .int .i64 2]) (by simp [results, Tryz.results4, go_sem]) rfl ⟨_, _, by rw [HO.out], HA.out _, by rw [HO.out]; exact zeroX _ _ _ (HA.out _).size⟩
  · have hbi : (t.size : Int) ≤ 8000 := by omega
    have CS := Lib.hid (fun w' => specSplit t ht 32 w')
    go_enter Tryz.func4, Tryz.ntmps4
    go_wp2_with fail
    refine (CS.out _).mono ?_
    rintro e w1 ⟨⟨a, cap, rfl, hst⟩, hb1⟩
    have hr := (hb1.block w.heap.size (by simp)).trans (heap_alloc_new w _)
    have HB1 := Lib.hid ((HA.out _).trans (hb1.mono (HA.out _).size))
    have hrd := rd_spec (cap := cap) (by omega : t.size ≤ 8000) hst
    have HRD := Lib.hid hrd
    clear hb1 hst hrd
    go_wp2_with fail
    have hA1 : Below w1.heap.size w1 (w1.alloc (.cells #[.slice a (splitL 32 (bl t)).length cap, .int .i64 0] 36)) := (Below.refl _ _).alloc (Nat.le_refl _) _
    change Calls _ _ _ (w1.alloc (.cells #[.slice a (splitL 32 (bl t)).length cap, .int .i64 0] 36)) _
    have hsm := HRD.out.small
    have hWL := HRD.out.sizes
    have hz1 := lt_of_get hr
    replace hr := (hA1.block w.heap.size hz1).trans hr
    have HB2 := Lib.hid (HB1.out.trans (hA1.mono (by omega)))
    have hpz := HRD.out.lt
    have HOUT : Hid (∀ d, docOf t = d → d = pDoc (splitL 32 (bl t))) := Lib.hid fun d h => h.symm
    clear hA1
    generalize w1.alloc (.cells #[.slice a (splitL 32 (bl t)).length cap, .int .i64 0] 36) = w2 at *
    generalize hW : splitL 32 (bl t) = W at *
    generalize hp : w1.heap.size = p at *
    have HWL := Lib.hid (fun k => word_len hWL k)
    have HWE := Lib.hid hW
    clear hp CS hWL hW
    refine (modOk 7 (by omega) w2 p cap 0 a W HRD.out (by omega)).mono ?_
    rintro e w3 ⟨a1, c1, k1, rfl, hsx, hR3, hd3, h1, h2, ho3⟩
    obtain ⟨s, hs⟩ : ∃ s, (pSels 7 (W.drop 0)).1 = s := ⟨_, rfl⟩
    rw [hs] at hsx ⊢
    replace hr := (ho3.block w.heap.size (by omega) (by omega)).trans hr
    have HB3 := Lib.hid (HB2.out.trans (ho3.toBelow (B := w.heap.size) (by omega) (by omega)))
    have hz3 := ho3.size
    have HS := Lib.hid hs
    have HX3 := Lib.hid hsx
    have HR3 := Lib.hid hR3
    have HD3 := Lib.hid hd3
    clear hs hsx hR3 hd3 ho3
    have hAd : Below w3.heap.size w3 (w3.alloc (.cells #[.slice a1 s.len c1, .slice none 0 0] 25)) := (Below.refl _ _).alloc (Nat.le_refl _) _
    have hgd := heap_alloc_new w3 (.cells #[.slice a1 s.len c1, .slice none 0 0] 25)
    have hrd := (hAd.block w.heap.size (by omega)).trans hr
    have HBd := Lib.hid (HB3.out.trans (hAd.mono (by omega)))
    have HXd := Lib.hid (HX3.out.below (Nat.le_refl _) hAd)
    have HRd := Lib.hid (HR3.out.below HR3.out.lt hAd)
    have hz23 : w2.heap.size ≤ w3.heap.size := hz3
    have hp3 := HR3.out.lt
    clear hr hAd
    go_wp2_with fail
    clear HB3 HX3 HR3
    generalize w3.alloc (.cells #[.slice a1 s.len c1, .slice none 0 0] 25) = wd at *
    generalize hg : w3.heap.size = g at *
    clear hg w3
    go_loopw [] (fun wr => ∃ (L : List RowF) (kc : Nat) (v : Value), L.length ≤ 6 ∧ kc ≤ 8200 + 100 * L.length ∧ Hid ((pFrags 6 (W.drop k1)).1 = L.map RowF.frag ++ (pFrags (6 - (L.map RowF.frag).length) (W.drop kc)).1) ∧ Hid (OwnFrag wr (g + 1) v L) ∧ Hid (RdS wr p a cap W kc) ∧ Hid (Below w.heap.size w wr) ∧ Hid (wr.heap[w.heap.size]? = some (.cells #[.slice none 0 0, .slice none 0 0, .int .i64 0] 27 (0, 0))) ∧ Hid (wr.heap[g]? = some (.cells #[.slice a1 s.len c1, v] 25 (0, 0))) ∧ Hid (SelsX wr w2.heap.size g a1 s.len s)) (fun wr => 7 - lenOf ((wr.cell? ⟨g, 1, none⟩).getD .nilIface))
    case atStart => exact ⟨[], k1, _, by simp, by simp; omega, Lib.hid (by simp), Lib.hid (OwnFrag.none_ _ _), HRd, HBd, Lib.hid hrd, Lib.hid hgd, HXd⟩
    case round =>
      obtain ⟨L, kc, v, hL, hkc, hfr, hown, hR, hB, hr, hs, hx⟩ := hrel
      have hLm := Lib.hid (show (L.map RowF.frag).length = L.length by simp)
      have hpg : p < g := hp3
      have c0 : wr.cell? ⟨p, 0, none⟩ = some (.slice a W.length cap) := cell_of hR.out.hd rfl
      have c1' : wr.cell? ⟨p, 1, none⟩ = some (.int .i64 kc) := cell_of hR.out.hd rfl
      have ⟨⟨g0, g1⟩, _⟩ := keep2 hs.out
      have CW := Lib.hid (rdWordQ wr p cap kc a W hR.out (by omega))
      have hgz := lt_of_get hs.out
      obtain ⟨hln, ao, co, rfl⟩ : lenOf v = L.length ∧ ∃ a c, v = .slice a L.length c := by
        obtain ⟨x, y, h⟩ := hown.out.len
        subst h; exact ⟨rfl, _, _, rfl⟩
      have hm0 : Hid (7 - lenOf ((wr.cell? ⟨g, 1, none⟩).getD .nilIface) = 7 - L.length) := Lib.hid (by rw [g1]; rfl)
      by_cases hw : word (W.drop kc) = [102, 114, 97, 103, 109, 101, 110, 116]
      · have hy : (ub (word (W.drop kc))).toList = [102, 114, 97, 103, 109, 101, 110, 116] := by rw [toList_ub]; exact hw
        have hyb : ((ub (word (W.drop kc))).toList == [102, 114, 97, 103, 109, 101, 110, 116]) = true := by rw [hy]; rfl
        by_cases hl5 : L.length ≤ 5
        · have hl5i : (L.length : Int) ≤ 5 := by omega
          have HWF := Lib.hid hw
          have HY := Lib.hid hy
          clear hw hy
          generalize ub (word (W.drop kc)) = y at *
          go_wp2_with fail
          refine CW.out.mono ?_
          rintro e wq0 ⟨rfl, nq, rfl⟩
          have BQ : Below wr.heap.size wr (wr.drewN nq) := ⟨rfl, rfl, rfl, Nat.le_refl _, fun _ _ => rfl⟩
          have RQ := Lib.hid (hR.out.drewN nq)
          have HBQ : Hid (Below w.heap.size w (wr.drewN nq)) := Lib.hid (hB.out.trans (BQ.mono hB.out.size))
          have hrq : Hid ((wr.drewN nq).heap[w.heap.size]? = _) := Lib.hid hr.out
          have hsq : Hid ((wr.drewN nq).heap[g]? = _) := Lib.hid hs.out
          have HXQ : Hid (SelsX (wr.drewN nq) w2.heap.size g a1 s.len s) := Lib.hid (hx.out.below (Nat.le_of_lt hgz) BQ)
          have HOQ : Hid (OwnFrag (wr.drewN nq) (g + 1) (.slice ao L.length co) L) := Lib.hid (hown.out.frame (w' := wr.drewN nq) (Nat.le_refl _) fun _ _ _ => rfl)
          have hgq : g < (wr.drewN nq).heap.size := hgz
          clear BQ hR hB hr hs hx hown c0 c1' g0 g1 CW hgz
          generalize wr.drewN nq = wq at *
          have c0 : wq.cell? ⟨p, 0, none⟩ = some (.slice a W.length cap) := cell_of RQ.out.hd rfl
          have c1' : wq.cell? ⟨p, 1, none⟩ = some (.int .i64 kc) := cell_of RQ.out.hd rfl
          have f1 := frozen_of_row wq p 1 _ _ RQ.out.hd
          have ⟨⟨g0, g1⟩, _⟩ := keep2 hsq.out
          have RX := Lib.hid (rd_put RQ.out)
          have OX := Lib.hid (only_put p wq (.int .i64 ((kc : Int) + 1)))
          go_wp2_with fail
          refine (rdNext _ p cap (kc + 1) a W RX.out (by omega)).mono ?_
          rintro e w5 ⟨rfl, hR5, ho5⟩
          have O5 := Lib.hid (OX.out.trans ho5)
          obtain ⟨nm, hnm⟩ : ∃ nm, ub (word (W.drop (kc + 1))) = nm := ⟨_, rfl⟩
          rw [hnm]
          have HOK : Hid (OkS nm) := Lib.hid (by rw [← hnm]; exact okS_ub (HWL.out _))
          have HNM := Lib.hid hnm
          have hz5 := O5.out.size
          have hA5 : Below w5.heap.size w5 (w5.alloc (.cells #[.string nm, .string ⟨#[]⟩, .slice none 0 0] 40)) := (Below.refl _ _).alloc (Nat.le_refl _) _
          have hf5 := Lib.hid (heap_alloc_new w5 (.cells #[.string nm, .string ⟨#[]⟩, .slice none 0 0] 40))
          have R5 := Lib.hid (hR5.below hR5.lt hA5)
          have O5A := Lib.hid (O5.out.below hz5 hA5)
          have hz5A : (w5.alloc (.cells #[.string nm, .string ⟨#[]⟩, .slice none 0 0] 40)).heap.size = w5.heap.size + 1 := by simp
          have d1 : (w5.alloc (.cells #[.string nm, .string ⟨#[]⟩, .slice none 0 0] 40)).cell? ⟨p, 1, none⟩ = some (.int .i64 ((kc + 1 + 1 : Nat) : Int)) := cell_of R5.out.hd rfl
          have fr1 := frozen_of_row _ p 1 _ _ R5.out.hd
          clear hnm hR5 ho5 hA5 c0 c1' f1 g0 g1
          go_wp2_with fail
          obtain ⟨w6, hw6⟩ : ∃ w6, (w5.alloc (.cells #[.string nm, .string ⟨#[]⟩, .slice none 0 0] 40)).setCell ⟨p, 1, none⟩ (.int .i64 ((kc : Int) + 1 + 1 + 1)) = w6 := ⟨_, rfl⟩
          have R6 : Hid (RdS w6 p a cap W (kc + 1 + 1 + 1)) := Lib.hid (by rw [← hw6]; exact rd_put R5.out)
          have O6 : Hid (OnlyP p wq w6) := Lib.hid (by rw [← hw6]; exact O5A.out.trans (only_put p _ _))
          have hf6 : Hid (w6.heap[w5.heap.size]? = some (.cells #[.string nm, .string ⟨#[]⟩, .slice none 0 0] 40 (0, 0))) := Lib.hid (by rw [← hw6]; exact (Go.Deep.blk_setCell_other _ ⟨p, 1, none⟩ _ w5.heap.size (by show w5.heap.size ≠ p; omega)).trans hf5.out)
          have hz6 : w6.heap.size = w5.heap.size + 1 := by rw [← hw6]; simp
          rw [hw6]
          clear d1 fr1 R5 O5 O5A hf5 hz5A OX RX
          refine (rdNext w6 p cap (kc + 1 + 1 + 1) a W R6.out (by omega)).mono ?_
          rintro e w7 ⟨rfl, hR7, ho7⟩
          have O7 := Lib.hid (O6.out.trans ho7)
          have R7 := Lib.hid hR7
          have hf7 := (ho7.block w5.heap.size (by omega) (by omega)).trans hf6.out
          obtain ⟨on, hon⟩ : ∃ on, ub (word (W.drop (kc + 1 + 1 + 1))) = on := ⟨_, rfl⟩
          rw [hon]
          have HOK2 : Hid (OkS on) := Lib.hid (by rw [← hon]; exact okS_ub (HWL.out _))
          have HON := Lib.hid hon
          have hz7 := ho7.size
          have ⟨⟨d0, d1, d2⟩, b0, b1, b2⟩ := keep3 hf7
          clear hw6 hon hR7 ho7 O6 R6 hf6
          have HF7 := Lib.hid hf7
          clear hf7
          go_wp2_with fail
          obtain ⟨w8, hw8⟩ : ∃ w8, w7.setCell ⟨w5.heap.size, 1, none⟩ (.string on) = w8 := ⟨_, rfl⟩
          have R8 : Hid (RdS w8 p a cap W (kc + 1 + 1 + 1 + 1)) := Lib.hid (by rw [← hw8]; exact Rd.put R7.out (by omega) _)
          have O8 : Hid (OnlyP p wq w8) := Lib.hid (by rw [← hw8]; exact O7.out.put (by omega) _)
          have hf8 : Hid (w8.heap[w5.heap.size]? = some (.cells #[.string nm, .string on, .slice none 0 0] 40 (0, 0))) := Lib.hid (by rw [← hw8]; exact heap_setCell_same w7 w5.heap.size 1 _ _ _ HF7.out)
          have hz8 : w8.heap.size = w7.heap.size := by rw [← hw8]; simp
          rw [hw8]
          clear d0 d1 d2 b0 b1 b2 R7 O7 HF7 hw8
          refine (modOk 7 (by omega) w8 p cap (kc + 1 + 1 + 1 + 1) a W R8.out (by omega)).mono ?_
          rintro e w9 ⟨a9, c9, k9, rfl, hsx9, hR9, hd9, h91, h92, ho9⟩
          obtain ⟨s9, hs9⟩ : ∃ s, (pSels 7 (W.drop (kc + 1 + 1 + 1 + 1))).1 = s := ⟨_, rfl⟩
          rw [hs9] at hsx9 ⊢
          have HS9 := Lib.hid hs9
          have O9 := Lib.hid (O8.out.trans ho9)
          have R9 := Lib.hid hR9
          have HX9 := Lib.hid hsx9
          have HD9 := Lib.hid hd9
          have hf9 := (ho9.block w5.heap.size (by omega) (by omega)).trans hf8.out
          have hz9 := ho9.size
          have hl9 := hsx9.2.1
          have ⟨⟨d0, d1, d2⟩, b0, b1, b2⟩ := keep3 hf9
          have HF9 := Lib.hid hf9
          have hs10 := Lib.hid ((O9.out.block g hgq (by omega)).trans hsq.out)
          have ⟨⟨g0, g1⟩, q0, q1⟩ := keep2 hs10.out
          clear hs9 hsx9 hR9 hd9 ho9 R8 O8 hf8 hf9
          obtain ⟨wz, hwz⟩ : ∃ wz, w9.setCell ⟨w5.heap.size, 2, none⟩ (.slice a9 s9.len c9) = wz := ⟨_, rfl⟩
          have ZR : Hid (RdS wz p a cap W k9) := Lib.hid (by rw [← hwz]; exact Rd.put R9.out (by omega) _)
          have ZO : Hid (OnlyP p wq wz) := Lib.hid (by rw [← hwz]; exact O9.out.put (by omega) _)
          have ZF : Hid (wz.heap[w5.heap.size]? = some (.cells #[.string nm, .string on, .slice a9 s9.len c9] 40 (0, 0))) := Lib.hid (by rw [← hwz]; exact heap_setCell_same w9 w5.heap.size 2 _ _ _ HF9.out)
          have ZS : Hid (wz.heap[g]? = some (.cells #[.slice a1 s.len c1, .slice ao L.length co] 25 (0, 0))) := Lib.hid (by rw [← hwz]; exact (Go.Deep.blk_setCell_other w9 ⟨w5.heap.size, 2, none⟩ _ g (by show g ≠ w5.heap.size; omega)).trans hs10.out)
          have ZX : Hid (SelsX wz w8.heap.size w9.heap.size a9 s9.len s9) := Lib.hid (by rw [← hwz]; exact HX9.out.block fun c x1 x2 => Go.Deep.blk_setCell_other w9 ⟨w5.heap.size, 2, none⟩ _ c (by show c ≠ w5.heap.size; omega))
          have hzz : wz.heap.size = w9.heap.size := by rw [← hwz]; simp
          clear HX9 R9 O9
          have HOWZ : Hid (OwnFrag wz (g + 1) (.slice ao L.length co) L) := Lib.hid (HOQ.out.frame (w' := wz) (by omega) fun c x1 x2 => ZO.out.block c x2 (by omega))
          have hA10 : Below wz.heap.size wz (wz.alloc (.cells #[.string nm, .string on, .slice a9 s9.len c9] 40)) := (Below.refl _ _).alloc (Nat.le_refl _) _
          have HC3 : Hid ((wz.alloc (.cells #[.string nm, .string on, .slice a9 s9.len c9] 40)).heap[w9.heap.size]? = some (.cells (RowF.cells ⟨nm, on, a9, c9, s9, w8.heap.size, w9.heap.size⟩).toArray 40 (0, 0))) := Lib.hid (by rw [← hzz]; exact heap_alloc_new wz _)
          have HOW3 := Lib.hid (HOWZ.out.frame hA10.size fun c _ c2 => hA10.block c c2)
          have HX3 := Lib.hid (ZX.out.below (by omega) hA10)
          have HO3 := Lib.hid (ZO.out.below ZO.out.size hA10)
          have HR3 := Lib.hid (ZR.out.below ZR.out.lt hA10)
          have hs3 := Lib.hid ((hA10.block g (by omega)).trans ZS.out)
          have hz10 : (wz.alloc (.cells #[.string nm, .string on, .slice a9 s9.len c9] 40)).heap.size = wz.heap.size + 1 := by simp
          have HLT : Hid (∀ gb, (Value.slice ao L.length co).ownBlock = some gb → gb < wq.heap.size) := Lib.hid fun gb hgb => (HOQ.out.own.lt gb hgb).2
          have HHI : Hid (∀ q ∈ L, q.hi ≤ w8.heap.size) := Lib.hid fun q hq => Nat.le_trans (HOQ.out.ok q hq).2.2.1 (by omega)
          have HOK3 : Hid (OkF (wz.alloc (.cells #[.string nm, .string on, .slice a9 s9.len c9] 40)) w8.heap.size w9.heap.size ⟨nm, on, a9, c9, s9, w8.heap.size, w9.heap.size⟩) := Lib.hid ⟨⟨HOK.out, HOK2.out⟩, HX3.out⟩
          have hX9c := Lib.hid hz9
          have ⟨⟨gz0, gz1⟩, qz0, qz1⟩ := keep2 ZS.out
          have ⟨⟨z0, z1, z2⟩, _⟩ := keep3 ZF.out
          have hwg : g + 1 ≤ w8.heap.size := by omega
          have hzlo : w9.heap.size ≤ (wz.alloc (.cells #[.string nm, .string on, .slice a9 s9.len c9] 40)).heap.size := by omega
          have hbase : g + 1 ≤ (wz.alloc (.cells #[.string nm, .string on, .slice a9 s9.len c9] 40)).heap.size := by omega
          have HLT2 : Hid (∀ gb, (Value.slice ao L.length co).ownBlock = some gb → gb < w8.heap.size) := Lib.hid fun gb hgb => Nat.lt_of_lt_of_le (HLT.out gb hgb) (by omega)
          have hL6 : L.length + 1 ≤ 1048576 := by omega
          have hgA : g < (wz.alloc (.cells #[.string nm, .string on, .slice a9 s9.len c9] 40)).heap.size := by omega
          clear hA10
          go_wp2_with (at_builtin; refine app_frag rfl _ _ rfl (g + 1) (.slice ao L.length co) L rfl HOW3.out w9.heap.size 1 rfl ⟨nm, on, a9, c9, s9, w8.heap.size, w9.heap.size⟩ HC3.out ⟨HOK3.out, hwg, hzlo, fun gb hgb => .inl (HLT2.out gb hgb)⟩ HHI.out hL6 hbase ?_; intro v4 w4 hown4 hb4; obtain ⟨a4, n4, cap4, rfl⟩ : ∃ a4 n4 cap4, v4 = .slice a4 n4 cap4 := (let ⟨x, y, h⟩ := hown4.len; ⟨x, _, y, h⟩); have hs4 := (hb4.block g (by omega)).trans hs3.out; have ⟨⟨t0, t1⟩, r0, r1⟩ := keep2 hs4)
          obtain ⟨wf, hwf⟩ : ∃ wf, w4.setCell ⟨g, 1, none⟩ (.slice a4 n4 cap4) = wf := ⟨_, rfl⟩
          have hoth : ∀ c, c ≠ g → wf.heap[c]? = w4.heap[c]? := fun c hc => by rw [← hwf]; exact Go.Deep.blk_setCell_other _ ⟨g, _, none⟩ _ c hc
          have hzf : wf.heap.size = w4.heap.size := by rw [← hwf]; simp
          have hz4 := hb4.size
          have F1 : Hid (RdS wf p a cap W k9) := Lib.hid (by rw [← hwf]; exact Rd.put (HR3.out.below (B := g + 1) (by omega) hb4) (by omega) _)
          have F2 : Hid (Below w.heap.size w wf) := Lib.hid (by
            have e1 : Below w.heap.size wq w4 := (HO3.out.toBelow (B := w.heap.size) (by omega) (by have := HBQ.out.size; omega)).trans (hb4.mono (by omega))
            rw [← hwf]; exact HBQ.out.trans (e1.setCell (p := ⟨g, 1, none⟩) (by show w.heap.size ≤ g; omega) _))
          have F3 : Hid (wf.heap[w.heap.size]? = some (.cells #[.slice none 0 0, .slice none 0 0, .int .i64 0] 27 (0, 0))) := Lib.hid ((hoth _ (by omega)).trans ((hb4.block _ (by omega)).trans ((HO3.out.block _ (by omega) (by omega)).trans hrq.out)))
          have F4 : Hid (wf.heap[g]? = some (.cells #[.slice a1 s.len c1, .slice a4 n4 cap4] 25 (0, 0))) := Lib.hid (by rw [← hwf]; exact heap_setCell_same w4 g 1 _ _ _ hs4)
          have F5 : Hid (SelsX wf w2.heap.size g a1 s.len s) := Lib.hid (HXQ.out.block fun c x1 x2 => (hoth c (by omega)).trans ((hb4.block c (by omega)).trans (HO3.out.block c (by omega) (by omega))))
          have F6 : Hid (OwnFrag wf (g + 1) (.slice a4 n4 cap4) (L ++ [⟨nm, on, a9, c9, s9, w8.heap.size, w9.heap.size⟩])) := Lib.hid (hown4.frame (w' := wf) (by omega) fun c x1 x2 => hoth c (by omega))
          have F7 : Hid ((pFrags 6 (W.drop k1)).1 = (L ++ [(⟨nm, on, a9, c9, s9, w8.heap.size, w9.heap.size⟩ : RowF)]).map RowF.frag ++ (pFrags (6 - ((L ++ [(⟨nm, on, a9, c9, s9, w8.heap.size, w9.heap.size⟩ : RowF)]).map RowF.frag).length) (W.drop k9)).1) := Lib.hid (by
            rw [List.map_append]
            refine frags_more hfr.out (by rw [hLm.out]; exact hl5) fun m => ?_
            rw [pFrags_step HWF.out]
            simp only [List.drop_drop]
            show (⟨ub (word (W.drop (kc + 1))), ub (word (W.drop (kc + 1 + 1 + 1))), (pSels 7 (W.drop (kc + 1 + 1 + 1 + 1))).1⟩ : FragP) :: (pFrags m (pSels 7 (W.drop (kc + 1 + 1 + 1 + 1))).2).1 = _
            rw [HNM.out, HON.out, HS9.out, HD9.out.out]
            rfl)
          have hsm' := hsm
          have hm1 : 7 - lenOf ((wf.cell? ⟨g, 1, none⟩).getD .nilIface) = 7 - (L.length + 1) := by
            have e := F6.out.own.1
            have ⟨⟨_, e1⟩, _⟩ := keep2 F4.out
            rw [e1]
            obtain ⟨x, y, h⟩ := F6.out.len
            cases h
            simp [lenOf]
          subst hwf
          go_roundw
          case rel => exact ⟨L ++ [⟨nm, on, a9, c9, s9, w8.heap.size, w9.heap.size⟩], k9, (.slice a4 n4 cap4), by simp; omega, by simp; omega, F7, F6, F1, F2, F3, F4, F5⟩
          case measure => rw [hm1, hm0.out]; omega
        · have hl6 : L.length = 6 := by omega
          have hl6i : ¬ (L.length : Int) ≤ 5 := by omega
          have hl6b : decide ((L.length : Int) ≤ 5) = false := decide_eq_false hl6i
          have HEND : Hid ((pFrags 6 (W.drop k1)).1 = L.map RowF.frag) := Lib.hid (by rw [hfr.out, hLm.out, hl6]; simp [pFrags])
          clear hl6 hw hy hl5
          generalize ub (word (W.drop kc)) = y at *
          go_wp2_with fail
          refine CW.out.mono ?_
          rintro e wq0 ⟨rfl, nq, rfl⟩
          have BQ : Below wr.heap.size wr (wr.drewN nq) := ⟨rfl, rfl, rfl, Nat.le_refl _, fun _ _ => rfl⟩
          have HBQ : Hid (Below w.heap.size w (wr.drewN nq)) := Lib.hid (hB.out.trans (BQ.mono hB.out.size))
          have hrq : Hid ((wr.drewN nq).heap[w.heap.size]? = _) := Lib.hid hr.out
          have hsq : Hid ((wr.drewN nq).heap[g]? = _) := Lib.hid hs.out
          have HXQ : Hid (SelsX (wr.drewN nq) w2.heap.size g a1 s.len s) := Lib.hid (hx.out.below (Nat.le_of_lt hgz) BQ)
          have HOQ : Hid (OwnFrag (wr.drewN nq) (g + 1) (.slice ao L.length co) L) := Lib.hid (hown.out.frame (w' := wr.drewN nq) (Nat.le_refl _) fun _ _ _ => rfl)
          have hgq : g < (wr.drewN nq).heap.size := hgz
          clear BQ hR hB hr hs hx hown c0 c1' g0 g1 CW hgz
          generalize wr.drewN nq = wq at *
          have ⟨⟨g0, g1⟩, _⟩ := keep2 hsq.out
          obtain ⟨a5, cap5, h5, hcl, hfx⟩ := HOQ.out.fragsX (by omega) (by omega)
          obtain ⟨rfl, rfl⟩ : ao = a5 ∧ co = cap5 := by simpa using h5
          have HDX : Hid (DocX wq w.heap.size wq.heap.size (.agg #[.slice a1 s.len c1, .slice ao L.length co]) ⟨s, L.map RowF.frag⟩) := Lib.hid ⟨a1, c1, ao, co, g + 1, by simp, HXQ.out.wide (by omega) (Nat.le_succ g), by simpa using hfx, by simpa using hcl⟩
          have HDD : Hid (docOf t = ⟨s, L.map RowF.frag⟩) := Lib.hid (by
            have e1 := HS.out
            have e2 := HD3.out.out
            have e3 := HEND.out
            rw [List.drop_zero] at e1 e2
            rw [e2] at e3
            show pDoc (splitL 32 (bl t)) = _
            rw [HWE.out]; unfold pDoc; rw [e1, e3])
          have HDP : Hid (DocX wq (w.heap.size + 1) wq.heap.size (.agg #[.slice a1 s.len c1, .slice ao L.length co]) ⟨s, L.map RowF.frag⟩) := Lib.hid ⟨a1, c1, ao, co, g + 1, by simp, HXQ.out.wide (by omega) (Nat.le_succ g), by simpa using hfx, by simpa using hcl⟩
          clear hfx h5 hcl
          go_wp2_with fail
          refine (specDocText wq w.heap.size wq.heap.size _ _ HDX.out.doc (Nat.le_refl _)).mono ?_
          rintro e w6 ⟨rfl, hb6⟩
          have hr6 := (hb6.block w.heap.size (by have := HBQ.out.size; omega)).trans hrq.out
          have hs6 := (hb6.block g hgq).trans hsq.out
          have HD6 := Lib.hid (HDX.out.below (Nat.le_refl _) hb6)
          have HB6 := Lib.hid (HBQ.out.trans (hb6.mono HBQ.out.size))
          have hwq := HBQ.out.size
          obtain ⟨dt, hdt⟩ : ∃ dt, docT ⟨s, L.map RowF.frag⟩ = dt := ⟨_, rfl⟩
          rw [hdt]
          have HDT := Lib.hid hdt
          have ⟨⟨x0, x1⟩, _⟩ := keep2 hs6
          clear hdt hrq hsq g0 g1
          by_cases heq : dt = t
          · have HD1 : Hid (DocX w6 (w.heap.size + 1) w6.heap.size (.agg #[.slice a1 s.len c1, .slice ao L.length co]) ⟨s, L.map RowF.frag⟩) := Lib.hid (DocX.wide (HDP.out.below (Nat.le_refl _) hb6) (Nat.le_refl _) hb6.size)
            by_cases hte : t = ByteArray.empty
            · have HO := Lib.hid (out_mod_not hbig (.inr hte))
              subst heq
              have htl : dt.toList = [] := by rw [hte, Lib.toList_data]; rfl
              have HTE := Lib.hid hte
              clear hte
              have HFX := Lib.hid (set3_block hr6 (.slice none 0 0) (.slice none 0 0) (.int .i64 3))
              have HBF := Lib.hid (set3_below HB6.out (g := w.heap.size) (Nat.le_refl _) (.slice none 0 0) (.slice none 0 0) (.int .i64 3))
              have HSZ := Lib.hid (set3_size w6 w.heap.size (.slice none 0 0) (.slice none 0 0) (.int .i64 3))
              have ⟨⟨v0, v1, v2⟩, v3, v4, v5⟩ := keep3 hr6
              have hz6 := hb6.size
              clear hr6 hs6 hb6
              go_wp2_with fail
              change bodyPost _ _ _ _ _ (set3 w6 w.heap.size (.slice none 0 0) (.slice none 0 0) (.int .i64 3))
              generalize set3 w6 w.heap.size (.slice none 0 0) (.slice none 0 0) (.int .i64 3) = WF at *
              have ⟨⟨f0, f1, f2⟩, _⟩ := keep3 HFX.out
              exact bodyPost_ret (v := .agg #[.slice none 0 0, .slice none 0 0, .int .i64 3]) (by simp [results, Tryz.results4, go_sem, f0, f1, f2]) rfl ⟨_, _, by rw [HO.out], HBF.out, by rw [HO.out]; exact zeroX _ _ _ (by rw [HSZ.out]; omega)⟩
            · have HO := Lib.hid (out_mod hbig (by rw [HDD.out]; exact HDT.out.trans heq) hte)
              subst heq
              have hn1 : dt.toList ≠ [] := fun e => hte (bytes_nil e)
              have hn2 : (dt.toList == []) = false := beq_eq_false_iff_ne.2 hn1
              have HFX := Lib.hid (set3_block hr6 (.slice a1 s.len c1) (.slice ao L.length co) (.int .i64 0))
              have HBF := Lib.hid (set3_below HB6.out (g := w.heap.size) (Nat.le_refl _) (.slice a1 s.len c1) (.slice ao L.length co) (.int .i64 0))
              have HSZ := Lib.hid (set3_size w6 w.heap.size (.slice a1 s.len c1) (.slice ao L.length co) (.int .i64 0))
              have hz6 := hb6.size
              have HDF : Hid (DocX (set3 w6 w.heap.size (.slice a1 s.len c1) (.slice ao L.length co) (.int .i64 0)) w.heap.size (set3 w6 w.heap.size (.slice a1 s.len c1) (.slice ao L.length co) (.int .i64 0)).heap.size (.agg #[.slice a1 s.len c1, .slice ao L.length co]) ⟨s, L.map RowF.frag⟩) := Lib.hid (by
                obtain ⟨q1, q2, q3, q4, q5, q6, q7, q8, q9⟩ := HD1.out
                refine DocX.wide (A := w.heap.size + 1) (B := w6.heap.size) ?_ (Nat.le_succ _) (by rw [HSZ.out]; exact Nat.le_refl _)
                exact DocX.block ⟨q1, q2, q3, q4, q5, q6, q7, q8, q9⟩ fun c x1 x2 => set3_other w6 w.heap.size _ _ _ c (by omega))
              have ⟨⟨v0, v1, v2⟩, v3, v4, v5⟩ := keep3 hr6
              clear hr6 hs6 hb6
              go_wp2_with fail
              change bodyPost _ _ _ _ _ (set3 w6 w.heap.size (.slice a1 s.len c1) (.slice ao L.length co) (.int .i64 0))
              generalize set3 w6 w.heap.size (.slice a1 s.len c1) (.slice ao L.length co) (.int .i64 0) = WF at *
              have ⟨⟨f0, f1, f2⟩, _⟩ := keep3 HFX.out
              exact bodyPost_ret (v := .agg #[.slice a1 s.len c1, .slice ao L.length co, .int .i64 0]) (by simp [results, Tryz.results4, go_sem, f0, f1, f2]) rfl ⟨_, _, by rw [HO.out], HBF.out, by rw [HO.out, HDD.out]; exact HDF.out⟩
          · have HO := Lib.hid (out_mod_not hbig (.inl (by rw [HDD.out, HDT.out]; exact heq)))
            have hn1 := toList_ne heq
            have hn2 := toList_beq heq
            have HFX := Lib.hid (set3_block hr6 (.slice none 0 0) (.slice none 0 0) (.int .i64 3))
            have HBF := Lib.hid (set3_below HB6.out (g := w.heap.size) (Nat.le_refl _) (.slice none 0 0) (.slice none 0 0) (.int .i64 3))
            have HSZ := Lib.hid (set3_size w6 w.heap.size (.slice none 0 0) (.slice none 0 0) (.int .i64 3))
            have ⟨⟨v0, v1, v2⟩, v3, v4, v5⟩ := keep3 hr6
            have hz6 := hb6.size
            clear hr6 hs6 hb6
            go_wp2_with fail
            change bodyPost _ _ _ _ _ (set3 w6 w.heap.size (.slice none 0 0) (.slice none 0 0) (.int .i64 3))
            generalize set3 w6 w.heap.size (.slice none 0 0) (.slice none 0 0) (.int .i64 3) = WF at *
            have ⟨⟨f0, f1, f2⟩, _⟩ := keep3 HFX.out
            exact bodyPost_ret (v := .agg #[.slice none 0 0, .slice none 0 0, .int .i64 3]) (by simp [results, Tryz.results4, go_sem, f0, f1, f2]) rfl ⟨_, _, by rw [HO.out], HBF.out, by rw [HO.out]; exact zeroX _ _ _ (by rw [HSZ.out]; omega)⟩
      · have hy : (ub (word (W.drop kc))).toList ≠ [102, 114, 97, 103, 109, 101, 110, 116] := by rw [toList_ub]; exact hw
        have hyb : ((ub (word (W.drop kc))).toList == [102, 114, 97, 103, 109, 101, 110, 116]) = false := beq_eq_false_iff_ne.2 hy
        have HEND : Hid ((pFrags 6 (W.drop k1)).1 = L.map RowF.frag) := Lib.hid (by rw [hfr.out, pFrags_stop hw, List.append_nil])
        clear hw
        generalize ub (word (W.drop kc)) = y at *
        go_wp2_with fail
        refine CW.out.mono ?_
        rintro e wq0 ⟨rfl, nq, rfl⟩
        have BQ : Below wr.heap.size wr (wr.drewN nq) := ⟨rfl, rfl, rfl, Nat.le_refl _, fun _ _ => rfl⟩
        have HBQ : Hid (Below w.heap.size w (wr.drewN nq)) := Lib.hid (hB.out.trans (BQ.mono hB.out.size))
        have hrq : Hid ((wr.drewN nq).heap[w.heap.size]? = _) := Lib.hid hr.out
        have hsq : Hid ((wr.drewN nq).heap[g]? = _) := Lib.hid hs.out
        have HXQ : Hid (SelsX (wr.drewN nq) w2.heap.size g a1 s.len s) := Lib.hid (hx.out.below (Nat.le_of_lt hgz) BQ)
        have HOQ : Hid (OwnFrag (wr.drewN nq) (g + 1) (.slice ao L.length co) L) := Lib.hid (hown.out.frame (w' := wr.drewN nq) (Nat.le_refl _) fun _ _ _ => rfl)
        have hgq : g < (wr.drewN nq).heap.size := hgz
        clear BQ hR hB hr hs hx hown c0 c1' g0 g1 CW hgz
        generalize wr.drewN nq = wq at *
        have ⟨⟨g0, g1⟩, _⟩ := keep2 hsq.out
        obtain ⟨a5, cap5, h5, hcl, hfx⟩ := HOQ.out.fragsX (by omega) (by omega)
        obtain ⟨rfl, rfl⟩ : ao = a5 ∧ co = cap5 := by simpa using h5
        have HDX : Hid (DocX wq w.heap.size wq.heap.size (.agg #[.slice a1 s.len c1, .slice ao L.length co]) ⟨s, L.map RowF.frag⟩) := Lib.hid ⟨a1, c1, ao, co, g + 1, by simp, HXQ.out.wide (by omega) (Nat.le_succ g), by simpa using hfx, by simpa using hcl⟩
        have HDD : Hid (docOf t = ⟨s, L.map RowF.frag⟩) := Lib.hid (by
          have e1 := HS.out
          have e2 := HD3.out.out
          have e3 := HEND.out
          rw [List.drop_zero] at e1 e2
          rw [e2] at e3
          show pDoc (splitL 32 (bl t)) = _
          rw [HWE.out]; unfold pDoc; rw [e1, e3])
        have HDP : Hid (DocX wq (w.heap.size + 1) wq.heap.size (.agg #[.slice a1 s.len c1, .slice ao L.length co]) ⟨s, L.map RowF.frag⟩) := Lib.hid ⟨a1, c1, ao, co, g + 1, by simp, HXQ.out.wide (by omega) (Nat.le_succ g), by simpa using hfx, by simpa using hcl⟩
        clear hfx h5 hcl
        go_wp2_with fail
        refine (specDocText wq w.heap.size wq.heap.size _ _ HDX.out.doc (Nat.le_refl _)).mono ?_
        rintro e w6 ⟨rfl, hb6⟩
        have hr6 := (hb6.block w.heap.size (by have := HBQ.out.size; omega)).trans hrq.out
        have hs6 := (hb6.block g hgq).trans hsq.out
        have HD6 := Lib.hid (HDX.out.below (Nat.le_refl _) hb6)
        have HB6 := Lib.hid (HBQ.out.trans (hb6.mono HBQ.out.size))
        have hwq := HBQ.out.size
        obtain ⟨dt, hdt⟩ : ∃ dt, docT ⟨s, L.map RowF.frag⟩ = dt := ⟨_, rfl⟩
        rw [hdt]
        have HDT := Lib.hid hdt
        have ⟨⟨x0, x1⟩, _⟩ := keep2 hs6
        clear hdt hrq hsq g0 g1
        by_cases heq : dt = t
        · have HD1 : Hid (DocX w6 (w.heap.size + 1) w6.heap.size (.agg #[.slice a1 s.len c1, .slice ao L.length co]) ⟨s, L.map RowF.frag⟩) := Lib.hid (DocX.wide (HDP.out.below (Nat.le_refl _) hb6) (Nat.le_refl _) hb6.size)
          by_cases hte : t = ByteArray.empty
          · have HO := Lib.hid (out_mod_not hbig (.inr hte))
            subst heq
            have htl : dt.toList = [] := by rw [hte, Lib.toList_data]; rfl
            have HTE := Lib.hid hte
            clear hte
            have HFX := Lib.hid (set3_block hr6 (.slice none 0 0) (.slice none 0 0) (.int .i64 3))
            have HBF := Lib.hid (set3_below HB6.out (g := w.heap.size) (Nat.le_refl _) (.slice none 0 0) (.slice none 0 0) (.int .i64 3))
            have HSZ := Lib.hid (set3_size w6 w.heap.size (.slice none 0 0) (.slice none 0 0) (.int .i64 3))
            have ⟨⟨v0, v1, v2⟩, v3, v4, v5⟩ := keep3 hr6
            have hz6 := hb6.size
            clear hr6 hs6 hb6
            go_wp2_with fail
            change bodyPost _ _ _ _ _ (set3 w6 w.heap.size (.slice none 0 0) (.slice none 0 0) (.int .i64 3))
            generalize set3 w6 w.heap.size (.slice none 0 0) (.slice none 0 0) (.int .i64 3) = WF at *
            have ⟨⟨f0, f1, f2⟩, _⟩ := keep3 HFX.out
            exact bodyPost_ret (v := .agg #[.slice none 0 0, .slice none 0 0, .int .i64 3]) (by simp [results, Tryz.results4, go_sem, f0, f1, f2]) rfl ⟨_, _, by rw [HO.out], HBF.out, by rw [HO.out]; exact zeroX _ _ _ (by rw [HSZ.out]; omega)⟩
          · have HO := Lib.hid (out_mod hbig (by rw [HDD.out]; exact HDT.out.trans heq) hte)
            subst heq
            have hn1 : dt.toList ≠ [] := fun e => hte (bytes_nil e)
            have hn2 : (dt.toList == []) = false := beq_eq_false_iff_ne.2 hn1
            have HFX := Lib.hid (set3_block hr6 (.slice a1 s.len c1) (.slice ao L.length co) (.int .i64 0))
            have HBF := Lib.hid (set3_below HB6.out (g := w.heap.size) (Nat.le_refl _) (.slice a1 s.len c1) (.slice ao L.length co) (.int .i64 0))
            have HSZ := Lib.hid (set3_size w6 w.heap.size (.slice a1 s.len c1) (.slice ao L.length co) (.int .i64 0))
            have hz6 := hb6.size
            have HDF : Hid (DocX (set3 w6 w.heap.size (.slice a1 s.len c1) (.slice ao L.length co) (.int .i64 0)) w.heap.size (set3 w6 w.heap.size (.slice a1 s.len c1) (.slice ao L.length co) (.int .i64 0)).heap.size (.agg #[.slice a1 s.len c1, .slice ao L.length co]) ⟨s, L.map RowF.frag⟩) := Lib.hid (by
              obtain ⟨q1, q2, q3, q4, q5, q6, q7, q8, q9⟩ := HD1.out
              refine DocX.wide (A := w.heap.size + 1) (B := w6.heap.size) ?_ (Nat.le_succ _) (by rw [HSZ.out]; exact Nat.le_refl _)
              exact DocX.block ⟨q1, q2, q3, q4, q5, q6, q7, q8, q9⟩ fun c x1 x2 => set3_other w6 w.heap.size _ _ _ c (by omega))
            have ⟨⟨v0, v1, v2⟩, v3, v4, v5⟩ := keep3 hr6
            clear hr6 hs6 hb6
            go_wp2_with fail
            change bodyPost _ _ _ _ _ (set3 w6 w.heap.size (.slice a1 s.len c1) (.slice ao L.length co) (.int .i64 0))
            generalize set3 w6 w.heap.size (.slice a1 s.len c1) (.slice ao L.length co) (.int .i64 0) = WF at *
            have ⟨⟨f0, f1, f2⟩, _⟩ := keep3 HFX.out
            exact bodyPost_ret (v := .agg #[.slice a1 s.len c1, .slice ao L.length co, .int .i64 0]) (by simp [results, Tryz.results4, go_sem, f0, f1, f2]) rfl ⟨_, _, by rw [HO.out], HBF.out, by rw [HO.out, HDD.out]; exact HDF.out⟩
        · have HO := Lib.hid (out_mod_not hbig (.inl (by rw [HDD.out, HDT.out]; exact heq)))
          have hn1 := toList_ne heq
          have hn2 := toList_beq heq
          have HFX := Lib.hid (set3_block hr6 (.slice none 0 0) (.slice none 0 0) (.int .i64 3))
          have HBF := Lib.hid (set3_below HB6.out (g := w.heap.size) (Nat.le_refl _) (.slice none 0 0) (.slice none 0 0) (.int .i64 3))
          have HSZ := Lib.hid (set3_size w6 w.heap.size (.slice none 0 0) (.slice none 0 0) (.int .i64 3))
          have ⟨⟨v0, v1, v2⟩, v3, v4, v5⟩ := keep3 hr6
          have hz6 := hb6.size
          clear hr6 hs6 hb6
          go_wp2_with fail
          change bodyPost _ _ _ _ _ (set3 w6 w.heap.size (.slice none 0 0) (.slice none 0 0) (.int .i64 3))
          generalize set3 w6 w.heap.size (.slice none 0 0) (.slice none 0 0) (.int .i64 3) = WF at *
          have ⟨⟨f0, f1, f2⟩, _⟩ := keep3 HFX.out
          exact bodyPost_ret (v := .agg #[.slice none 0 0, .slice none 0 0, .int .i64 3]) (by simp [results, Tryz.results4, go_sem, f0, f1, f2]) rfl ⟨_, _, by rw [HO.out], HBF.out, by rw [HO.out]; exact zeroX _ _ _ (by rw [HSZ.out]; omega)⟩
end Go.Proofs.YtnkknfnndoegpaaGreatDoor.Selss
