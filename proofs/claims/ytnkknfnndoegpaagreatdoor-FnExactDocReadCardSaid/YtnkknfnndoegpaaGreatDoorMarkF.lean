/-
  Contracts: laws.markFragS, markDoc, markDocOut write marks into Frags, a Doc, laws.heldFragS, heldDoc, heldDocOut tell that they are there still; of what was there nothing else is changed. Conditions: apart in memory, marks from 1 to 10^6.
-/
import Derived.Test.YtnkknfnndoegpaaGreatDoorRows
import Derived.Test.YtnkknfnndoegpaaGreatDoorHeld
namespace Go.Proofs.YtnkknfnndoegpaaGreatDoor.Selss
open Go.RowKit Decs Texts Bytes
set_option linter.unusedVariables false
set_option maxRecDepth 100000

/-- Frags with marks from k on. -/
def fragsMark : List FragP → Nat → List FragP
  | [], _ => []
  | x :: l, k => ⟨mkT k, mkT (k + 1), x.sels.mark (k + 2)⟩ :: fragsMark l (k + 2 + 4 * x.sels.all)
/-- How many marks Frags take. -/
def fragsNum : List FragP → Nat
  | [] => 0
  | x :: l => 2 + 4 * x.sels.all + fragsNum l
theorem fragsMark_len : ∀ (l : List FragP) (k : Nat), (fragsMark l k).length = l.length
  | [], _ => rfl
  | x :: l, k => by simp only [fragsMark, List.length_cons, fragsMark_len l]
theorem fragsNum_drop {l : List FragP} {i : Nat} {x : FragP} (h : l[i]? = some x) : fragsNum (l.drop i) = 2 + 4 * x.sels.all + fragsNum (l.drop (i + 1)) := by
  obtain ⟨hl, rfl⟩ := List.getElem?_eq_some_iff.1 h
  rw [List.drop_eq_getElem_cons hl]; rfl
theorem fragsNum_le : ∀ (i : Nat) (l : List FragP), fragsNum (l.drop i) ≤ fragsNum l
  | 0, l => Nat.le_refl _
  | i + 1, [] => Nat.le_refl _
  | i + 1, x :: l => by have := fragsNum_le i l; simp only [List.drop_succ_cons, fragsNum]; omega
theorem fragsMark_at : ∀ (i : Nat) (l : List FragP) (k : Nat) {x : FragP}, l[i]? = some x →
    (fragsMark l k)[i]? = some ⟨mkT (k + (fragsNum l - fragsNum (l.drop i))), mkT (k + (fragsNum l - fragsNum (l.drop i)) + 1), x.sels.mark (k + (fragsNum l - fragsNum (l.drop i)) + 2)⟩
  | i, [], k, x, h => by simp at h
  | 0, y :: l, k, x, h => by
    simp at h; subst h
    rw [List.drop_zero, Nat.sub_self, Nat.add_zero]; rfl
  | i + 1, y :: l, k, x, h => by
    have ih := fragsMark_at i l (k + 2 + 4 * y.sels.all) (x := x) (by simpa using h)
    have hl := fragsNum_le i l
    have e : k + 2 + 4 * y.sels.all + (fragsNum l - fragsNum (l.drop i)) = k + (fragsNum (y :: l) - fragsNum ((y :: l).drop (i + 1))) := by
      simp only [List.drop_succ_cons, fragsNum]; omega
    rw [e] at ih
    show (fragsMark l (k + 2 + 4 * y.sels.all))[i]? = _
    exact ih
theorem row3 {w : World} {b o : Nat} {v0 v1 v2 : Value} (h0 : w.cell? ⟨b, o, none⟩ = some v0) (h1 : w.cell? ⟨b, o + 1, none⟩ = some v1) (h2 : w.cell? ⟨b, o + 2, none⟩ = some v2) : RowN w b o [v0, v1, v2] := fun j v hj => by
  match j, hj with
  | 0, hj => cases hj; exact h0
  | 1, hj => cases hj; exact h1
  | 2, hj => cases hj; exact h2

set_option maxHeartbeats 4000000 in
theorem markFragS (w : World) (A B : Nat) (a : Option Addr) (len cap : Nat) (l : List FragP) (k : Nat) (hs : FragsX w A B a len l) (hB : B ≤ w.heap.size) (h1 : 1 ≤ k) (hk : k + fragsNum l ≤ 900000) :
    Calls Tryz.prog 30 #[.slice a len cap, .int .i64 k] w fun e w' => e = .returned (.int .i64 ((k + fragsNum l : Nat) : Int)) ∧ FragsX w' A B a len (fragsMark l k) ∧ Within A B w w' := by
  obtain ⟨rfl, hlen, hAB, hx⟩ := hs
  rcases hx with rfl | ⟨b, off, rfl, hA, hbB, hl⟩
  · go_enter Tryz.func30, Tryz.ntmps30
    go_wp2_with fail
    go_loopw [1, 5] (fun v i wr => v = .int .i64 k ∧ i = .int .i64 0 ∧ w = wr) (fun _ _ _ => 0)
    case atStart => exact ⟨rfl, rfl, rfl⟩
    case round =>
      obtain ⟨rfl, rfl, rfl⟩ := hrel
      go_wp2_with fail
      go_ret
      exact ⟨ret_i (by simp [fragsNum]), ⟨rfl, by simp, hAB, .inl rfl⟩, Within.refl _ _ _⟩
  have HL := Lib.hid hl
  clear hl
  go_enter Tryz.func30, Tryz.ntmps30
  go_wp2_with fail
  go_loopw [1, 5] (fun v i wr => ∃ (i' M kk : Nat), i' ≤ l.length ∧ Hid (kk = k + (fragsNum l - fragsNum (l.drop i'))) ∧ kk ≤ 900000 ∧ v = .int .i64 kk ∧ i = .int .i64 i' ∧ LieFX wr ((fragsMark l k).take i') A M b off ∧ LieFX wr (l.drop i') M B b (off + i' * 3) ∧ Within A B w wr) (fun _ i _ => l.length - (intOf i).toNat)
  case atStart => exact ⟨0, A, k, by omega, Lib.hid (by rw [List.drop_zero]; omega), by omega, rfl, rfl, by rw [List.take_zero]; exact Nat.le_refl _, by rw [List.drop_zero, Nat.zero_mul, Nat.add_zero]; exact HL.out, Within.refl _ _ _⟩
  case round =>
    obtain ⟨i, M, kk, hi, hkk, hk9, rfl, rfl, hp, ht, hw⟩ := hrel
    have HP := Lib.hid hp
    have HW := Lib.hid hw
    clear hp hw
    by_cases hlt : i < l.length
    · have hli : (i : Int) < (l.length : Int) := by omega
      obtain ⟨x, hd⟩ : ∃ x, l[i]? = some x := ⟨l[i], List.getElem?_eq_getElem hlt⟩
      have hst := Lib.hid (fragsNum_drop hd)
      have hdl := Lib.hid (fragsNum_le i l)
      have hmt := Lib.hid (fragsMark_at i l k hd)
      have hdc : l.drop i = x :: l.drop (i + 1) := by
        obtain ⟨hl, e⟩ := List.getElem?_eq_some_iff.1 hd
        rw [List.drop_eq_getElem_cons hl, e]
      rw [hdc] at ht
      obtain ⟨ok, hfree, c0, c1, a', cap', lo, hi', c2, g1, g3, g4, hu, hr⟩ := ht
      have g2 := hu.2.2.1
      have hkk2 : kk + 2 + 4 * x.sels.all ≤ 900000 := by have e1 := hkk.out; have e2 := hst.out; have e3 := hdl.out; omega
      have HF := Lib.hid hfree
      have HU := Lib.hid hu
      have HR := Lib.hid hr
      have R0 := Lib.hid (row3 c0 c1 c2)
      have hBw := Lib.hid (Nat.le_trans hB HW.out.size)
      have CM1 : Hid (∀ w, Calls Tryz.prog 51 #[.int .i64 kk] w fun e w' => e = .returned (.string (mkT kk)) ∧ Below w.heap.size w w') := Lib.hid fun w => markText kk (by have e1 := hkk.out; omega) (by omega) w
      have CM2 : Hid (∀ w, Calls Tryz.prog 51 #[.int .i64 ((kk : Int) + 1)] w fun e w' => e = .returned (.string (mkT (kk + 1))) ∧ Below w.heap.size w w') := Lib.hid fun w => markText (kk + 1) (by omega) (by omega) w
      have CU : Hid (∀ w, SelsX w lo hi' a' x.sels.len x.sels → hi' ≤ w.heap.size → Calls Tryz.prog 29 #[.slice a' x.sels.len cap', .int .i64 ((kk : Int) + 1 + 1)] w fun e w' => e = .returned (.int .i64 ((kk + 2 + 4 * x.sels.all : Nat) : Int)) ∧ SelsX w' lo hi' a' x.sels.len (x.sels.mark (kk + 2)) ∧ Within lo hi' w w') := Lib.hid fun w h1 h2 => markSelS (x.sels.all + 1) x.sels (Nat.lt_succ_self _) w lo hi' a' cap' (kk + 2) h1 h2 (by omega) (by omega)
      have X0 := Lib.hid (Round.refl 3 b (off + i * 3) 0 0 wr)
      clear hd hdc ok hfree hu hr c0 c1 c2 hlt
      go_wp2_with fail
      refine (CM1.out _).mono ?_
      rintro e w2 ⟨rfl, hb2⟩
      have X2 := Lib.hid (X0.out.below HF.out hb2)
      have R2 := Lib.hid (R0.out.block (hb2.block b HF.out.lt))
      have q0 := R2.out 0 _ rfl
      rw [Nat.add_zero] at q0
      have p0 := (X2.out.free HF.out).frozen (off + i * 3)
      have X3 := Lib.hid (X2.out.set (j := off + i * 3) (by omega) (by omega) (.string (mkT kk)))
      have R3 : Hid (RowN (w2.setCell ⟨b, off + i * 3, none⟩ (.string (mkT kk))) b (off + i * 3) [.string (mkT kk), .string x.on, .slice a' x.sels.len cap']) := Lib.hid (R2.out.put (j := 0) (by simp) _)
      clear hb2
      go_wp2_with fail
      refine (CM2.out _).mono ?_
      rintro e w4 ⟨rfl, hb4⟩
      have X4 := Lib.hid (X3.out.below HF.out hb4)
      have R4 := Lib.hid (R3.out.block (hb4.block b (X3.out.free HF.out).lt))
      have q1 := R4.out 1 _ rfl
      have q2 := R4.out 2 _ rfl
      have p1 := (X4.out.free HF.out).frozen (off + i * 3 + 1)
      have X6 := Lib.hid (X4.out.set (j := off + i * 3 + 1) (by omega) (by omega) (.string (mkT (kk + 1))))
      have R6 : Hid (RowN (w4.setCell ⟨b, off + i * 3 + 1, none⟩ (.string (mkT (kk + 1)))) b (off + i * 3) [.string (mkT kk), .string (mkT (kk + 1)), .slice a' x.sels.len cap']) := Lib.hid (R4.out.put (j := 1) (by simp) _)
      clear hb4 q0 p0
      go_wp2_with fail
      generalize w4.setCell ⟨b, off + i * 3 + 1, none⟩ (.string (mkT (kk + 1))) = w6 at *
      refine (CU.out w6 (HU.out.block (fun c d1 d2 => X6.out.other c (by have := hBw.out; omega) (by omega) (by omega))) (by have := hBw.out; have := X6.out.size; omega)).mono ?_
      rintro e w7 ⟨rfl, hs7, hw7⟩
      have X7 := Lib.hid (X6.out.weak.within (lo := lo) (hi := hi') HF.out g4 hw7)
      have R7 := Lib.hid (R6.out.block (hw7.block b (X6.out.free HF.out).lt (by omega)))
      have hW7 := Lib.hid (HW.out.trans (X7.out.toWithin hA hbB (by have := HP.out.le; omega) g3 g2))
      have hpre : Hid (LieFX w7 ((fragsMark l k).take (i + 1)) A hi' b off) := Lib.hid (by
        have hlen2 : ((fragsMark l k).take i).length = i := by rw [List.length_take, fragsMark_len]; omega
        have hple := HP.out.le
        rw [List.take_add_one, hmt.out, ← hkk.out]
        refine LieFX.join (M := M) (HP.out.frame (fun c d1 d2 d3 => X7.out.other c (by have := hBw.out; omega) d3 (by omega)) X7.out.free (fun j j1 j2 => X7.out.cells j (by rw [hlen2] at j2; omega))) ?_
        rw [hlen2]
        have OkT : ∀ m : Nat, m ≤ 1000000 → OkS (mkT m) := fun m hm => by
          have := decL_len 6 m (by have : (10 : Nat) ^ (6 + 1) = 10000000 := by decide
                                   omega)
          unfold OkS mkT
          simp [ByteArray.size]; omega
        refine ⟨⟨OkT _ (by omega), OkT _ (by omega)⟩, X7.out.free HF.out, R7.out 0 _ rfl, R7.out 1 _ rfl, a', cap', lo, hi', ?_, g1, Nat.le_refl _, g4, ?_, Nat.le_refl _⟩
        · show _ = some (Value.slice a' (x.sels.mark (kk + 2)).len cap')
          rw [Sels.mark_len]; exact R7.out 2 _ rfl
        · show SelsX w7 lo hi' a' (x.sels.mark (kk + 2)).len (x.sels.mark (kk + 2))
          rw [Sels.mark_len]; exact hs7)
      have hpost : Hid (LieFX w7 (l.drop (i + 1)) hi' B b (off + (i + 1) * 3)) := Lib.hid (by
        rw [show off + (i + 1) * 3 = off + i * 3 + 3 by omega]
        exact HR.out.frame (fun c d1 d2 d3 => X7.out.other c (by have := hBw.out; omega) d3 (by omega)) X7.out.free (fun j j1 j2 => X7.out.cells j (by omega)))
      have hkn : Hid (kk + 2 + 4 * x.sels.all = k + (fragsNum l - fragsNum (l.drop (i + 1)))) := Lib.hid (by
        have e1 := hkk.out; have e2 := hst.out; have e3 := hdl.out; omega)
      clear hs7 hw7 q1 q2 p1
      go_wp2_with fail
      go_roundw
      case rel => exact ⟨i + 1, hi', kk + 2 + 4 * x.sels.all, by omega, hkn, hkk2, rfl, by go_num, hpre.out, hpost.out, hW7.out⟩
      case measure => simp [intOf]; omega
    · obtain rfl : i = l.length := by omega
      have hfin : Hid (kk = k + fragsNum l) := Lib.hid (by have e1 := hkk.out; rw [List.drop_length] at e1; simpa [fragsNum] using e1)
      have hall2 : Hid (FragsX wr A B (some ⟨b, off, none⟩) l.length (fragsMark l k)) := Lib.hid ⟨fragsMark_len l k, hlen, hAB, .inr ⟨b, off, rfl, hA, hbB, by
        have e1 := HP.out
        rw [← fragsMark_len l k, List.take_length] at e1
        rw [List.drop_length] at ht
        exact e1.wide (Nat.le_refl _) ht⟩⟩
      clear ht hlt
      go_wp2_with fail
      go_ret
      exact ⟨ret_i (by rw [hfin.out]), hall2.out, HW.out⟩

set_option maxHeartbeats 4000000 in
theorem heldFragS (w : World) (A B : Nat) (a : Option Addr) (len cap : Nat) (l : List FragP) (k : Nat) (hs : FragsAt w A B a len (fragsMark l k)) (hB : B ≤ w.heap.size) (h1 : 1 ≤ k) (hk : k + fragsNum l ≤ 900000) :
    Calls Tryz.prog 32 #[.slice a len cap, .int .i64 k] w fun e w' => e = .returned (.int .i64 ((k + fragsNum l : Nat) : Int)) ∧ Below w.heap.size w w' := by
  have hll : l.length = len := by rw [← hs.1, fragsMark_len]
  have hlen := hs.2.1
  have HS := Lib.hid hs
  clear hs
  go_enter Tryz.func32, Tryz.ntmps32
  go_wp2_with fail
  go_loopw [1, 5] (fun v i wr => ∃ (i' kk : Nat), i' ≤ len ∧ Hid (kk = k + (fragsNum l - fragsNum (l.drop i'))) ∧ kk ≤ 900000 ∧ v = .int .i64 kk ∧ i = .int .i64 i' ∧ Below w.heap.size w wr) (fun _ i _ => len - (intOf i).toNat)
  case atStart => exact ⟨0, k, by omega, Lib.hid (by rw [List.drop_zero]; omega), by omega, rfl, rfl, Below.refl _ _⟩
  case round =>
    obtain ⟨i, kk, hi, hkk, hk9, rfl, rfl, hb⟩ := hrel
    have HB := Lib.hid hb
    by_cases hlt : i < len
    · have hli : (i : Int) < (len : Int) := by omega
      obtain ⟨x, hd⟩ : ∃ x, l[i]? = some x := ⟨l[i], List.getElem?_eq_getElem (by omega)⟩
      have hst := Lib.hid (fragsNum_drop hd)
      have hdl := Lib.hid (fragsNum_le i l)
      have hmt := fragsMark_at i l k hd
      obtain ⟨y, b, off, a', cap', hd2, rfl, hbb, hok, ⟨hc0, hc1, hc2⟩, hu⟩ := (HS.out.below (Nat.le_refl _) (hb.mono hB)).at hlt
      rw [hmt, ← hkk.out] at hd2
      cases hd2
      dsimp only at hc0 hc1 hc2 hu
      rw [Sels.mark_len] at hc2 hu
      have hkk1 : 1 ≤ kk := by have e1 := hkk.out; omega
      have hkk2 : kk + 2 + 4 * x.sels.all ≤ 900000 := by have e1 := hkk.out; have e2 := hst.out; have e3 := hdl.out; omega
      have CM1 : Hid (∀ w, Calls Tryz.prog 51 #[.int .i64 kk] w fun e w' => e = .returned (.string (mkT kk)) ∧ Below w.heap.size w w') := Lib.hid fun w => markText kk hkk1 (by omega) w
      have CM2 : Hid (∀ w, Calls Tryz.prog 51 #[.int .i64 ((kk : Int) + 1)] w fun e w' => e = .returned (.string (mkT (kk + 1))) ∧ Below w.heap.size w w') := Lib.hid fun w => markText (kk + 1) (by omega) (by omega) w
      have CU : Hid (∀ w, SelsAt w A B a' x.sels.len (x.sels.mark (kk + 2)) → B ≤ w.heap.size → Calls Tryz.prog 31 #[.slice a' x.sels.len cap', .int .i64 ((kk : Int) + 1 + 1)] w fun e w' => e = .returned (.int .i64 ((kk + 2 + 4 * x.sels.all : Nat) : Int)) ∧ Below w.heap.size w w') := Lib.hid fun w h1 h2 => heldSelS (x.sels.all + 1) x.sels (Nat.lt_succ_self _) w A B a' cap' (kk + 2) h1 h2 (by omega) (by omega)
      have hkn : Hid (kk + 2 + 4 * x.sels.all = k + (fragsNum l - fragsNum (l.drop (i + 1)))) := Lib.hid (by
        have e1 := hkk.out; have e2 := hst.out; have e3 := hdl.out; omega)
      have hblt : b < wr.heap.size := by have := HB.out.size; omega
      have hbd : b < wr.drew.heap.size := hblt
      have x0 : wr.drew.cell? ⟨b, off + i * 3, none⟩ = some (.string (mkT kk)) := hc0
      have x1 : wr.drew.cell? ⟨b, off + i * 3 + 1, none⟩ = some (.string (mkT (kk + 1))) := hc1
      have x2 : wr.drew.cell? ⟨b, off + i * 3 + 2, none⟩ = some (.slice a' x.sels.len cap') := hc2
      have HBd := Lib.hid HB.out.drew
      have HUd : Hid (SelsAt wr.drew A B a' x.sels.len (x.sels.mark (kk + 2))) := Lib.hid hu.drew
      clear hd hb hlt hok hu hmt
      go_wp2_with fail
      go_region_held3 (fun w' => w'.cell? ⟨b, off + i * 3, none⟩ = some (.string (mkT kk))) (go_keep)
        (first | (go_at_call 51; refine (CM1.out _).mono ?_; rintro e w2 ⟨rfl, hb2⟩; have d0 := kcell hb2 hbd x0))
      all_goals
        have HB2 := Lib.hid (HBd.out.trans (hb2.mono HBd.out.size))
        have d1 := kcell hb2 hbd x1
        have d2 := kcell hb2 hbd x2
        have hblt2 : b < w2.heap.size := Nat.lt_of_lt_of_le hbd hb2.size
        have hbd2 : b < w2.drew.heap.size := hblt2
        have HU2 := Lib.hid (HUd.out.below (Nat.le_trans hB HBd.out.size) hb2).drew
        have y1 : w2.drew.cell? ⟨b, off + i * 3 + 1, none⟩ = some (.string (mkT (kk + 1))) := d1
        have y2 : w2.drew.cell? ⟨b, off + i * 3 + 2, none⟩ = some (.slice a' x.sels.len cap') := d2
        have HB2d := Lib.hid HB2.out.drew
        clear hb2 hc0 hc1 hc2 x0 x1 x2 d0 d2 HB2
        go_wp2_with fail
        go_region_held3 (fun w' => w'.cell? ⟨b, off + i * 3 + 1, none⟩ = some (.string (mkT (kk + 1)))) (go_keep)
          (first | (go_at_call 51; refine (CM2.out _).mono ?_; rintro e w3 ⟨rfl, hb3⟩; have e1 := kcell hb3 hbd2 y1))
        all_goals
          have HB3 := Lib.hid (HB2d.out.trans (hb3.mono HB2d.out.size))
          have e2 := kcell hb3 hbd2 y2
          have HU3 := Lib.hid (HU2.out.below (Nat.le_trans hB HB2d.out.size) hb3)
          clear hb3 y1 y2 d1 HB2d
          go_wp2_with fail
          refine (CU.out _ HU3.out (Nat.le_trans hB HB3.out.size)).mono ?_
          rintro e w4 ⟨rfl, hb4⟩
          have HB4 := Lib.hid (HB3.out.trans (hb4.mono HB3.out.size))
          clear hb4 e2
          go_wp2_with fail
          go_roundw
          case rel => exact ⟨i + 1, kk + 2 + 4 * x.sels.all, by omega, hkn, hkk2, rfl, by go_num, HB4.out⟩
          case measure => simp [intOf]; omega
    · obtain rfl : i = len := by omega
      have hfin : Hid (kk = k + fragsNum l) := Lib.hid (by have e1 := hkk.out; rw [← hll, List.drop_length] at e1; simpa [fragsNum] using e1)
      clear hlt hb
      go_wp2_with fail
      go_ret
      exact ⟨ret_i (by rw [hfin.out]), HB.out⟩
end Go.Proofs.YtnkknfnndoegpaaGreatDoor.Selss
