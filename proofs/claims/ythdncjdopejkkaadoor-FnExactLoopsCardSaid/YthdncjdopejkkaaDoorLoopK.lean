/-
  Contract: impl.reached tells the names that a Frag reaches; of what was there nothing is changed. Conditions: in memory, Frags of at most 60 selections.
-/
import Derived.Test.YthdncjdopejkkaaDoorRows
import Derived.Test.YthdncjdopejkkaaDoorLoopJ
namespace Go.Proofs.YthdncjdopejkkaaDoor.Selss
open Go.RowKit Words Go.Maps
set_option linter.unusedVariables false
set_option maxRecDepth 100000

theorem allN_le2 {l : List FragP} {x : FragP} (hx : x.sels.all ≤ 60) (hl : fragAll l ≤ 60) : (allN l x.sels.spr).length ≤ 120 := by
  have h1 := flat_len l
  have h2 := Sels.spr_len x.sels
  rw [allN_len]; omega
theorem fragOr_all {nm : ByteArray} : ∀ {l : List FragP}, (fragOr nm l).sels.all ≤ fragAll l
  | [] => Nat.le_refl _
  | x :: l => by
    have := fragOr_all (nm := nm) (l := l)
    unfold fragOr at this ⊢
    unfold fragIn
    split
    · simp only [Option.getD_some, fragAll]; omega
    · simp only [fragAll]; omega
/-- What reached tells: a map of its own that holds the names that are reached. -/
def ReachOut (w : World) (l : List FragP) (s0 : List ByteArray) (e : Ending) : Prop := ∃ b n D, e = .returned (.map (some b)) ∧ Nm.OwnM w b n D ∧ ∃ seen, Nm.SD seen D ∧ ∀ m, m ∈ seen ↔ Reach l s0 m

set_option maxHeartbeats 4000000 in
theorem implReached (w : World) (A B : Nat) (a : Option Addr) (cap : Nat) (l : List FragP) (fv : Value) (x : FragP) (hs : FragsAt w A B a l.length l) (hx : FragV w A B fv x) (hB : B ≤ w.heap.size) (hxa : x.sels.all ≤ 60) (hall : fragAll l ≤ 60) :
    Calls Tryd.prog 39 #[.slice a l.length cap, fv] w fun e w' => ReachOut w' l x.sels.spr e ∧ Below w.heap.size w w' := by
  obtain ⟨xa, xc, rfl, hxo, hxs⟩ := hx
  have HF := Lib.hid hs
  have HXS := Lib.hid hxs
  have HXA := Lib.hid hxa
  have HALL := Lib.hid hall
  have HN := Lib.hid (allN_le2 hxa hall)
  have hlen := hs.2.1
  have HSO := Lib.hid hxs.sprOk
  clear hs hxs hxo hxa hall
  have hmm := @run_makeMap Tryd.prog
  go_enter Tryd.func39, Tryd.ntmps39
  go_wp2_with fail
  have hz0 : ((w.alloc (.cells #[.string x.name, .string x.on, .slice xa x.sels.len xc] 59)).alloc (.map #[] 0)).heap.size = w.heap.size + 2 := by simp
  have HZ0 := Lib.hid hz0
  have HM0 : Hid (Nm.OwnM ((w.alloc (.cells #[.string x.name, .string x.on, .slice xa x.sels.len xc] 59)).alloc (.map #[] 0)) (w.heap.size + 1) 0 (.map [])) := Lib.hid (by
    have := World.ownsMap_made (w.alloc (.cells #[.string x.name, .string x.on, .slice xa x.sels.len xc] 59)) Tryd.prog 9 Nm.RV
    simpa using this)
  have HB0 : Hid (Below w.heap.size w ((w.alloc (.cells #[.string x.name, .string x.on, .slice xa x.sels.len xc] 59)).alloc (.map #[] 0))) := Lib.hid (((Below.refl _ _).alloc (Nat.le_refl _) _).alloc (by simp) _)
  generalize (w.alloc (.cells #[.string x.name, .string x.on, .slice xa x.sels.len xc] 59)).alloc (.map #[] 0) = w0 at *
  clear hmm hz0
  refine (implAddSpreads (x.sels.all + 1) x.sels (Nat.lt_succ_self _) w0 A B xa xc (w.heap.size + 2) (.slice none 0 0) [] (HXS.out.below hB HB0.out) (by omega) (by have := HZ0.out; omega) (Nm.OwnTs.nil _ _) (by simp) (by have := HXA.out; simp; omega)).mono ?_
  rintro e w1 ⟨⟨v1, rfl, ho1⟩, hb1⟩
  obtain ⟨a1, c1, rfl⟩ := ho1.slice
  have HO1 : Hid (Nm.OwnTs w1 (w.heap.size + 2) (.slice a1 x.sels.spr.length c1) x.sels.spr) := Lib.hid ho1
  have HB1 := Lib.hid (HB0.out.trans (hb1.mono (by omega)))
  have HM1 : Hid (Nm.OwnM w1 (w.heap.size + 1) 0 (.map [])) := Lib.hid (Nm.OwnM.same HM0.out (hb1.block (w.heap.size + 1) (by omega)))
  have HZ1 := Lib.hid (show w.heap.size + 2 ≤ w1.heap.size by have := HZ0.out; have := hb1.size; omega)
  have HWS := Lib.hid (WorkI.start l x.sels.spr)
  clear hb1 ho1
  go_wp2_with fail
  go_loopw [6, 7] (fun v q wr => ∃ (k' : Nat) (names seen : List ByteArray) (av : Option Addr) (cv : Nat) (D : DataW Value), k' ≤ names.length ∧ v = .slice av names.length cv ∧ q = .int .i64 k' ∧ Hid (WorkI l x.sels.spr names seen k') ∧ Hid (Nm.OwnTs wr (w.heap.size + 2) (.slice av names.length cv) names) ∧ Hid (Nm.OwnM wr (w.heap.size + 1) k' D) ∧ Hid (Nm.SD seen D) ∧ w.heap.size + 2 ≤ wr.heap.size ∧ Below w.heap.size w wr) (fun _ q _ => (allN l x.sels.spr).length - (intOf q).toNat)
  case atStart => exact ⟨0, x.sels.spr, [], a1, c1, .map [], by omega, rfl, rfl, HWS, HO1, HM1, Lib.hid Nm.SD.nil, HZ1.out, HB1.out⟩
  case round =>
    obtain ⟨k, names, seen, av, cv, D, hk, rfl, rfl, HW, HO, HM, HS, hz, hb⟩ := hrel
    have HB := Lib.hid hb
    have HZ := Lib.hid hz
    have h120 := HN.out
    have hmany := HW.out.many
    have HLE := Lib.hid (show names.length ≤ (allN l x.sels.spr).length by omega)
    have HOKS : Hid (∀ y, y ∈ names → OkS y) := Lib.hid fun y hy => (HW.out.reach y hy).ok HF.out HSO.out
    by_cases hlt : k < names.length
    · have hli : (k : Int) < (names.length : Int) := by omega
      have hk120 : (k : Int) ≤ 120 := by omega
      obtain ⟨a9, c9, he, hcc, ht⟩ := HO.out.at_ HOKS.out (by omega)
      cases he
      obtain ⟨m, gb, go, hgm, rfl, hgA, hgB, hmok, hmc⟩ := ht.at hlt
      rw [Nat.mul_one] at hmc
      have HGM := Lib.hid hgm
      have HLK := Lib.hid hlt
      have HMOK := Lib.hid hmok
      have hrun := HS.out.look HM.out m hmok
      obtain ⟨p, hp⟩ : ∃ p, Nm.inN m seen = p := ⟨_, rfl⟩
      have HP := Lib.hid hp
      rw [hp] at hrun
      clear hlt ht hgm hmok hb hp hmany
      cases p
      · have hkey := Nm.hkeyS m HMOK.out
        have HW2 := Lib.hid (HW.out.mark HGM.out (Nm.inN_not.1 HP.out))
        go_wp2_with (at_mapUpdate; refine wpList_mapUpdate_own _ rfl _ _ _ 82 rfl 9 4 Nm.lawS Tryd.underlying82 Nm.RV (w.heap.size + 1) k D rfl HM.out (by unfold maxLen; omega) _ _ _ rfl rfl hkey _ [] rfl ?_; intro w2 hown2 hgrow2; have e4 := (World.cell?_of_block (w := wr) (a := ⟨gb, go + k, none⟩) (hgrow2.block gb hgB (by simp; omega))).trans hmc)
        have HB2 := Lib.hid (HB.out.grown hgrow2 HB.out.size (fun j hj => by cases hj; exact Nat.le_succ _))
        have HX2 : Hid (Below (w.heap.size + 1) wr w2) := Lib.hid ((Below.refl _ _).grown hgrow2 (by have := HZ.out; omega) (fun j hj => by cases hj; exact Nat.le_refl _))
        have HO2 := Lib.hid (HO.out.frame (w' := w2) (fun c hc hc2 => hgrow2.block c hc2 (by simp; omega)))
        have HM2 := Lib.hid hown2
        have HS2 := Lib.hid (HS.out.put m)
        have HZ2 := Lib.hid (Nat.le_trans HZ.out HX2.out.size)
        have hgb2 : gb < w2.heap.size := Nat.lt_of_lt_of_le hgB HX2.out.size
        clear hgrow2 hown2 hrun hmc
        refine (implFragNamed w2 A B a cap l m HMOK.out (HF.out.below (Nat.le_refl _) (HB2.out.mono hB)) (Nat.le_trans hB HB2.out.size)).mono ?_
        rintro e w3 ⟨⟨fv, rfl, ⟨ya, yc, rfl, hyo, hys⟩⟩, hb3⟩
        have HYS := Lib.hid hys
        have HB3 := Lib.hid (HB2.out.trans (hb3.mono HB2.out.size))
        have HX3 := Lib.hid (HX2.out.trans (hb3.mono (by have := HZ2.out; omega)))
        have HO3 := Lib.hid (HO2.out.below hb3)
        have HM3 := Lib.hid (Nm.OwnM.same HM2.out (hb3.block (w.heap.size + 1) (by have := HZ2.out; omega)))
        have HZ3 := Lib.hid (Nat.le_trans HZ2.out hb3.size)
        have f4 := Rw.kcell hb3 hgb2 e4
        have HSP := Lib.hid (sprOf_or m l)
        have HYA := Lib.hid (fragOr_all (nm := m) (l := l))
        generalize fragOr m l = y at *
        generalize (fragIn m l).isSome = yb at *
        have HXA3 : Hid (∀ o, Below (w.heap.size + 2) w3 (w3.alloc o)) := Lib.hid fun o => (Below.refl _ _).alloc HZ3.out o
        have CA : Hid (∀ o, Calls Tryd.prog 56 #[.slice (some ⟨gb, go, none⟩) names.length cv, .slice ya y.sels.len yc] (w3.alloc o) fun e w'' => (∃ v', e = .returned v' ∧ Nm.OwnTs w'' (w.heap.size + 2) v' (names ++ y.sels.spr)) ∧ Below (w.heap.size + 2) (w3.alloc o) w'') := Lib.hid fun o =>
          implAddSpreads (y.sels.all + 1) y.sels (Nat.lt_succ_self _) (w3.alloc o) A B ya yc (w.heap.size + 2) _ names (HYS.out.below (by omega) (HXA3.out o)) (by omega) (Nat.le_trans HZ3.out (HXA3.out o).size) (HO3.out.below ((Below.refl _ _).alloc (Nat.le_refl _) o)) HOKS.out (by have e1 := HYA.out; have e2 := HALL.out; have e3 := HLE.out; omega)
        clear hb3 hyo hys e4
        go_wp2_with fail
        refine (CA.out _).mono ?_
        rintro e w4 ⟨⟨v4, rfl, ho4⟩, hb4⟩
        obtain ⟨a4, c4, rfl⟩ := ho4.slice
        have HO4 := Lib.hid ho4
        have HX4 := Lib.hid ((HXA3.out _).trans hb4)
        have HB4 := Lib.hid (HB3.out.trans (HX4.out.mono (by omega)))
        have HM4 := Lib.hid (Nm.OwnM.same HM3.out (HX4.out.block (w.heap.size + 1) (by omega)))
        have HZ4 := Lib.hid (Nat.le_trans HZ3.out HX4.out.size)
        have HW4 : Hid (WorkI l x.sels.spr (names ++ y.sels.spr) (m :: seen) (k + 1)) := Lib.hid (by have := HW2.out; rw [HSP.out] at this; exact this)
        clear hb4 ho4 f4
        go_wp2_with fail
        go_roundw
        case rel => exact ⟨k + 1, names ++ y.sels.spr, m :: seen, a4, c4, _, by have := HLK.out; rw [List.length_append]; omega, by simp, by go_num, HW4, HO4, HM4, HS2, HZ4.out, HB4.out⟩
        case measure => have e1 := HLK.out; have e2 := HLE.out; simp [intOf]; omega
      · have HW2 := Lib.hid (HW.out.skip HGM.out (Nm.inN_mem.1 HP.out))
        go_wp2_with fail
        go_roundw
        case rel => exact ⟨k + 1, names, seen, _, _, D, by have := HLK.out; omega, rfl, by go_num, HW2, HO, Lib.hid (HM.out.mono (Nat.le_succ _)), HS, HZ.out, HB.out⟩
        case measure => have e1 := HLK.out; have e2 := HLE.out; simp [intOf]; omega
    · obtain rfl : k = names.length := by omega
      clear hlt hb
      go_wp2_with fail
      go_ret
      exact ⟨⟨w.heap.size + 1, _, D, rfl, HM.out, seen, HS.out, fun m => HW.out.end_⟩, HB.out⟩
end Go.Proofs.YthdncjdopejkkaaDoor.Selss
