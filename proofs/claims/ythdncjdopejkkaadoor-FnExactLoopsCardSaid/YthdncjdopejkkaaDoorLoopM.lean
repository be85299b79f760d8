/-
  Contracts: spec.l05Loops, Loops: which Frag comes first to spread itself; of what was there nothing is changed. Conditions: in memory.
-/
import Derived.Test.YthdncjdopejkkaaDoorRows
import Derived.Test.YthdncjdopejkkaaDoorSprM
import Derived.Deep.RegionWith
namespace Go.Proofs.YthdncjdopejkkaaDoor.Selss
open Go.RowKit Words
set_option linter.unusedVariables false
set_option maxRecDepth 100000

theorem findN_lt {nm : ByteArray} : ∀ {l : List FragP} {k : Nat}, findN nm l k < (k : Int) + l.length ∧ (findN nm l k = -1 ∨ (k : Int) ≤ findN nm l k)
  | [], k => ⟨by simp only [findN, List.length_nil]; omega, .inl rfl⟩
  | x :: l, k => by
    have h := findN_lt (nm := nm) (l := l) (k := k + 1)
    unfold findN; split
    · simp only [List.length_cons]; omega
    · simp only [List.length_cons]; omega
theorem findN_none {nm : ByteArray} : ∀ {l : List FragP} {k : Nat}, findN nm l k = -1 → fragIn nm l = none
  | [], k, _ => rfl
  | x :: l, k, h => by
    unfold findN at h
    unfold fragIn
    split at h
    · omega
    · rename_i hx; rw [if_neg hx]; exact findN_none h
theorem findN_some {nm : ByteArray} : ∀ {l : List FragP} {k i : Nat} {x : FragP}, findN nm l k = ((k + i : Nat) : Int) → l[i]? = some x → fragIn nm l = some x
  | [], k, i, x, h, hx => by simp at hx
  | y :: l, k, i, x, h, hx => by
    unfold findN at h
    unfold fragIn
    split at h
    · rename_i hy
      have e : i = 0 := by omega
      subst e; cases hx
      rw [if_pos hy]
    · rename_i hy
      rw [if_neg hy]
      cases i with
      | zero =>
        have := (findN_lt (nm := nm) (l := l) (k := k + 1)).2
        omega
      | succ i =>
        exact findN_some (k := k + 1) (i := i) (by rw [h]; congr 1; omega) (by simpa using hx)
theorem sprOf_none {nm : ByteArray} {l : List FragP} (h : findN nm l 0 = -1) : sprOf l nm = [] := by unfold sprOf; rw [findN_none h]
theorem sprOf_some {nm : ByteArray} {l : List FragP} {i : Nat} {x : FragP} (h : findN nm l 0 = (i : Int)) (hx : l[i]? = some x) : sprOf l nm = x.sels.spr := by
  unfold sprOf; rw [findN_some (k := 0) (i := i) (by rw [h]; simp) hx]
theorem ret_s {a b : ByteArray} (h : a = b) : Ending.returned (.string a) = .returned (.string b) := by rw [h]
theorem flat_len : ∀ l : List FragP, (l.flatMap fun x => x.sels.spr).length ≤ fragAll l
  | [] => Nat.le_refl _
  | x :: l => by
    have h1 := flat_len l
    have h2 := Sels.spr_len x.sels
    rw [List.flatMap_cons, List.length_append]; simp only [fragAll]; omega
theorem fragAll_mem {x : FragP} : ∀ {l : List FragP} {i : Nat}, l[i]? = some x → x.sels.all ≤ fragAll l
  | y :: l, 0, h => by cases h; simp only [fragAll]; omega
  | y :: l, i + 1, h => by have := fragAll_mem (l := l) (i := i) (by simpa using h); simp only [fragAll]; omega
theorem allN_le {l : List FragP} {x : FragP} {i : Nat} (h : l[i]? = some x) (hl : fragAll l ≤ 60) : (allN l x.sels.spr).length ≤ 120 := by
  have h1 := flat_len l
  have h2 := Sels.spr_len x.sels
  have h3 := fragAll_mem h
  rw [allN_len]; omega
theorem frags_below {w w' : World} {A B len : Nat} {a : Option Addr} {l : List FragP} {C : Nat} (h : FragsAt w A B a len l) (hB : B ≤ C) (g : Below C w w') : FragsAt w' A B a len l := h.below hB g

set_option maxHeartbeats 4000000 in
theorem specL05Loops (w : World) (A B : Nat) (v : Value) (d : DocP) (hs : DocAt w A B v d) (hB : B ≤ w.heap.size) (hall : fragAll d.frags ≤ 60) :
    Calls Tryd.prog 15 #[v] w fun e w' => e = .returned (.string (loopN d.frags d.frags)) ∧ Below w.heap.size w w' := by
  have HDC := Lib.hid hs
  obtain ⟨a, ca, b, cb, rfl, _, hf, _⟩ := hs
  have HF := Lib.hid hf
  have HA : Hid (∀ o, Below w.heap.size w (w.alloc o)) := Lib.hid fun o => (Below.refl _ _).alloc (Nat.le_refl _) o
  have hlen := hf.2.1
  have HALL := Lib.hid hall
  clear hf hall
  go_enter Tryd.func15, Tryd.ntmps15
  go_wp2_with fail
  have k0 : (w.alloc (.cells #[.slice a d.sels.len ca, .slice b d.frags.length cb] 31)).cell? ⟨w.heap.size, 0, none⟩ = some (.slice a d.sels.len ca) := by simp
  have k1 : (w.alloc (.cells #[.slice a d.sels.len ca, .slice b d.frags.length cb] 31)).cell? ⟨w.heap.size, 1, none⟩ = some (.slice b d.frags.length cb) := by simp
  go_loopw [3] (fun i wr => ∃ (i' : Nat), i' ≤ d.frags.length ∧ Hid (loopN d.frags d.frags = loopN d.frags (d.frags.drop i')) ∧ i = .int .i64 i' ∧ wr.cell? ⟨w.heap.size, 0, none⟩ = some (.slice a d.sels.len ca) ∧ wr.cell? ⟨w.heap.size, 1, none⟩ = some (.slice b d.frags.length cb) ∧ w.heap.size + 1 ≤ wr.heap.size ∧ Below w.heap.size w wr) (fun i _ => d.frags.length - (intOf i).toNat)
  case atStart => exact ⟨0, by omega, Lib.hid (by rw [List.drop_zero]), rfl, k0, k1, by simp, HA.out _⟩
  case round =>
    obtain ⟨i, hi, hm, rfl, hk0, hk1, hz, hb⟩ := hrel
    have HB := Lib.hid hb
    obtain ⟨wo, hwo⟩ : ∃ wo, wo = wr := ⟨_, rfl⟩
    subst hwo
    clear k0 k1
    by_cases hlt : i < d.frags.length
    · have hli : (i : Int) < (d.frags.length : Int) := by omega
      obtain ⟨x, fb, off, a', cap', hd, rfl, hbb, hok, ⟨hc0, hc1, hc2⟩, hu⟩ := (HF.out.below (Nat.le_refl _) (hb.mono hB)).at hlt
      have HZ := Lib.hid hz
      have HD := Lib.hid hd
      have HU := Lib.hid hu
      have HOK := Lib.hid hok
      have hfb : fb < w.heap.size + 1 := by omega
      have HFB := Lib.hid hfb
      have KB : Hid (∀ X, Below (w.heap.size + 1) wo X → (X.cell? ⟨w.heap.size, 0, none⟩ = some (.slice a d.sels.len ca) ∧ X.cell? ⟨w.heap.size, 1, none⟩ = some (.slice (some ⟨fb, off, none⟩) d.frags.length cb)) ∧ X.cell? ⟨fb, off + i * 3, none⟩ = some (.string x.name) ∧ X.cell? ⟨fb, off + i * 3 + 2, none⟩ = some (.slice a' x.sels.len cap')) :=
        Lib.hid fun X h => ⟨⟨(h.cell (p := ⟨w.heap.size, 0, none⟩) (Nat.lt_succ_self _)).trans hk0, (h.cell (p := ⟨w.heap.size, 1, none⟩) (Nat.lt_succ_self _)).trans hk1⟩, (h.cell (p := ⟨fb, off + i * 3, none⟩) HFB.out).trans hc0, (h.cell (p := ⟨fb, off + i * 3 + 2, none⟩) HFB.out).trans hc2⟩
      have HSO := Lib.hid hu.sprOk
      have HN := Lib.hid (allN_le hd HALL.out)
      have HXA := Lib.hid (fragAll_mem hd)
      have CS : Hid (∀ (w' : World) (v1 : Value) (cur : List ByteArray), Below (w.heap.size + 1) wo w' → Nm.OwnTs w' (w.heap.size + 1) v1 cur → (∀ x, x ∈ cur → OkS x) → cur.length ≤ 120 → Calls Tryd.prog 31 #[.slice a' x.sels.len cap', v1] w' fun e w'' => (∃ v', e = .returned v' ∧ Nm.OwnTs w'' (w.heap.size + 1) v' (addS cur x.sels.spr)) ∧ Below (w.heap.size + 1) w' w'') :=
        Lib.hid fun w' v1 cur h h1 h2 h3 => specSpreads (x.sels.all + 1) x.sels (Nat.lt_succ_self _) w' A B a' cap' (w.heap.size + 1) v1 cur (HU.out.below (Nat.le_succ_of_le hB) h) (Nat.le_succ_of_le hB) (Nat.le_trans HZ.out h.size) h1 h2 (by have := HXA.out; have := HALL.out; omega)
      have HWA : Hid (∀ o, Below (w.heap.size + 1) wo (wo.alloc o)) := Lib.hid fun o => (Below.refl _ _).alloc HZ.out o
      have HOE : Hid (Nm.OwnTs (wo.alloc (.cells #[] 9)) (w.heap.size + 1) (.slice (some ⟨wo.heap.size, 0, none⟩) 0 0) []) := Lib.hid (World.ownsRow_made wo #[] 0 HZ.out (by decide) rfl)
      clear hlt hd hb hu hok hfb
      go_wp2_with fail
      refine (CS.out _ _ [] (HWA.out _) HOE.out (by simp) (by simp)).mono ?_
      rintro e w2 ⟨⟨v2, rfl, ho2⟩, hb2⟩
      obtain ⟨a2, c2, rfl⟩ := ho2.slice
      have HO2 := Lib.hid ho2
      have HX2 := Lib.hid ((HWA.out _).trans hb2)
      have HWS := Lib.hid (WorkM.start d.frags x.sels.spr)
      clear hb2 ho2 hk0 hk1 hc0 hc1 hc2
      go_wp2_with fail
      go_loopw [4, 5] (fun v q wx => ∃ (k' : Nat) (inn : List ByteArray) (ai : Option Addr) (ci : Nat), k' ≤ inn.length ∧ v = .slice ai inn.length ci ∧ q = .int .i64 k' ∧ Hid (WorkM d.frags x.sels.spr inn k') ∧ Hid (Nm.OwnTs wx (w.heap.size + 1) (.slice ai inn.length ci) inn) ∧ Below (w.heap.size + 1) wo wx) (fun _ q _ => (allN d.frags x.sels.spr).length - (intOf q).toNat)
      case atStart => exact ⟨0, addS [] x.sels.spr, a2, c2, by omega, rfl, rfl, HWS, HO2, HX2.out⟩
      case round =>
        obtain ⟨k, inn, ai, ci, hki, rfl, rfl, HW, HI, hbx⟩ := hrel
        have HX := Lib.hid hbx
        have hwn := Lib.hid (Nat.le_trans HZ.out hbx.size)
        have HBX := Lib.hid (HB.out.trans (hbx.mono (Nat.le_succ _)))
        have HIN : Hid (∀ y, y ∈ inn → OkS y) := Lib.hid fun y hy => (HW.out.reach y hy).ok HF.out HSO.out
        have hle := HW.out.len
        have HLE := Lib.hid hle
        have h120 := HN.out
        by_cases hlk : k < inn.length
        · have hli2 : (k : Int) < (inn.length : Int) := by omega
          obtain ⟨a9, c9, he, hcc, ht⟩ := HI.out.at_ HIN.out (by omega)
          cases he
          obtain ⟨m, gb, go, hgm, rfl, hgA, hgB, hmok, hmc⟩ := ht.at hlk
          rw [Nat.mul_one] at hmc
          obtain ⟨⟨b0, b1⟩, b2, b3⟩ := KB.out _ hbx
          have HGM := Lib.hid hgm
          have HLK := Lib.hid hlk
          have hk120 : (k : Int) ≤ 120 := by omega
          have CF : Hid (∀ w', Below wr.heap.size wr w' → Calls Tryd.prog 29 #[.agg #[.slice a d.sels.len ca, .slice (some ⟨fb, off, none⟩) d.frags.length cb], .string m] w' fun e w'' => e = .returned (.int .i64 (findN m d.frags 0)) ∧ Below w'.heap.size w' w'') := Lib.hid fun w' h =>
            specFrag w' A B _ d m hmok ((HDC.out.below hB HBX.out).below (Nat.le_trans hB HBX.out.size) h) (Nat.le_trans hB (Nat.le_trans HBX.out.size h.size))
          have e0 : wr.drew.cell? ⟨w.heap.size, 0, none⟩ = _ := b0
          have e1 : wr.drew.cell? ⟨w.heap.size, 1, none⟩ = _ := b1
          have e4 : wr.drew.cell? ⟨gb, go + k, none⟩ = _ := hmc
          have HD3 : Hid (Below wr.heap.size wr wr.drew) := Lib.hid ((Below.refl _ _).drew)
          obtain ⟨fn, hfn⟩ : ∃ fn, findN m d.frags 0 = fn := ⟨_, rfl⟩
          have HFN := Lib.hid hfn
          rw [hfn] at CF
          clear hfn
          clear hlk ht hmok hbx hcc hgm hle
          go_wp2_with fail
          go_region_with (go_at_call 29; refine (CF.out _ HD3.out).mono ?_; rintro e w3 ⟨rfl, hb3⟩)
          all_goals
            have HX3 := Lib.hid ((HX.out.drew).trans (hb3.mono hwn.out))
            have HI3 := Lib.hid (Nm.OwnTs.below (w := wr.drew) HI.out hb3)
            clear hb3 b0 b1 b2 b3 e0 e1 e4 hmc
            obtain ⟨⟨b0, b1⟩, b2, b3⟩ := KB.out _ HX3.out
            have hwn3 := Lib.hid (Nat.le_trans HZ.out HX3.out.size)
            rcases (findN_lt (nm := m) (l := d.frags) (k := 0)).2 with hneg | hpos
            · obtain rfl : fn = -1 := by rw [← HFN.out]; exact hneg
              have hsp := sprOf_none hneg
              have HW3 : Hid (WorkM d.frags x.sels.spr inn (k + 1)) := Lib.hid (by have := HW.out.next HGM.out; rw [hsp] at this; exact this)
              clear hneg hsp
              go_wp2_with fail
              go_roundw
              case rel => exact ⟨k + 1, inn, _, _, by have := HLK.out; omega, rfl, by go_num, HW3, HI3, HX3.out⟩
              case measure => have e1 := HLK.out; have e2 := HLE.out; simp [intOf]; omega
            · obtain ⟨j, rfl⟩ : ∃ j : Nat, fn = (j : Int) := ⟨fn.toNat, by rw [HFN.out] at hpos; omega⟩
              have hj : j < d.frags.length := by have := (findN_lt (nm := m) (l := d.frags) (k := 0)).1; rw [HFN.out] at this; omega
              have hjl : (j : Int) < (d.frags.length : Int) := by omega
              have hj0 : 0 ≤ (j : Int) := by omega
              obtain ⟨y, yb, yo, ya, ycap, hyd, hye, hybb, hyok, ⟨hy0, hy1, hy2⟩, hyu⟩ := (HF.out.below (Nat.le_refl _) ((HB.out.trans (HX3.out.mono (Nat.le_succ _))).mono hB)).at hj
              cases hye
              have hsp := sprOf_some HFN.out hyd
              have HW3 : Hid (WorkM d.frags x.sels.spr (addS inn y.sels.spr) (k + 1)) := Lib.hid (by have := HW.out.next HGM.out; rw [hsp] at this; exact this)
              have HYA := Lib.hid (fragAll_mem hyd)
              have CY : Hid (Calls Tryd.prog 31 #[.slice ya y.sels.len ycap, .slice (some ⟨gb, go, none⟩) inn.length ci] w3 fun e w'' => (∃ v', e = .returned v' ∧ Nm.OwnTs w'' (w.heap.size + 1) v' (addS inn y.sels.spr)) ∧ Below (w.heap.size + 1) w3 w'') :=
                Lib.hid (specSpreads (y.sels.all + 1) y.sels (Nat.lt_succ_self _) w3 A B ya ycap (w.heap.size + 1) _ inn hyu (Nat.le_succ_of_le hB) hwn3.out HI3.out HIN.out (by have e1 := HYA.out; have e2 := HALL.out; have e3 := HLE.out; omega))
              clear hpos hj hyd hyok hy0 hy1 hyu hsp
              go_wp2_with fail
              refine CY.out.mono ?_
              rintro e w4 ⟨⟨v4, rfl, ho4⟩, hb4⟩
              obtain ⟨a4, c4, rfl⟩ := ho4.slice
              have HO4 := Lib.hid ho4
              have HX4 := Lib.hid (HX3.out.trans hb4)
              have hln : (addS inn y.sels.spr).length ≥ inn.length := by obtain ⟨t, ht⟩ := addS_prefix y.sels.spr inn; rw [ht, List.length_append]; omega
              clear hb4 ho4
              go_wp2_with fail
              go_roundw
              case rel => exact ⟨k + 1, addS inn y.sels.spr, a4, c4, by have := HLK.out; omega, rfl, by go_num, HW3, HO4, HX4.out⟩
              case measure => have e1 := HLK.out; have e2 := HLE.out; simp [intOf]; omega
        · obtain rfl : k = inn.length := by omega
          obtain ⟨a9, c9, he, hcc, ht⟩ := HI.out.at_ HIN.out (by omega)
          cases he
          have HT := Lib.hid ht
          obtain ⟨⟨b0, b1⟩, b2, b3⟩ := KB.out _ hbx
          have hrb : Hid (reachB d.frags x.sels.spr x.name = Nm.inN x.name inn) := Lib.hid (reachB_of (Nm.inN_mem.trans HW.out.end_))
          have CI : Hid (∀ w', Below wr.heap.size wr w' → Calls Tryd.prog 32 #[.slice ai inn.length ci, .string x.name] w' fun e w'' => e = .returned (.bool (Nm.inN x.name inn)) ∧ Below w'.heap.size w' w'') := Lib.hid fun w' h =>
            Nm.specIn w' (w.heap.size + 1) wr.heap.size ai inn.length ci inn x.name HOK.out.1 (HT.out.below Rw.textLies (Nat.le_refl _) h) h.size
          generalize Nm.inN x.name inn = p at *
          clear hlk ht hbx hcc hle
          cases p
          · have hrel := Lib.hid (hm.out.trans (loopN_miss HD.out hrb.out))
            go_wp2_with (go_at_call 32; refine (CI.out _ (Below.refl _ _)).mono ?_; rintro e w3 ⟨rfl, hb3⟩; have HX3 := Lib.hid (HX.out.trans (hb3.mono hwn.out)); clear hb3)
            obtain ⟨⟨d0, d1⟩, d2, d3⟩ := KB.out _ HX3.out
            go_roundw
            case rel => exact ⟨i + 1, by omega, hrel, by go_num, d0, d1, Nat.le_trans HZ.out HX3.out.size, HB.out.trans (HX3.out.mono (Nat.le_succ _))⟩
            case measure => simp [intOf]; omega
          · have hf := Lib.hid (hm.out.trans (loopN_hit HD.out hrb.out))
            go_wp2_with (go_at_call 32; refine (CI.out _ (Below.refl _ _)).mono ?_; rintro e w3 ⟨rfl, hb3⟩; have HX3 := Lib.hid (HX.out.trans (hb3.mono hwn.out)); have ⟨⟨d0, d1⟩, d2, d3⟩ := KB.out _ HX3.out; clear hb3)
            go_ret
            exact ⟨ret_s hf.out.symm, HB.out.trans (HX3.out.mono (Nat.le_succ _))⟩
    · obtain rfl : i = d.frags.length := by omega
      have hf : Hid (loopN d.frags d.frags = ⟨#[]⟩) := Lib.hid (by rw [hm.out, List.drop_length]; rfl)
      clear hlt hb
      go_wp2_with fail
      go_ret
      exact ⟨ret_s hf.out.symm, HB.out⟩
end Go.Proofs.YthdncjdopejkkaaDoor.Selss
