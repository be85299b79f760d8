/-
  What a law on a Schema and a Doc holds: its two boxes; laws.eqValidOut answers true of two alike. Conditions: as each theorem says.
-/
import Derived.Test.YtceabbbmgfeofaaGreatDoorRows
import Derived.Test.YtceabbbmgfeofaaGreatDoorFragM
import Derived.Test.YtceabbbmgfeofaaGreatDoorValL
import Derived.Test.YtceabbbmgfeofaaGreatDoorValQ
import Derived.Test.YtceabbbmgfeofaaGreatDoorValidA
import Derived.Test.YtceabbbmgfeofaaGreatDoorRow
import Derived.ChangeArms
import Derived.ChangeShapes
import Derived.WideShapes
import Derived.OpenShut
import Derived.Test.YtceabbbmgfeofaaGreatDoorSch
import Derived.Test.YtceabbbmgfeofaaGreatDoorSzS
import Derived.Test.YtceabbbmgfeofaaGreatDoorEqS
import Derived.Test.YtceabbbmgfeofaaGreatDoorToT
import Derived.Test.YtceabbbmgfeofaaGreatDoorOpen
import Derived.Test.YtceabbbmgfeofaaGreatDoorSz
import Derived.Test.YtceabbbmgfeofaaGreatDoorToDoc
import Derived.Deep.RegionWith
import Derived.Deep.RegionHeld3
import Derived.Deep.CutRange
namespace Go.Proofs.YtceabbbmgfeofaaGreatDoor.Selss
open Go.RowKit
set_option linter.unusedVariables false
set_option maxRecDepth 100000
theorem eqSel (w : World) (A B : Nat) (hB : B ≤ w.heap.size) (k : Int) (key nm : ByteArray) (f : Int) (a a' : Option Addr) (cap cap' : Nat) (u : Sels) (hs : SelsAt w A B a u.len u) (hs' : SelsAt w A B a' u.len u)
    (ih : ∀ (w : World), SelsAt w A B a u.len u → SelsAt w A B a' u.len u → B ≤ w.heap.size → Calls Tryz.prog 74 #[.slice a u.len cap, .slice a' u.len cap'] w fun e w' => e = .returned (.bool true) ∧ Below w.heap.size w w') :
    Calls Tryz.prog 124 #[.agg #[.int .i64 k, .string key, .string nm, .int .i64 f, .slice a u.len cap], .agg #[.int .i64 k, .string key, .string nm, .int .i64 f, .slice a' u.len cap']] w fun e w' => e = .returned (.bool true) ∧ Below w.heap.size w w' := by
  have IH := Lib.hid ih
  have HS := Lib.hid hs
  have HS' := Lib.hid hs'
  clear ih hs hs'
  go_enter Tryz.func124, Tryz.ntmps124
  go_wp2_with fail
  have HA : ∀ o1 o2, Below w.heap.size w ((w.alloc o1).alloc o2) := fun o1 o2 => ((Below.refl _ _).alloc (Nat.le_refl _) o1).alloc (by simp) o2
  refine (IH.out _ (HS.out.below hB (HA _ _)) (HS'.out.below hB (HA _ _)) (Nat.le_trans hB (HA _ _).size)).mono ?_
  rintro e w1 ⟨rfl, hb1⟩
  have HB1 := Lib.hid ((HA _ _).trans (hb1.mono (HA _ _).size))
  clear hb1
  go_wp2_with fail
  go_ret
  exact ⟨rfl, HB1.out⟩
theorem eqSelS : ∀ (n : Nat) (s : Sels), s.all < n → ∀ (w : World) (A B : Nat) (a a' : Option Addr) (cap cap' : Nat), SelsAt w A B a s.len s → SelsAt w A B a' s.len s → B ≤ w.heap.size →
    Calls Tryz.prog 74 #[.slice a s.len cap, .slice a' s.len cap'] w fun e w' => e = .returned (.bool true) ∧ Below w.heap.size w w' := by
  intro n
  induction n with
  | zero => intro s h; omega
  | succ n ih =>
    intro s hall w A B a a' cap cap' hs hs' hB
    have hlen := hs.2.1
    have IH := Lib.hid ih
    have HS := Lib.hid hs
    have HS' := Lib.hid hs'
    clear ih hs hs'
    go_enter Tryz.func74, Tryz.ntmps74
    go_wp2_with fail
    go_loopw [5] (fun i wr => ∃ i' : Nat, i' ≤ s.len ∧ i = .int .i64 i' ∧ Below w.heap.size w wr) (fun i _ => s.len - (intOf i).toNat)
    case atStart => exact ⟨0, by omega, rfl, Below.refl _ _⟩
    case round =>
      obtain ⟨i, hi, rfl, hb⟩ := hrel
      by_cases hlt : i < s.len
      · have hli : (i : Int) < (s.len : Int) := by omega
        obtain ⟨k, key, nm, f, u, r, b, off, u1, c1, hd, rfl, hbb, hok, ⟨hc0, hc1, hc2, hc3, hc4⟩, hu⟩ := (HS.out.below (Nat.le_refl _) (hb.mono hB)).at hlt
        obtain ⟨k', key', nm', f', u', r', b', off', u2, c2, hd', rfl, hbb', hok', ⟨hd0, hd1, hd2, hd3, hd4⟩, hu'⟩ := (HS'.out.below (Nat.le_refl _) (hb.mono hB)).at hlt
        obtain ⟨rfl, rfl, rfl, rfl, rfl, rfl⟩ : k' = k ∧ key' = key ∧ nm' = nm ∧ f' = f ∧ u' = u ∧ r' = r := by
          rw [hd] at hd'; cases hd'; exact ⟨rfl, rfl, rfl, rfl, rfl, rfl⟩
        have hua : u'.all < n := by have := Sels.all_drop hd; omega
        have HUN : Hid (∀ (w : World), SelsAt w A B u1 u'.len u' → SelsAt w A B u2 u'.len u' → B ≤ w.heap.size → Calls Tryz.prog 74 #[.slice u1 u'.len c1, .slice u2 u'.len c2] w fun e w' => e = .returned (.bool true) ∧ Below w.heap.size w w') := Lib.hid fun w h1 h2 h3 => IH.out u' hua w A B u1 u2 c1 c2 h1 h2 h3
        have HB := Lib.hid hb
        have HU := Lib.hid hu
        have HU' := Lib.hid hu'
        clear hlt hd hd' hb hu hu' hok hok'
        go_wp2_with fail
        go_region_with (go_at_call 124; refine (eqSel _ A B (by first | exact Nat.le_trans hB HB.out.size | exact Nat.le_trans hB HB.out.drew.size) _ _ _ _ u1 u2 c1 c2 _ (by first | exact HU.out | exact HU.out.drew) (by first | exact HU'.out | exact HU'.out.drew) HUN.out).mono ?_; rintro e w1 ⟨rfl, hb1⟩)
        all_goals
          have HB1 := Lib.hid (HB.out.drew.trans (hb1.mono HB.out.drew.size))
          clear hb1
          go_wp2_with fail
          go_roundw
          case rel => exact ⟨i + 1, by omega, by go_num, HB1.out⟩
          case measure => simp [intOf]; omega
      · obtain rfl : i = s.len := by omega
        have HB := Lib.hid hb
        clear hlt hb
        go_wp2_with fail
        go_ret
        exact ⟨rfl, HB.out⟩
theorem eqFrag (w : World) (A B : Nat) (hB : B ≤ w.heap.size) (key nm : ByteArray) (a a' : Option Addr) (cap cap' : Nat) (u : Sels) (hs : SelsAt w A B a u.len u) (hs' : SelsAt w A B a' u.len u) :
    Calls Tryz.prog 125 #[.agg #[.string key, .string nm, .slice a u.len cap], .agg #[.string key, .string nm, .slice a' u.len cap']] w fun e w' => e = .returned (.bool true) ∧ Below w.heap.size w w' := by
  have IH : Hid (∀ (w : World), SelsAt w A B a u.len u → SelsAt w A B a' u.len u → B ≤ w.heap.size → Calls Tryz.prog 74 #[.slice a u.len cap, .slice a' u.len cap'] w fun e w' => e = .returned (.bool true) ∧ Below w.heap.size w w') :=
    Lib.hid fun w h1 h2 h3 => eqSelS (u.all + 1) u (Nat.lt_succ_self _) w A B a a' cap cap' h1 h2 h3
  have HS := Lib.hid hs
  have HS' := Lib.hid hs'
  clear hs hs'
  go_enter Tryz.func125, Tryz.ntmps125
  go_wp2_with fail
  have HA : ∀ o1 o2, Below w.heap.size w ((w.alloc o1).alloc o2) := fun o1 o2 => ((Below.refl _ _).alloc (Nat.le_refl _) o1).alloc (by simp) o2
  refine (IH.out _ (HS.out.below hB (HA _ _)) (HS'.out.below hB (HA _ _)) (Nat.le_trans hB (HA _ _).size)).mono ?_
  rintro e w1 ⟨rfl, hb1⟩
  have HB1 := Lib.hid ((HA _ _).trans (hb1.mono (HA _ _).size))
  clear hb1
  go_wp2_with fail
  go_ret
  exact ⟨rfl, HB1.out⟩
theorem eqFragS (w : World) (A B : Nat) (a a' : Option Addr) (len cap cap' : Nat) (l : List FragP) (hs : FragsAt w A B a len l) (hs' : FragsAt w A B a' len l) (hB : B ≤ w.heap.size) :
    Calls Tryz.prog 75 #[.slice a len cap, .slice a' len cap'] w fun e w' => e = .returned (.bool true) ∧ Below w.heap.size w w' := by
  have hlen := hs.2.1
  have HS := Lib.hid hs
  have HS' := Lib.hid hs'
  clear hs hs'
  go_enter Tryz.func75, Tryz.ntmps75
  go_wp2_with fail
  go_loopw [5] (fun i wr => ∃ i' : Nat, i' ≤ len ∧ i = .int .i64 i' ∧ Below w.heap.size w wr) (fun i _ => len - (intOf i).toNat)
  case atStart => exact ⟨0, by omega, rfl, Below.refl _ _⟩
  case round =>
    obtain ⟨i, hi, rfl, hb⟩ := hrel
    by_cases hlt : i < len
    · have hli : (i : Int) < (len : Int) := by omega
      obtain ⟨x, b, off, u1, c1, hd, rfl, hbb, hok, ⟨hc0, hc1, hc2⟩, hu⟩ := (HS.out.below (Nat.le_refl _) (hb.mono hB)).at hlt
      obtain ⟨x', b', off', u2, c2, hd', rfl, hbb', hok', ⟨hd0, hd1, hd2⟩, hu'⟩ := (HS'.out.below (Nat.le_refl _) (hb.mono hB)).at hlt
      obtain rfl : x' = x := by rw [hd] at hd'; cases hd'; rfl
      have HB := Lib.hid hb
      have HU := Lib.hid hu
      have HU' := Lib.hid hu'
      clear hlt hd hd' hb hu hu' hok hok'
      go_wp2_with fail
      go_region_with (go_at_call 125; refine (eqFrag _ A B (by first | exact Nat.le_trans hB HB.out.size | exact Nat.le_trans hB HB.out.drew.size) _ _ u1 u2 c1 c2 _ (by first | exact HU.out | exact HU.out.drew) (by first | exact HU'.out | exact HU'.out.drew)).mono ?_; rintro e w1 ⟨rfl, hb1⟩)
      all_goals
        have HB1 := Lib.hid (HB.out.drew.trans (hb1.mono HB.out.drew.size))
        clear hb1
        go_wp2_with fail
        go_roundw
        case rel => exact ⟨i + 1, by omega, by go_num, HB1.out⟩
        case measure => simp [intOf]; omega
    · obtain rfl : i = len := by omega
      have HB := Lib.hid hb
      clear hlt hb
      go_wp2_with fail
      go_ret
      exact ⟨rfl, HB.out⟩
theorem eqDoc (w : World) (A B : Nat) (v v' : Value) (d : DocP) (hs : DocAt w A B v d) (hs' : DocAt w A B v' d) (hB : B ≤ w.heap.size) :
    Calls Tryz.prog 32 #[v, v'] w fun e w' => e = .returned (.bool true) ∧ Below w.heap.size w w' := by
  obtain ⟨a, ca, b, cb, rfl, hd, hf, _⟩ := hs
  obtain ⟨a', ca', b', cb', rfl, hd', hf', _⟩ := hs'
  have IH : Hid (∀ (w : World), SelsAt w A B a d.sels.len d.sels → SelsAt w A B a' d.sels.len d.sels → B ≤ w.heap.size → Calls Tryz.prog 74 #[.slice a d.sels.len ca, .slice a' d.sels.len ca'] w fun e w' => e = .returned (.bool true) ∧ Below w.heap.size w w') :=
    Lib.hid fun w h1 h2 h3 => eqSelS (d.sels.all + 1) d.sels (Nat.lt_succ_self _) w A B a a' ca ca' h1 h2 h3
  have HD := Lib.hid hd
  have HF := Lib.hid hf
  have HD' := Lib.hid hd'
  have HF' := Lib.hid hf'
  clear hd hf hd' hf'
  go_enter Tryz.func32, Tryz.ntmps32
  go_wp2_with fail
  have HA : ∀ o1 o2, Below w.heap.size w ((w.alloc o1).alloc o2) := fun o1 o2 => ((Below.refl _ _).alloc (Nat.le_refl _) o1).alloc (by simp) o2
  refine (IH.out _ (HD.out.below hB (HA _ _)) (HD'.out.below hB (HA _ _)) (Nat.le_trans hB (HA _ _).size)).mono ?_
  rintro e w1 ⟨rfl, hb1⟩
  have HB1 := Lib.hid ((HA _ _).trans (hb1.mono (HA _ _).size))
  have hk1 := hb1.cell (p := ⟨w.heap.size, 1, none⟩) (by simp; omega)
  have hk2 := hb1.cell (p := ⟨w.heap.size + 1, 1, none⟩) (by simp)
  simp at hk1 hk2
  clear hb1
  go_wp2_with fail
  refine (eqFragS _ A B b b' _ cb cb' d.frags (HF.out.below hB HB1.out) (HF'.out.below hB HB1.out) (Nat.le_trans hB HB1.out.size)).mono ?_
  rintro e w2 ⟨rfl, hb2⟩
  have HB2 := Lib.hid (HB1.out.trans (hb2.mono HB1.out.size))
  clear hb2 hk1 hk2
  go_wp2_with fail
  go_ret
  exact ⟨rfl, HB2.out⟩
end Go.Proofs.YtceabbbmgfeofaaGreatDoor.Selss
namespace Go.Proofs.YtceabbbmgfeofaaGreatDoor.Selss
open Go.RowKit Words Go.Maps
set_option linter.unusedVariables false
set_option maxRecDepth 100000
set_option maxHeartbeats 4000000 in
theorem specValidate (w : World) (B : Nat) (v dv : Value) (s : List Rw.TypeP) (d : DocP) (hv : Rw.SchemaAt w 0 B v s) (hd : DocAt w 0 B dv d) (hB : B ≤ w.heap.size) :
    Calls Tryz.prog 14 #[v, dv] w fun e w' => e = .returned (.agg #[.string (whatW (validW s d)), .int .i64 (codeW (validW s d))]) ∧ Below w.heap.size w w' := by
  have CS : Hid (∀ w', Below w.heap.size w w' → Calls Tryz.prog 52 #[v] w' fun e w'' => e = .returned (.bool (Rw.schemaB s)) ∧ Below w'.heap.size w' w'') := Lib.hid fun w' h => Rw.specSchemaRight w' 0 B v s (hv.below hB h) (Nat.le_trans hB h.size)
  have CD : Hid (∀ w', Below w.heap.size w w' → Calls Tryz.prog 53 #[dv] w' fun e w'' => e = .returned (.bool (docB d)) ∧ Below w'.heap.size w' w'') := Lib.hid fun w' h => specDocRight w' 0 B dv d (hd.below hB h) (Nat.le_trans hB h.size)
  have CV : Hid ((Rw.schemaB s && docB d) = true → ∀ w', Below w.heap.size w w' → Calls Tryz.prog 54 #[v, dv] w' fun e w'' => e = .returned (.agg #[.string (whatW (rightW s d)), .int .i64 (codeW (rightW s d))]) ∧ Below w'.heap.size w' w'') := Lib.hid fun hr w' h => specL05Valid w' B v dv s d hr (hv.below hB h) (hd.below hB h) (Nat.le_trans hB h.size)
  have HNOV := Lib.hid (fun h => validW_no (s := s) (d := d) h)
  have HYES := Lib.hid (fun h => validW_yes (s := s) (d := d) h)
  obtain ⟨ta, tca, rfl, _, _⟩ := hv
  obtain ⟨da, dca, db, dcb, rfl, _, _, _⟩ := hd
  have SB0 := Lib.hid (SelB.make w (.slice ta s.length tca) (.slice da d.sels.len dca) (.slice db d.frags.length dcb))
  have HA : Hid (∀ o1 o2 o3, Below w.heap.size w (((w.alloc o1).alloc o2).alloc o3)) := Lib.hid fun o1 o2 o3 => (((Below.refl _ _).alloc (Nat.le_refl _) o1).alloc (by simp) o2).alloc (by simp; omega) o3
  generalize validW s d = vw at *
  generalize rightW s d = rw_ at *
  generalize Rw.schemaB s = sb at *
  generalize docB d = dbb at *
  go_enter Tryz.func14, Tryz.ntmps14
  cases sb
  · have hf := Lib.hid (HNOV.out rfl)
    go_wp2_with fail
    refine (CS.out _ (HA.out _ _ _)).mono ?_
    rintro e w1 ⟨rfl, hb1⟩
    have HB1 := Lib.hid ((HA.out _ _ _).trans (hb1.mono (HA.out _ _ _).size))
    have SB1 := Lib.hid (SB0.out.below SB0.out.lt hb1)
    clear hb1
    have ⟨⟨o0, o1⟩, g0, g1⟩ := Rw.keep2 SB1.out.out
    go_wp2_with fail
    change bodyPost _ _ _ _ _ (Rw.putL w1 (w.heap.size + 1 + 1) 0 [.string ⟨#[]⟩, .int .i64 1])
    have ⟨⟨z0, z1⟩, HBF⟩ := out_two (t := ⟨#[]⟩) (c := 1) SB1.out.out HB1.out (by omega)
    exact bodyPost_ret (v := .agg #[.string ⟨#[]⟩, .int .i64 1]) (by simp [results, Tryz.results14, go_sem, z0, z1]) rfl ⟨by rw [hf.out]; rfl, HBF⟩
  · go_wp2_with fail
    refine (CS.out _ (HA.out _ _ _)).mono ?_
    rintro e w1 ⟨rfl, hb1⟩
    have HB1 := Lib.hid ((HA.out _ _ _).trans (hb1.mono (HA.out _ _ _).size))
    have SB1 := Lib.hid (SB0.out.below SB0.out.lt hb1)
    clear hb1
    have ⟨k0, _⟩ := Rw.keep1 SB1.out.sch
    have ⟨⟨e0, e1⟩, _⟩ := Rw.keep2 SB1.out.doc
    go_wp2_with fail
    refine (CD.out _ HB1.out).mono ?_
    rintro e w2 ⟨rfl, hb2⟩
    have HB2 := Lib.hid (HB1.out.trans (hb2.mono HB1.out.size))
    have SB2 := Lib.hid (SB1.out.below SB1.out.lt hb2)
    clear hb2 k0 e0 e1
    have ⟨k0, _⟩ := Rw.keep1 SB2.out.sch
    have ⟨⟨e0, e1⟩, _⟩ := Rw.keep2 SB2.out.doc
    have ⟨⟨o0, o1⟩, g0, g1⟩ := Rw.keep2 SB2.out.out
    cases dbb
    · have hf := Lib.hid (HNOV.out rfl)
      go_wp2_with fail
      change bodyPost _ _ _ _ _ (Rw.putL w2 (w.heap.size + 1 + 1) 0 [.string ⟨#[]⟩, .int .i64 1])
      have ⟨⟨z0, z1⟩, HBF⟩ := out_two (t := ⟨#[]⟩) (c := 1) SB2.out.out HB2.out (by omega)
      exact bodyPost_ret (v := .agg #[.string ⟨#[]⟩, .int .i64 1]) (by simp [results, Tryz.results14, go_sem, z0, z1]) rfl ⟨by rw [hf.out]; rfl, HBF⟩
    · have hf := Lib.hid (HYES.out rfl)
      have CV2 := Lib.hid (CV.out rfl w2 HB2.out)
      obtain ⟨zt, hzt⟩ : ∃ x, whatW rw_ = x := ⟨_, rfl⟩
      obtain ⟨zc, hzc⟩ : ∃ x, codeW rw_ = x := ⟨_, rfl⟩
      have HZT := Lib.hid hzt
      have HZC := Lib.hid hzc
      rw [hzt, hzc] at CV2
      clear hzt hzc CV
      go_wp2_with fail
      refine CV2.out.mono ?_
      rintro e w3 ⟨rfl, hb3⟩
      have HB3 := Lib.hid (HB2.out.trans (hb3.mono HB2.out.size))
      have SB3 := Lib.hid (SB2.out.below SB2.out.lt hb3)
      clear hb3 k0 e0 e1 o0 o1 g0 g1
      have ⟨⟨o0, o1⟩, g0, g1⟩ := Rw.keep2 SB3.out.out
      go_wp2_with fail
      change bodyPost _ _ _ _ _ (Rw.putL w3 (w.heap.size + 1 + 1) 0 [.string zt, .int .i64 zc])
      have ⟨⟨z0, z1⟩, HBF⟩ := out_two (t := zt) (c := zc) SB3.out.out HB3.out (by omega)
      exact bodyPost_ret (v := .agg #[.string zt, .int .i64 zc]) (by simp [results, Tryz.results14, go_sem, z0, z1]) rfl ⟨by rw [hf.out, HZT.out, HZC.out], HBF⟩
/-- What validOf tells of what wrongOf told. -/
theorem validOf_of {s : List Rw.TypeP} {d : DocP} {x : Value} (h : WOut s d x) (w : World) (hg : ErrW.ErrVar w) :
    Calls Tryz.prog 35 #[x] w fun e w' => e = .returned (.agg #[.string (whatW (validW s d)), .int .i64 (codeW (validW s d))]) ∧ Below w.heap.size w w' := by
  rcases h with ⟨h1, rfl⟩ | ⟨h1, h2, h3⟩
  · rw [validW_no h1]; exact ErrW.validForm w hg
  · rw [validW_yes h1]
    rcases h2 with ⟨h2, rfl⟩ | ⟨e, y, rfl, h2, hl⟩
    · rw [h2]; exact ErrW.validNil w
    · have h8 : y.1.size ≤ 8 := by
        rcases h3 y h2 with h | h
        · obtain ⟨T, p, hv⟩ := val_iface e
          rw [hv] at h; cases h
        · exact h
      rw [h2]
      obtain ⟨t, c⟩ := y
      rcases hl with ⟨hc, hl⟩ | ⟨hc, hl⟩ | ⟨hc, hl⟩ | ⟨hc, hl⟩
      all_goals
        simp only at hc hl h8
        subst hc
      · exact ErrW.validNone e t hl (by omega) w hg
      · exact ErrW.validThere e t hl (by omega) w hg
      · exact ErrW.validRange e t hl (by omega) w hg
      · exact ErrW.validState e t hl (by omega) w hg
set_option maxHeartbeats 4000000 in
theorem implValidate (w : World) (B : Nat) (v dv : Value) (s : List Rw.TypeP) (d : DocP) (hv : Rw.SchemaAt w 0 B v s) (hd : DocAt w 0 B dv d) (hB : B ≤ w.heap.size) (hg : ErrW.ErrVar w) :
    Calls Tryz.prog 7 #[v, dv] w fun e w' => e = .returned (.agg #[.string (whatW (validW s d)), .int .i64 (codeW (validW s d))]) ∧ Below w.heap.size w w' := by
  have CW : Hid (∀ w', Below w.heap.size w w' → Calls Tryz.prog 36 #[v, dv] w' fun e w'' => (∃ x, e = .returned x ∧ WOut s d x) ∧ Below w'.heap.size w' w'') := Lib.hid fun w' h => implWrongOf w' B v dv s d (hv.below hB h) (hd.below hB h) (Nat.le_trans hB h.size)
  have CO : Hid (∀ x, WOut s d x → ∀ w', Below w.heap.size w w' → Calls Tryz.prog 35 #[x] w' fun e w'' => e = .returned (.agg #[.string (whatW (validW s d)), .int .i64 (codeW (validW s d))]) ∧ Below w'.heap.size w' w'') := Lib.hid fun x hx w' h => validOf_of hx w' (hg.below h)
  obtain ⟨ta, tca, rfl, _, _⟩ := hv
  obtain ⟨da, dca, db, dcb, rfl, _, _, _⟩ := hd
  have SB0 := Lib.hid (SelB.make w (.slice ta s.length tca) (.slice da d.sels.len dca) (.slice db d.frags.length dcb))
  have HA : Hid (∀ o1 o2 o3, Below w.heap.size w (((w.alloc o1).alloc o2).alloc o3)) := Lib.hid fun o1 o2 o3 => (((Below.refl _ _).alloc (Nat.le_refl _) o1).alloc (by simp) o2).alloc (by simp; omega) o3
  obtain ⟨zt, hzt⟩ : ∃ x, whatW (validW s d) = x := ⟨_, rfl⟩
  obtain ⟨zc, hzc⟩ : ∃ x, codeW (validW s d) = x := ⟨_, rfl⟩
  rw [hzt, hzc] at CO ⊢
  clear hzt hzc hg
  go_enter Tryz.func7, Tryz.ntmps7
  go_wp2_with fail
  refine (CW.out _ (HA.out _ _ _)).mono ?_
  rintro e w1 ⟨⟨x, rfl, hx⟩, hb1⟩
  have HB1 := Lib.hid ((HA.out _ _ _).trans (hb1.mono (HA.out _ _ _).size))
  have SB1 := Lib.hid (SB0.out.below SB0.out.lt hb1)
  have C1 := Lib.hid (CO.out x hx w1 HB1.out)
  clear hb1 hx
  go_wp2_with fail
  refine C1.out.mono ?_
  rintro e w2 ⟨rfl, hb2⟩
  have HB2 := Lib.hid (HB1.out.trans (hb2.mono HB1.out.size))
  have SB2 := Lib.hid (SB1.out.below SB1.out.lt hb2)
  clear hb2
  have ⟨⟨o0, o1⟩, g0, g1⟩ := Rw.keep2 SB2.out.out
  go_wp2_with fail
  change bodyPost _ _ _ _ _ (Rw.putL w2 (w.heap.size + 1 + 1) 0 [.string zt, .int .i64 zc])
  have ⟨⟨z0, z1⟩, HBF⟩ := out_two (t := zt) (c := zc) SB2.out.out HB2.out (by omega)
  exact bodyPost_ret (v := .agg #[.string zt, .int .i64 zc]) (by simp [results, Tryz.results7, go_sem, z0, z1]) rfl ⟨rfl, HBF⟩
end Go.Proofs.YtceabbbmgfeofaaGreatDoor.Selss
namespace Go.Proofs.YtceabbbmgfeofaaGreatDoor.Rw
open Go.RowKit Go.ChangeShapes Go.WideShapes
set_option linter.unusedVariables false
set_option maxRecDepth 100000
theorem kst1 {w wr w' : World} {v0 : Value} (hb : Below w.heap.size w wr) (hz : w.heap.size < wr.heap.size) (k0 : wr.cell? ⟨w.heap.size, 0, none⟩ = some v0) (h : Below wr.heap.size wr w') :
    Below w.heap.size w w' ∧ w.heap.size < w'.heap.size ∧ w'.cell? ⟨w.heap.size, 0, none⟩ = some v0 :=
  ⟨hb.trans (h.mono hb.size), Nat.lt_of_lt_of_le hz h.size, (h.cell (p := ⟨w.heap.size, 0, none⟩) hz).trans k0⟩
theorem coInt : Tryz.prog.cellsOf 2 = 1 := by kernel_rfl
theorem coStr : Tryz.prog.cellsOf 9 = 1 := by kernel_rfl
section
variable {H : Type} {enc : TypeId × Value → H} {w : World} {sp : Nat → Bool} {hd : Bool}
theorem fldS {m off : Nat} {T : TypeId} {cs : List Value} {x : Option (DataW H × List MemPlace)} {v : Value} (h : DataW.trod enc Tryz.prog w 0 sp hd m T ((cs.drop off).take (Tryz.prog.cellsOf T)) = x) (h1 : Tryz.prog.cellsOf T = 1) (hv : (cs.drop off).take 1 = [v]) :
    DataW.trod enc Tryz.prog w 0 sp hd m T [v] = x := by rw [h1, hv] at h; exact h
/-- A slice whose elements open as things (with less of the fuel). -/
theorem openRowF {α : Type} {n : Nat} {L : World → Nat → Nat → Nat → Nat → α → Prop} {T E : TypeId} (hu : Tryz.prog.underlying T = some (.slice E)) (hco : Tryz.prog.cellsOf E = n) (hn : 0 < n) {fuel : Nat}
    (one : ∀ (m : Nat) (cs : List Value) (y : DataW H × List MemPlace), m < fuel → DataW.trod enc Tryz.prog w 0 sp hd m E cs = some y → cs.length = n → ∃ x : α, ∀ b off : Nat, (∀ i, i < n → w.cell? ⟨b, off + i, none⟩ = cs[i]?) → L w 0 w.heap.size b off x)
    {cs : List Value} {x : DataW H × List MemPlace} (h : DataW.trod enc Tryz.prog w 0 sp hd fuel T cs = some x) : ∃ a len cap l, cs = [.slice a len cap] ∧ RowsAt n L w 0 w.heap.size a len l ∧ len ≤ cap := by
  rcases DataW.trod_slice hu h with ⟨rfl, _⟩ | ⟨⟨b, off, spot⟩, len, cap, elems, rest, m, rfl, rfl, _, _, hlc, hm, hlen, hel, _⟩
  · exact ⟨none, 0, 0, [], rfl, ⟨rfl, Nat.zero_le _, .inl rfl⟩, Nat.le_refl _⟩
  · rw [hco] at hel
    by_cases h0 : len = 0
    · subst h0
      exact ⟨_, 0, cap, [], rfl, ⟨rfl, Nat.zero_le _, .inl rfl⟩, Nat.zero_le _⟩
    have key : ∀ i, i < len → ∃ cs', w.cells? 0 ((⟨b, off, spot⟩ : Addr).add (i * n)) n = some cs' ∧ ∃ y, DataW.trod enc Tryz.prog w 0 sp hd m E cs' = some y := fun i hi => by
      have := hel i hi
      rw [List.getElem?_eq_getElem (by omega)] at this
      obtain ⟨cs', h1, h2⟩ := Option.bind_eq_some_iff.1 this
      exact ⟨cs', h1, _, h2⟩
    have cell0 : ∃ v, w.cell? (((⟨b, off, spot⟩ : Addr).add (0 * n)).add 0) = some v := by
      obtain ⟨cs', h1, y, h2⟩ := key 0 (by omega)
      obtain ⟨_, hl, hat⟩ := World.cells?_some h1
      exact ⟨cs'[0]'(by omega), by rw [hat 0 hn, List.getElem?_eq_getElem (by omega)]⟩
    have hs : spot = none := by
      obtain ⟨v, hv⟩ := cell0
      simpa [Addr.add] using World.cell?_spot hv
    subst hs
    have hbl : b < w.heap.size := by
      obtain ⟨v, hv⟩ := cell0
      rw [add_plain, add_plain] at hv
      exact lt_of_cell hv
    have one' : ∀ i, i < len → ∃ x : α, L w 0 w.heap.size b (off + i * n) x := fun i hi => by
      obtain ⟨cs', h1, y, h2⟩ := key i hi
      obtain ⟨_, hl, hat⟩ := World.cells?_some h1
      obtain ⟨x, hx⟩ := one m cs' y (by omega) h2 hl
      exact ⟨x, hx b (off + i * n) fun j hj => by have := hat j hj; rwa [add_plain, add_plain] at this⟩
    have row : ∀ j, j ≤ len → ∃ l : List α, l.length = j ∧ ∀ (i : Nat) (x : α), l[i]? = some x → L w 0 w.heap.size b (off + i * n) x := by
      intro j
      induction j with
      | zero => intro _; exact ⟨[], rfl, fun i x h => by simp at h⟩
      | succ j ihj =>
        intro hj
        obtain ⟨l, hll, hl⟩ := ihj (by omega)
        obtain ⟨x, hx⟩ := one' j (by omega)
        refine ⟨l ++ [x], by rw [List.length_append, hll]; rfl, fun i y hy => ?_⟩
        by_cases hi : i < j
        · rw [List.getElem?_append_left (by omega)] at hy
          exact hl i y hy
        · rw [List.getElem?_append_right (by omega)] at hy
          have e : i = j := by
            have h2 := (List.getElem?_eq_some_iff.1 hy).1
            simp at h2; omega
          subst e
          rw [hll, Nat.sub_self] at hy
          simp at hy
          subst hy; exact hx
    obtain ⟨l, hll, hl⟩ := row len (Nat.le_refl _)
    unfold maxLen at hm
    exact ⟨_, len, cap, l, rfl, ⟨hll, by omega, .inr ⟨b, off, rfl, Nat.zero_le _, hbl, hl⟩⟩, hlc⟩
/-- A slice whose elements open as things. -/
theorem openRow {α : Type} {n : Nat} {L : World → Nat → Nat → Nat → Nat → α → Prop} {T E : TypeId} (hu : Tryz.prog.underlying T = some (.slice E)) (hco : Tryz.prog.cellsOf E = n) (hn : 0 < n)
    (one : ∀ (m : Nat) (cs : List Value) (y : DataW H × List MemPlace), DataW.trod enc Tryz.prog w 0 sp hd m E cs = some y → cs.length = n → ∃ x : α, ∀ b off : Nat, (∀ i, i < n → w.cell? ⟨b, off + i, none⟩ = cs[i]?) → L w 0 w.heap.size b off x)
    {fuel : Nat} {cs : List Value} {x : DataW H × List MemPlace} (h : DataW.trod enc Tryz.prog w 0 sp hd fuel T cs = some x) : ∃ a len cap l, cs = [.slice a len cap] ∧ RowsAt n L w 0 w.heap.size a len l ∧ len ≤ cap :=
  openRowF hu hco hn (fun m cs y _ h hl => one m cs y h hl) h
theorem rowN_of {w : World} {b off : Nat} {l : List Value} (h : ∀ i, i < l.length → w.cell? ⟨b, off + i, none⟩ = l[i]?) : RowN w b off l := fun j v hj => (h j (List.getElem?_eq_some_iff.1 hj).1).trans hj
end
theorem coStrs : Tryz.prog.cellsOf 40 = 1 := by kernel_rfl
section
variable {H : Type} {enc : TypeId × Value → H} {w : World} {sp : Nat → Bool} {hd : Bool}
theorem openTexts {fuel : Nat} {cs : List Value} {x : DataW H × List MemPlace} (h : DataW.trod enc Tryz.prog w 0 sp hd fuel 40 cs = some x) : ∃ a len cap l, cs = [.slice a len cap] ∧ TextsAt w 0 w.heap.size a len l ∧ len ≤ cap :=
  openRow Tryz.underlying40 coStr (by omega) (fun m cs y h hl => by
    obtain ⟨s, rfl, _, ws⟩ := DataW.trod_string Tryz.underlying9 h
    unfold maxLen at ws
    exact ⟨s, fun b off hc => ⟨by unfold OkS; omega, hc 0 (by omega)⟩⟩) h
end
theorem coBool : Tryz.prog.cellsOf 4 = 1 := by kernel_rfl
theorem coFields : Tryz.prog.cellsOf 193 = 1 := by kernel_rfl
theorem coTypes : Tryz.prog.cellsOf 59 = 1 := by kernel_rfl
theorem coField : Tryz.prog.cellsOf 291 = 6 := by kernel_rfl
theorem coType : Tryz.prog.cellsOf 195 = 5 := by kernel_rfl
theorem coSchema : Tryz.prog.cellsOf 61 = 1 := by kernel_rfl
section
variable {H : Type} {enc : TypeId × Value → H} {w : World} {sp : Nat → Bool} {hd : Bool}
/-- One field, its six cells. -/
theorem openField {n : Nat} {cs : List Value} {y : DataW H × List MemPlace} (h : DataW.trod enc Tryz.prog w 0 sp hd n 291 cs = some y) : ∃ x : FieldP, x.ok ∧ cs = x.cells := by
  obtain ⟨xs, m, hn, _, hl, hxl, hf⟩ := DataW.trod_struct Tryz.underlying291 h
  rw [coField] at hl
  match cs, hl with
  | [c0, c1, c2, c3, c4, c5], _ =>
    match xs, hxl with
    | [x0, x1, x2, x3, x4, x5], _ =>
      have h0 := fldS (T := 9) (off := 0) (v := c0) (x := some x0) (hf 0 _ rfl) coStr rfl
      have h1 := fldS (T := 9) (off := 1) (v := c1) (x := some x1) (hf 1 _ rfl) coStr rfl
      have h2 := fldS (T := 4) (off := 2) (v := c2) (x := some x2) (hf 2 _ rfl) coBool rfl
      have h3 := fldS (T := 4) (off := 3) (v := c3) (x := some x3) (hf 3 _ rfl) coBool rfl
      have h4 := fldS (T := 2) (off := 4) (v := c4) (x := some x4) (hf 4 _ rfl) coInt rfl
      have h5 := fldS (T := 2) (off := 5) (v := c5) (x := some x5) (hf 5 _ rfl) coInt rfl
      obtain ⟨nm, e0, _, w0⟩ := DataW.trod_string Tryz.underlying9 h0
      obtain ⟨tp, e1, _, w1⟩ := DataW.trod_string Tryz.underlying9 h1
      obtain ⟨ls, e2, _⟩ := DataW.trod_bool Tryz.underlying4 h2
      obtain ⟨mu, e3, _⟩ := DataW.trod_bool Tryz.underlying4 h3
      obtain ⟨sz, e4, _, w4⟩ := DataW.trod_int Tryz.underlying2 h4
      obtain ⟨cp, e5, _, w5⟩ := DataW.trod_int Tryz.underlying2 h5
      cases e0; cases e1; cases e2; cases e3; cases e4; cases e5
      unfold maxLen at w0 w1
      exact ⟨⟨nm, tp, ls, mu, sz, cp⟩, ⟨by unfold OkS; omega, by unfold OkS; omega, bounds_i64 w4, bounds_i64 w5⟩, rfl⟩
theorem openFields {fuel : Nat} {cs : List Value} {x : DataW H × List MemPlace} (h : DataW.trod enc Tryz.prog w 0 sp hd fuel 193 cs = some x) : ∃ a len cap l, cs = [.slice a len cap] ∧ FieldsAt w 0 w.heap.size a len l ∧ len ≤ cap :=
  openRow Tryz.underlying193 coField (by omega) (fun m cs y h hl => by
    obtain ⟨x, hx, rfl⟩ := openField h
    exact ⟨x, fun b off hc => ⟨hx, rowN_of hc⟩⟩) h
/-- One type, its five cells. -/
theorem openType {n : Nat} {cs : List Value} {y : DataW H × List MemPlace} (h : DataW.trod enc Tryz.prog w 0 sp hd n 195 cs = some y) :
    ∃ (x : TypeP) (a : Option Addr) (ca : Nat) (c : Option Addr) (cc : Nat), cs = x.cells a ca c cc ∧ x.ok ∧ (FieldsAt w 0 w.heap.size a x.fields.length x.fields ∧ x.fields.length ≤ ca) ∧ TextsAt w 0 w.heap.size c x.members.length x.members ∧ x.members.length ≤ cc := by
  obtain ⟨xs, m, hn, _, hl, hxl, hf⟩ := DataW.trod_struct Tryz.underlying195 h
  rw [coType] at hl
  match cs, hl with
  | [c0, c1, c2, c3, c4], _ =>
    match xs, hxl with
    | [x0, x1, x2, x3, x4], _ =>
      have h0 := fldS (T := 9) (off := 0) (v := c0) (x := some x0) (hf 0 _ rfl) coStr rfl
      have h1 := fldS (T := 2) (off := 1) (v := c1) (x := some x1) (hf 1 _ rfl) coInt rfl
      have h2 := fldS (T := 2) (off := 2) (v := c2) (x := some x2) (hf 2 _ rfl) coInt rfl
      have h3 := fldS (T := 193) (off := 3) (v := c3) (x := some x3) (hf 3 _ rfl) coFields rfl
      have h4 := fldS (T := 40) (off := 4) (v := c4) (x := some x4) (hf 4 _ rfl) coStrs rfl
      obtain ⟨nm, e0, _, w0⟩ := DataW.trod_string Tryz.underlying9 h0
      obtain ⟨kd, e1, _, w1⟩ := DataW.trod_int Tryz.underlying2 h1
      obtain ⟨by_, e2, _, w2⟩ := DataW.trod_int Tryz.underlying2 h2
      obtain ⟨a, len, ca, fs, e3, hfs, hca⟩ := openFields h3
      obtain ⟨c, len', cc, ms, e4, hms, hcc⟩ := openTexts h4
      cases e0; cases e1; cases e2; cases e3; cases e4
      obtain rfl := hfs.1
      obtain rfl := hms.1
      unfold maxLen at w0
      exact ⟨⟨nm, kd, by_, fs, ms⟩, a, ca, c, cc, rfl, ⟨by unfold OkS; omega, bounds_i64 w1, bounds_i64 w2⟩, ⟨hfs, hca⟩, hms, hcc⟩
theorem openTypes {fuel : Nat} {cs : List Value} {x : DataW H × List MemPlace} (h : DataW.trod enc Tryz.prog w 0 sp hd fuel 59 cs = some x) : ∃ a len cap l, cs = [.slice a len cap] ∧ TypesAt w 0 w.heap.size a len l ∧ len ≤ cap :=
  openRow Tryz.underlying59 coType (by omega) (fun m cs y h hl => by
    obtain ⟨x, a, ca, c, cc, rfl, hk, h2, h3⟩ := openType h
    exact ⟨x, fun b off hc => ⟨hk, a, ca, c, cc, rowN_of hc, h2, h3⟩⟩) h
/-- A schema, as an argument. -/
theorem openSchema {v : Value} {d : DataW H} {ps : List MemPlace} {r : Reach} {b0 : Nat} (hv : Value.okWide Tryz.prog w r b0 61 v) (h : DataW.Trod enc Tryz.prog w 0 sp hd 61 v d ps) : ∃ s : List TypeP, SchemaAt w 0 w.heap.size v s := by
  obtain ⟨cs, rfl, hsz⟩ := okWide_struct Tryz.underlying61 hv
  obtain ⟨l⟩ := cs
  match l, hsz.trans coSchema with
  | [c0], _ =>
    obtain ⟨fuel, hf⟩ := h
    obtain ⟨xs, m, _, _, _, hxl, hg⟩ := DataW.trod_struct Tryz.underlying61 hf
    match xs, hxl with
    | [x0], _ =>
      have h0 := fldS (T := 59) (off := 0) (v := c0) (x := some x0) (hg 0 _ rfl) coTypes rfl
      obtain ⟨a, len, ca, s, e0, hs, hc⟩ := openTypes h0
      cases e0
      obtain rfl := hs.1
      exact ⟨s, a, ca, rfl, hs, hc⟩
end
end Go.Proofs.YtceabbbmgfeofaaGreatDoor.Rw
namespace Go.Proofs.YtceabbbmgfeofaaGreatDoor.Selss
open Go.RowKit Words Go.Maps
set_option linter.unusedVariables false
set_option maxRecDepth 100000
/-- The boxes of the law's Schema and Doc, and that nothing that was there has changed. -/
structure Bx (w W : World) (sv d0 d1 : Value) : Prop where
  bel : Below w.heap.size w W
  sch : W.heap[w.heap.size]? = some (.cells #[sv] 61 (0, 0))
  doc : W.heap[w.heap.size + 1]? = some (.cells #[d0, d1] 65 (0, 0))
namespace Bx
variable {w W W' : World} {sv d0 d1 : Value}
theorem make (w : World) (sv d0 d1 : Value) : Bx w ((w.alloc (.cells #[sv] 61)).alloc (.cells #[d0, d1] 65)) sv d0 d1 :=
  ⟨((Below.refl _ _).alloc (Nat.le_refl _) _).alloc (by simp) _, by rw [Go.Deep.blk_alloc_lt _ _ _ (by simp)]; exact heap_alloc_new w _, by have := heap_alloc_new (w.alloc (.cells #[sv] 61)) (.cells #[d0, d1] 65); simpa using this⟩
theorem lt (h : Bx w W sv d0 d1) : w.heap.size + 1 < W.heap.size := Rw.lt_of_get h.doc
theorem next (h : Bx w W sv d0 d1) (g : Below W.heap.size W W') : Bx w W' sv d0 d1 :=
  ⟨h.bel.trans (g.mono h.bel.size), (g.block _ (by have := h.lt; omega)).trans h.sch, (g.block _ h.lt).trans h.doc⟩
theorem alloc (h : Bx w W sv d0 d1) (o : Obj) : Bx w (W.alloc o) sv d0 d1 := h.next ((Below.refl _ _).alloc (Nat.le_refl _) o)
theorem drew (h : Bx w W sv d0 d1) : Bx w W.drew sv d0 d1 := h.next (Below.refl _ _).drew
theorem put (h : Bx w W sv d0 d1) {g : Nat} (hg : w.heap.size + 1 < g) (v0 v1 : Value) : Bx w (Rw.putL W g 0 [v0, v1]) sv d0 d1 :=
  ⟨Rw.putL_below (by omega) _ 0 h.bel, (Rw.putL_other _ _ _ _ _ (by omega)).trans h.sch, (Rw.putL_other _ _ _ _ _ (by omega)).trans h.doc⟩
theorem cells (h : Bx w W sv d0 d1) : W.cell? ⟨w.heap.size, 0, none⟩ = some sv ∧ W.cell? ⟨w.heap.size + 1, 0, none⟩ = some d0 ∧ W.cell? ⟨w.heap.size + 1, 1, none⟩ = some d1 :=
  ⟨(Rw.keep1 h.sch).1, (Rw.keep2 h.doc).1.1, (Rw.keep2 h.doc).1.2⟩
end Bx
/-- A Schema, a Doc that lie in memory as it is. -/
def SX (W : World) (v : Value) (s : List Rw.TypeP) : Prop := Rw.SchemaAt W 0 W.heap.size v s
def DX (W : World) (v : Value) (d : DocP) : Prop := DocAt W 0 W.heap.size v d
theorem SX.next {W W' : World} {v : Value} {s : List Rw.TypeP} (h : SX W v s) (g : Below W.heap.size W W') : SX W' v s := Rw.SchemaAt.wide (Rw.SchemaAt.below h (Nat.le_refl _) g) (Nat.le_refl _) g.size
theorem SX.alloc {W : World} {v : Value} {s : List Rw.TypeP} (h : SX W v s) (o : Obj) : SX (W.alloc o) v s := h.next ((Below.refl _ _).alloc (Nat.le_refl _) o)
theorem SX.drew {W : World} {v : Value} {s : List Rw.TypeP} (h : SX W v s) : SX W.drew v s := h.next (Below.refl _ _).drew
theorem DX.next {W W' : World} {v : Value} {d : DocP} (h : DX W v d) (g : Below W.heap.size W W') : DX W' v d := (DocAt.below h (Nat.le_refl _) g).wide (Nat.le_refl _) g.size
theorem DX.alloc {W : World} {v : Value} {d : DocP} (h : DX W v d) (o : Obj) : DX (W.alloc o) v d := h.next ((Below.refl _ _).alloc (Nat.le_refl _) o)
theorem DX.drew {W : World} {v : Value} {d : DocP} (h : DX W v d) : DX W.drew v d := h.next (Below.refl _ _).drew
theorem SX.of {W : World} {A : Nat} {v : Value} {s : List Rw.TypeP} (h : Rw.SchemaX W A W.heap.size v s) : SX W v s := Rw.SchemaAt.wide h.at_ (Nat.zero_le _) (Nat.le_refl _)
theorem DX.of {W : World} {A : Nat} {v : Value} {d : DocP} (h : DocAt W A W.heap.size v d) : DX W v d := h.wide (Nat.zero_le _) (Nat.le_refl _)
theorem eqV (t : ByteArray) (c : Int) (w : World) :
    Calls Tryz.prog 30 #[.agg #[.string t, .int .i64 c], .agg #[.string t, .int .i64 c]] w fun e w' => e = .returned (.bool true) ∧ Below w.heap.size w w' := by
  go_enter Tryz.func30, Tryz.ntmps30
  go_wp2_with fail
  go_ret
  exact ⟨rfl, ((Below.refl _ _).alloc (Nat.le_refl _) _).alloc (by simp) _⟩
end Go.Proofs.YtceabbbmgfeofaaGreatDoor.Selss
