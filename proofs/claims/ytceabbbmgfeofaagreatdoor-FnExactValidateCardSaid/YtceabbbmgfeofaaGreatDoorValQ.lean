/-
  Contract: spec.l05Valid: what is wrong first of what is right; of what was there nothing is changed. Conditions: in memory.
-/
import Derived.Test.YtceabbbmgfeofaaGreatDoorRows
import Derived.Test.YtceabbbmgfeofaaGreatDoorValO
import Derived.Test.YtceabbbmgfeofaaGreatDoorValH
import Derived.Deep.RegionWith
import Derived.Deep.RegionHeld3
import Derived.Deep.CutRange
namespace Go.Proofs.YtceabbbmgfeofaaGreatDoor.Selss
open Go.RowKit Words
set_option linter.unusedVariables false
set_option maxRecDepth 100000

set_option maxHeartbeats 8000000 in
theorem specL05Valid (w : World) (B : Nat) (v dv : Value) (s : List Rw.TypeP) (d : DocP) (hr : (Rw.schemaB s && docB d) = true) (hv : Rw.SchemaAt w 0 B v s) (hd : DocAt w 0 B dv d) (hB : B ≤ w.heap.size) :
    Calls Tryz.prog 54 #[v, dv] w fun e w' => e = .returned (.agg #[.string (whatW (rightW s d)), .int .i64 (codeW (rightW s d))]) ∧ Below w.heap.size w w' := by
  rw [Bool.and_eq_true] at hr
  obtain ⟨hsb, hdb⟩ := hr
  have CL : Hid (∀ w', Below w.heap.size w w' → Calls Tryz.prog 55 #[dv] w' fun e w'' => e = .returned (.string (loopN d.frags d.frags)) ∧ Below w'.heap.size w' w'') := Lib.hid fun w' h => specL05Loops w' 0 B dv d (hd.below hB h) (Nat.le_trans hB h.size) (docB_all hdb)
  have CS : Hid (∀ (w' : World) (l : Sels) (a : Option Addr) (cap : Nat) (t : ByteArray), OkS t → SelsAt w' 0 B a l.len l → Below w.heap.size w w' → Calls Tryz.prog 106 #[v, dv, .slice a l.len cap, .string t] w' fun e w'' => e = .returned (.agg #[.string (whatW (selsW s d.frags l t)), .int .i64 (codeW (selsW s d.frags l t))]) ∧ Below w'.heap.size w' w'') := Lib.hid fun w' l a cap t ht hl h => specVSels s d (l.all + 1) l (Nat.lt_succ_self _) w' 0 B a cap v dv t ht hl (hv.below hB h) (hd.below hB h) (Nat.le_trans hB h.size)
  have CC : Hid (∀ (w' : World) (nm : ByteArray), OkS nm → Below w.heap.size w w' → Calls Tryz.prog 107 #[v, .string nm] w' fun e w'' => e = .returned (.bool (compB s nm)) ∧ Below w'.heap.size w' w'') := Lib.hid fun w' nm hn h => specComposite w' 0 B v s nm hn (hv.below hB h) (Nat.le_trans hB h.size)
  have CK : Hid (NoLoop d.frags → ∀ (w' : World) (a : Option Addr) (cap : Nat), SelsAt w' 0 B a d.sels.len d.sels → Below w.heap.size w w' → Calls Tryz.prog 56 #[dv, .slice a d.sels.len cap] w' fun e w'' => e = .returned (.string (clashD d)) ∧ Below w'.heap.size w' w'') := Lib.hid fun hno w' a cap hl h => by
    obtain ⟨m, hdeep, hres⟩ := clashD_yes ⟨hdb, hno⟩
    obtain ⟨hp1, hp2, hp3⟩ := docB_parts hdb
    rw [hres]
    exact specClashM hno m d.sels hdeep (full_few hno hp2 hp3 hp1) w' B dv a cap (hd.below hB h) hl (Nat.le_trans hB h.size)
  have HLC := Lib.hid (loop_cases hdb)
  obtain ⟨⟨hl1, hl12⟩, _, _⟩ := Rw.schemaB_parts hsb
  obtain ⟨tb, toff, sca, rfl, htb, hh0, hhok, _, _⟩ := head_at hv hl1
  have HHOK := Lib.hid hhok
  obtain ⟨da, dca, db, dcb, rfl, hds, hdf, _⟩ := hd
  have HDS := Lib.hid hds
  have HDF := Lib.hid hdf
  have hfl := hdf.2.1
  have HH0 := Lib.hid hh0
  have htw : tb < w.heap.size := by omega
  have hli : (0 : Int) < (s.length : Int) := by omega
  have HRT := Lib.hid (show rightW s d = WrP.or (loopW d) (restW s d) from rfl)
  have HRS := Lib.hid (show restW s d = WrP.or (selsW s d.frags d.sels (headN s)) (WrP.or (fragsW s d.frags d.frags) (clashW d)) from rfl)
  have HLW := Lib.hid (show loopW d = if loopN d.frags d.frags = ⟨#[]⟩ then none else some (loopN d.frags d.frags, 7) from rfl)
  have HCW := Lib.hid (show clashW d = if clashD d = ⟨#[]⟩ then none else some (clashD d, 7) from rfl)
  have HFIT := Lib.hid (selsW_fit s d.frags d.sels (headN s))
  have HFF := Lib.hid (fun l t => selsW_fit s d.frags l t)
  have SB0 := Lib.hid (SelB.make w (.slice (some ⟨tb, toff, none⟩) s.length sca) (.slice da d.sels.len dca) (.slice db d.frags.length dcb))
  have HA : Hid (∀ o1 o2 o3, Below w.heap.size w (((w.alloc o1).alloc o2).alloc o3)) := Lib.hid fun o1 o2 o3 => (((Below.refl _ _).alloc (Nat.le_refl _) o1).alloc (by simp) o2).alloc (by simp; omega) o3
  clear hv hds hdf hh0 hhok hl1 hl12
  generalize s.length = sn at *
  have hpos : 0 < sn := by omega
  generalize rightW s d = res at *
  generalize restW s d = rest at *
  generalize loopW d = lw at *
  generalize clashW d = cw at *
  generalize headN s = hn at *
  generalize loopN d.frags d.frags = ln at *
  go_enter Tryz.func54, Tryz.ntmps54
  go_wp2_with fail
  refine (CL.out _ (HA.out _ _ _)).mono ?_
  rintro e w1 ⟨rfl, hb1⟩
  have HB1 := Lib.hid ((HA.out _ _ _).trans (hb1.mono (HA.out _ _ _).size))
  have SB1 := Lib.hid (SB0.out.below SB0.out.lt hb1)
  clear hb1
  have ⟨⟨o0, o1⟩, g0, g1⟩ := Rw.keep2 SB1.out.out
  rcases HLC.out with ⟨hno, rfl⟩ | ⟨hno, hne⟩
  · have HNO := Lib.hid hno
    have hlw : Hid (res = rest) := Lib.hid (by rw [HRT.out, HLW.out, if_pos rfl]; rfl)
    have hh1 := HB1.out.cell (p := ⟨tb, toff, none⟩) htw |>.trans HH0.out
    have ⟨k0, _⟩ := Rw.keep1 SB1.out.sch
    have ⟨⟨e0, e1⟩, _⟩ := Rw.keep2 SB1.out.doc
    have hz1 := SB1.out.lt
    have C1 := Lib.hid (fun (w' : World) (h : Below w.heap.size w w') => CS.out w' d.sels da dca hn HHOK.out (HDS.out.below hB h) h)
    have C1' := Lib.hid (C1.out w1.drew HB1.out.drew)
    have HB1a : Hid (Below w.heap.size w (w1.alloc (.cells #[.string ⟨#[]⟩, .int .i64 0] 33)).drew) := Lib.hid (HB1.out.alloc HB1.out.size _).drew
    have C1'' := Lib.hid (C1.out (w1.alloc (.cells #[.string ⟨#[]⟩, .int .i64 0] 33)).drew HB1a.out)
    have HNEW : Hid ((w1.alloc (.cells #[.string ⟨#[]⟩, .int .i64 0] 33)).drew.heap[w1.heap.size]? = some (.cells #[.string ⟨#[]⟩, .int .i64 0] 33 (0, 0))) := Lib.hid (heap_alloc_new w1 _)
    have SB1a : Hid (SelB (w1.alloc (.cells #[.string ⟨#[]⟩, .int .i64 0] 33)).drew w.heap.size (.slice (some ⟨tb, toff, none⟩) sn sca) (.slice da d.sels.len dca) (.slice db d.frags.length dcb)) := Lib.hid (SB1.out.below SB1.out.lt ((Below.refl _ _).alloc (Nat.le_refl _) _).drew)
    obtain ⟨z, hz⟩ : ∃ z, selsW s d.frags d.sels hn = z := ⟨_, rfl⟩
    rw [hz] at C1 C1' C1'' HFIT
    have HZ : Hid (rest = WrP.or z (WrP.or (fragsW s d.frags d.frags) cw)) := Lib.hid (by rw [HRS.out, hz])
    obtain ⟨zt, hzt⟩ : ∃ x, whatW z = x := ⟨_, rfl⟩
    obtain ⟨zc, hzc⟩ : ∃ x, codeW z = x := ⟨_, rfl⟩
    rw [hzt, hzc] at C1
    have HZT := Lib.hid hzt
    have HZC := Lib.hid hzc
    clear hno hz C1' C1'' hzt hzc
    have hh2 : (w1.alloc (.cells #[.string ⟨#[]⟩, .int .i64 0] 33)).drew.cell? ⟨tb, toff, none⟩ = some (.string hn) := (HB1a.out.cell (p := ⟨tb, toff, none⟩) htw).trans HH0.out
    have ⟨j0, _⟩ := Rw.keep1 SB1a.out.sch
    have ⟨⟨j1, j2⟩, _⟩ := Rw.keep2 SB1a.out.doc
    have htw1 : tb < w1.heap.size := Nat.lt_of_lt_of_le htw HB1.out.size
    have hn0 : w.heap.size ≠ w1.heap.size := by omega
    have hn1 : w.heap.size + 1 ≠ w1.heap.size := by omega
    have hn2 : tb ≠ w1.heap.size := by omega
    have p0 : w.heap.size < w1.heap.size := by omega
    have p1 : w.heap.size + 1 < w1.heap.size := by omega
    go_upto_region 4 with fail
    go_cut [6] from 16 to 25 (fun v6 wx => ∃ yb, v6 = .pointer (some ⟨yb, 0, none⟩) ∧ w.heap.size + 1 + 1 < yb ∧ wx.heap[yb]? = some (.cells #[.string zt, .int .i64 zc] 33 (0, 0)) ∧ SelB wx w.heap.size (.slice (some ⟨tb, toff, none⟩) sn sca) (.slice da d.sels.len dca) (.slice db d.frags.length dcb) ∧ Below w.heap.size w wx)
    case first =>
      go_region_held3 (fun w' => w'.cell? ⟨w.heap.size, 0, none⟩ = some (.slice (some ⟨tb, toff, none⟩) sn sca) ∧ w'.cell? ⟨w.heap.size + 1, 0, none⟩ = some (.slice da d.sels.len dca) ∧ w'.cell? ⟨w.heap.size + 1, 1, none⟩ = some (.slice db d.frags.length dcb) ∧ w'.cell? ⟨tb, toff, none⟩ = some (.string hn)) (first | exact ⟨k0, e0, e1, hh1⟩ | exact ⟨j0, j1, j2, hh2⟩ | exact ⟨l0, l1, l2, hh4⟩ | exact ⟨(cell_set2 _ _ _ hn0).trans l0, (cell_set2 _ _ _ hn1).trans l1, (cell_set2 _ _ _ hn1).trans l2, (cell_set2 _ _ _ hn2).trans hh4⟩ | exact ⟨(World.cell?_alloc_lt _ _ ⟨_, _, none⟩ (Nat.lt_of_lt_of_le p0 hz4)).trans l0, (World.cell?_alloc_lt _ _ ⟨_, _, none⟩ (Nat.lt_of_lt_of_le p1 hz4)).trans l1, (World.cell?_alloc_lt _ _ ⟨_, _, none⟩ (Nat.lt_of_lt_of_le p1 hz4)).trans l2, (World.cell?_alloc_lt _ _ ⟨_, _, none⟩ (Nat.lt_of_lt_of_le htw1 hz4)).trans hh4⟩ | go_keep)
        (first
        | (go_at_call 106; refine (C1.out _ HB1a.out).mono ?_; rintro e w4 ⟨rfl, hb4⟩; have HB4 := Lib.hid (HB1a.out.trans (hb4.mono HB1a.out.size)); have SB4 := Lib.hid (SB1a.out.below SB1a.out.lt hb4); have hz4 : w1.heap.size ≤ w4.heap.size := Nat.le_trans (Nat.le_of_lt (Rw.lt_of_get HNEW.out)) hb4.size; have hy4 := (hb4.block _ (Rw.lt_of_get HNEW.out)).trans HNEW.out; have HY4 := Lib.hid hy4; clear hb4; have hy5 := Rw.keep2 hy4; have y0 := hy5.1.1; have y1 := hy5.1.2; have y2 := hy5.2.1; have y3 := hy5.2.2; have hh4 := (HB4.out.cell (p := ⟨tb, toff, none⟩) htw).trans HH0.out; have l0 := (Rw.keep1 SB4.out.sch).1; have l1 := (Rw.keep2 SB4.out.doc).1.1; have l2 := (Rw.keep2 SB4.out.doc).1.2; clear hy4 hy5)
        | (go_at_call 106; refine (C1.out _ HB1.out.drew).mono ?_; rintro e w4 ⟨rfl, hb4⟩; have HB4 := Lib.hid (HB1.out.drew.trans (hb4.mono HB1.out.size)); have SB4 := Lib.hid (SB1.out.below (C := w1.heap.size) SB1.out.lt ((Below.refl _ _).drew.trans hb4)); have hz4 : w1.heap.size ≤ w4.heap.size := hb4.size; have HY4 := Lib.hid True.intro; clear hb4; have hh4 := (HB4.out.cell (p := ⟨tb, toff, none⟩) htw).trans HH0.out; have l0 := (Rw.keep1 SB4.out.sch).1; have l1 := (Rw.keep2 SB4.out.doc).1.1; have l2 := (Rw.keep2 SB4.out.doc).1.2))
      · have hlt4 := SB4.out.lt
        go_wp2_with fail
        go_meet
        exact ⟨w4.heap.size, rfl, by omega, heap_alloc_new w4 _, SB4.out.below SB4.out.lt ((Below.refl _ _).alloc (Nat.le_refl _) _), HB4.out.alloc HB4.out.size _⟩
      · have hlt4 := SB1.out.lt
        have hy5 := putL2_block HY4.out (.string zt) (.int .i64 zc)
        have hs5 := SB4.out.below (C := w1.heap.size) hlt4 (Rw.putL_below (g := w1.heap.size) (B := w1.heap.size) (Nat.le_refl _) [.string zt, .int .i64 zc] 0 (Below.refl _ _))
        have hb5 := Rw.putL_below (g := w1.heap.size) (B := w.heap.size) (by omega) [.string zt, .int .i64 zc] 0 HB4.out
        go_wp2_with fail
        go_meet
        exact ⟨w1.heap.size, rfl, by omega, hy5, hs5, hb5⟩
    case rest =>
      obtain ⟨yb, rfl, hyb, hy, hsb4, hb4⟩ := hcut
      have HB4 := Lib.hid hb4
      have SB4 := Lib.hid hsb4
      rw [← HZT.out, ← HZC.out] at hy
      have HY4 := Lib.hid hy
      have HZF := Lib.hid HFIT.out
      clear hb4 hsb4 hy C1 HB1a HNEW SB1a hh2 j0 j1 j2 htw1 hn0 hn1 hn2 p0 p1 hz1 k0 e0 e1 hh1 o0 o1 g0 g1 HZT HZC HFIT
      have ⟨k0, _⟩ := Rw.keep1 SB4.out.sch
      have ⟨⟨e0, e1⟩, _⟩ := Rw.keep2 SB4.out.doc
      go_wp2_with fail
      go_loopw [7] (fun i wr => ∃ (i' : Nat) (z : WrP), i' ≤ d.frags.length ∧ Hid (rest = WrP.or z (WrP.or (fragsW s d.frags (d.frags.drop i')) cw)) ∧ Hid z.fit ∧ i = .int .i64 i' ∧ Hid (wr.heap[yb]? = some (.cells #[.string (whatW z), .int .i64 (codeW z)] 33 (0, 0))) ∧ Hid (SelB wr w.heap.size (.slice (some ⟨tb, toff, none⟩) sn sca) (.slice da d.sels.len dca) (.slice db d.frags.length dcb)) ∧ Below w.heap.size w wr) (fun i _ => d.frags.length - (intOf i).toNat)
      case atStart => exact ⟨0, z, by omega, Lib.hid (by rw [HZ.out]; rfl), HZF, rfl, HY4, SB4, HB4.out⟩
      case round =>
        clear k0 e0 e1 HZ HZF HY4 SB4 HB4
        obtain ⟨i, z, hi, hm, hzf, rfl, hy, hsb, hb⟩ := hrel
        have HB := Lib.hid hb
        have ⟨k0, _⟩ := Rw.keep1 hsb.out.sch
        have ⟨⟨e0, e1⟩, _⟩ := Rw.keep2 hsb.out.doc
        have ⟨⟨o0, o1⟩, g0, g1⟩ := Rw.keep2 hsb.out.out
        have ⟨⟨y0, y1⟩, yg0, yg1⟩ := Rw.keep2 hy.out
        have hyl := Rw.lt_of_get hy.out
        have hzl := hsb.out.lt
        cases z with
        | none =>
          simp only [whatW, codeW] at y0 y1 hy
          by_cases hlt : i < d.frags.length
          · have hli2 : (i : Int) < (d.frags.length : Int) := by omega
            obtain ⟨x, fb, off, a', cap', hd, rfl, hbb, hok, ⟨q0, q1, q2⟩, hu⟩ := (HDF.out.below hB hb).at hlt
            have HU := Lib.hid hu
            have HD := Lib.hid hd
            have HOK := Lib.hid hok
            have HBA : Hid (∀ o, Below w.heap.size w (wr.alloc o)) := Lib.hid fun o => HB.out.alloc HB.out.size o
            have CX : Hid (∀ o, Calls Tryz.prog 107 #[.agg #[.slice (some ⟨tb, toff, none⟩) sn sca], .string x.on] (wr.alloc o) fun e w'' => e = .returned (.bool (compB s x.on)) ∧ Below (wr.alloc o).heap.size (wr.alloc o) w'') := Lib.hid fun o => CC.out _ x.on HOK.out.2 (HBA.out o)
            have CY : Hid (∀ w', Below wr.heap.size wr w' → Calls Tryz.prog 106 #[.agg #[.slice (some ⟨tb, toff, none⟩) sn sca], .agg #[.slice da d.sels.len dca, .slice (some ⟨fb, off, none⟩) d.frags.length dcb], .slice a' x.sels.len cap', .string x.on] w' fun e w'' => e = .returned (.agg #[.string (whatW (selsW s d.frags x.sels x.on)), .int .i64 (codeW (selsW s d.frags x.sels x.on))]) ∧ Below w'.heap.size w' w'') := Lib.hid fun w' h => CS.out w' x.sels a' cap' x.on HOK.out.2 (HU.out.below (C := wr.heap.size) (Nat.le_trans hB HB.out.size) h) (HB.out.trans (h.mono HB.out.size))
            have HFX := Lib.hid (HFF.out x.sels x.on)
            have HST := Lib.hid (fragsW_drop s d.frags hd)
            have HX1 : Hid (∀ o, Below wr.heap.size wr (wr.alloc o)) := Lib.hid fun o => (Below.refl _ _).alloc (Nat.le_refl _) o
            obtain ⟨cb, hcb⟩ : ∃ p, compB s x.on = p := ⟨_, rfl⟩
            rw [hcb] at CX HST
            generalize selsW s d.frags x.sels x.on = zs at *
            have hfl2 := (Go.Deep.blk_alloc_lt wr (.cells #[.string x.name, .string x.on, .slice a' x.sels.len cap'] 86) w.heap.size (by omega)).trans hsb.out.sch
            have ⟨kk0, _⟩ := Rw.keep1 hfl2
            clear hd hok hu hcb hlt hb hfl2
            go_wp2_with fail
            refine (CX.out _).mono ?_
            rintro e w5 ⟨rfl, hb5⟩
            have HX5 := Lib.hid ((HX1.out _).trans (hb5.mono (HX1.out _).size))
            have HB5 := Lib.hid (HB.out.trans (HX5.out.mono HB.out.size))
            have SB5 := Lib.hid (hsb.out.below hzl HX5.out)
            have HY5 := Lib.hid ((HX5.out.block yb hyl).trans hy.out)
            have HF5 := Lib.hid ((hb5.block wr.heap.size (by simp)).trans (heap_alloc_new wr _))
            clear hb5 kk0 k0 e0 e1 o0 o1 g0 g1 y0 y1 yg0 yg1
            have ⟨k0, _⟩ := Rw.keep1 SB5.out.sch
            have ⟨⟨e0, e1⟩, _⟩ := Rw.keep2 SB5.out.doc
            have ⟨⟨y0, y1⟩, yg0, yg1⟩ := Rw.keep2 HY5.out
            have ⟨⟨f0, f1, f2⟩, _⟩ := Rw.keep3 HF5.out
            have hz5 := SB5.out.lt
            cases cb
            · have hrel : Hid (rest = WrP.or (some (x.on, 6)) (WrP.or (fragsW s d.frags (d.frags.drop (i + 1))) cw)) := Lib.hid (by rw [hm.out, HST.out]; rfl)
              have hy6 := putL2_block HY5.out (.string x.on) (.int .i64 6)
              have hs6 := SB5.out.below (C := yb) (by omega) (Rw.putL_below (g := yb) (B := yb) (Nat.le_refl _) [.string x.on, .int .i64 6] 0 (Below.refl _ _))
              have hb6 := Rw.putL_below (g := yb) (B := w.heap.size) (by omega) [.string x.on, .int .i64 6] 0 HB5.out
              have HY6 := Lib.hid hy6
              have HS6 := Lib.hid hs6
              have HB6 := Lib.hid hb6
              clear hy6 hs6 hb6
              go_wp2_with fail
              go_roundw
              case rel => exact ⟨i + 1, some (x.on, 6), by omega, hrel, Lib.hid (WrP.fit_some (by omega)), by go_num, HY6, HS6, HB6.out⟩
              case measure => simp [intOf]; omega
            · have hrel : Hid (rest = WrP.or zs (WrP.or (fragsW s d.frags (d.frags.drop (i + 1))) cw)) := Lib.hid (by rw [hm.out, HST.out]; cases zs <;> rfl)
              have CY5 := Lib.hid (CY.out w5 HX5.out)
              obtain ⟨zt, hzt⟩ : ∃ x, whatW zs = x := ⟨_, rfl⟩
              obtain ⟨zc, hzc⟩ : ∃ x, codeW zs = x := ⟨_, rfl⟩
              have HZT := Lib.hid hzt
              have HZC := Lib.hid hzc
              rw [hzt, hzc] at CY5
              clear hzt hzc
              go_wp2_with fail
              refine CY5.out.mono ?_
              rintro e w6 ⟨rfl, hb6⟩
              have HB6 := Lib.hid (HB5.out.trans (hb6.mono HB5.out.size))
              have SB6 := Lib.hid (SB5.out.below hz5 hb6)
              have HY6 := Lib.hid ((hb6.block yb (Rw.lt_of_get HY5.out)).trans HY5.out)
              clear hb6 k0 e0 e1 y0 y1 yg0 yg1 f0 f1 f2
              have ⟨⟨y0, y1⟩, yg0, yg1⟩ := Rw.keep2 HY6.out
              have HY7 := Lib.hid (putL2_block HY6.out (.string zt) (.int .i64 zc))
              have HS7 := Lib.hid (SB6.out.below (C := yb) (by omega) (Rw.putL_below (g := yb) (B := yb) (Nat.le_refl _) [.string zt, .int .i64 zc] 0 (Below.refl _ _)))
              have HB7 := Lib.hid (Rw.putL_below (g := yb) (B := w.heap.size) (by omega) [.string zt, .int .i64 zc] 0 HB6.out)
              go_wp2_with fail
              go_roundw
              case rel => exact ⟨i + 1, zs, by omega, hrel, HFX, by go_num, Lib.hid (by rw [HZT.out, HZC.out]; exact HY7.out), HS7, HB7.out⟩
              case measure => simp [intOf]; omega
          · obtain rfl : i = d.frags.length := by omega
            have hf2 : Hid (rest = cw) := Lib.hid (by rw [hm.out, List.drop_length]; rfl)
            have CL2 := Lib.hid (CK.out HNO.out wr da dca (HDS.out.below hB HB.out) HB.out)
            obtain ⟨cd, hcd⟩ : ∃ cd, clashD d = cd := ⟨_, rfl⟩
            rw [hcd] at CL2 HCW
            clear hlt hb hcd
            go_wp2_with fail
            refine CL2.out.mono ?_
            rintro e w5 ⟨rfl, hb5⟩
            have HB5 := Lib.hid (HB.out.trans (hb5.mono HB.out.size))
            have SB5 := Lib.hid (hsb.out.below hzl hb5)
            clear hb5 k0 e0 e1 o0 o1 g0 g1 y0 y1 yg0 yg1
            have ⟨⟨o0, o1⟩, g0, g1⟩ := Rw.keep2 SB5.out.out
            by_cases hce : cd = ⟨#[]⟩
            · have hf3 : Hid (res = none) := Lib.hid (by rw [hlw.out, hf2.out, HCW.out, if_pos hce])
              subst hce
              go_wp2_with fail
              change bodyPost _ _ _ _ _ (Rw.putL w5 (w.heap.size + 1 + 1) 0 [.string ⟨#[]⟩, .int .i64 0])
              have ⟨⟨z0, z1⟩, HBF⟩ := out_two (t := ⟨#[]⟩) (c := 0) SB5.out.out HB5.out (by omega)
              exact bodyPost_ret (v := .agg #[.string ⟨#[]⟩, .int .i64 0]) (by simp [results, Tryz.results54, go_sem, z0, z1]) rfl ⟨by rw [hf3.out]; rfl, HBF⟩
            · have hf3 : Hid (res = some (cd, 7)) := Lib.hid (by rw [hlw.out, hf2.out, HCW.out, if_neg hce])
              have t2 := isEmpty_no hce
              clear hce
              go_wp2_with fail
              change bodyPost _ _ _ _ _ (Rw.putL w5 (w.heap.size + 1 + 1) 0 [.string cd, .int .i64 7])
              have ⟨⟨z0, z1⟩, HBF⟩ := out_two (t := cd) (c := 7) SB5.out.out HB5.out (by omega)
              exact bodyPost_ret (v := .agg #[.string cd, .int .i64 7]) (by simp [results, Tryz.results54, go_sem, z0, z1]) rfl ⟨by rw [hf3.out]; rfl, HBF⟩
        | some zz =>
          obtain ⟨zt, zc⟩ := zz
          have hz6 := hzf.out (zt, zc) rfl
          have hz0 : (zc == 0) = false := by rw [beq_eq_false_iff_ne]; simp only at hz6; omega
          have hz9 : (zc != 0) = true := by simp [bne, hz0]
          have hf2 : Hid (res = some (zt, zc)) := Lib.hid (by rw [hlw.out, hm.out]; rfl)
          simp only [whatW, codeW] at y0 y1 hy
          clear hz6
          by_cases hlt : i < d.frags.length
          case' pos =>
            have hli2 : (i : Int) < (d.frags.length : Int) := by omega
          case' neg =>
            have hli2 : ¬ (i : Int) < (d.frags.length : Int) := by omega
          all_goals
            clear hlt hb
            go_wp2_with fail
            change bodyPost _ _ _ _ _ (Rw.putL wr (w.heap.size + 1 + 1) 0 [.string zt, .int .i64 zc])
            have ⟨⟨z0, z1⟩, HBF⟩ := out_two (t := zt) (c := zc) hsb.out.out HB.out (by omega)
            exact bodyPost_ret (v := .agg #[.string zt, .int .i64 zc]) (by simp [results, Tryz.results54, go_sem, z0, z1]) rfl ⟨by rw [hf2.out]; rfl, HBF⟩
  · have hlw : Hid (res = some (ln, 7)) := Lib.hid (by rw [HRT.out, HLW.out, if_neg hne]; rfl)
    have t2 := isEmpty_no hne
    clear hne hno
    go_wp2_with fail
    change bodyPost _ _ _ _ _ (Rw.putL w1 (w.heap.size + 1 + 1) 0 [.string ln, .int .i64 7])
    have ⟨⟨z0, z1⟩, HBF⟩ := out_two (t := ln) (c := 7) SB1.out.out HB1.out (by omega)
    exact bodyPost_ret (v := .agg #[.string ln, .int .i64 7]) (by simp [results, Tryz.results54, go_sem, z0, z1]) rfl ⟨by rw [hlw.out]; rfl, HBF⟩

end Go.Proofs.YtceabbbmgfeofaaGreatDoor.Selss
