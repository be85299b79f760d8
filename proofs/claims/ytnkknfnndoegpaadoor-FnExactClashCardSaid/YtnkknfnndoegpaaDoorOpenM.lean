/-
  Contract: spec.l05Open lays open the fields of selections, behind others; of what was there nothing but these others is changed. Conditions: in memory, no Frag comes to spread itself.
-/
import Derived.Test.YtnkknfnndoegpaaDoorRows
import Derived.Test.YtnkknfnndoegpaaDoorOwnSs
import Derived.Deep.RegionWith
namespace Go.Proofs.YtnkknfnndoegpaaDoor.Selss
open Go.RowKit Words
set_option linter.unusedVariables false
set_option maxRecDepth 100000

def fdOf (r : RowS) : Fd := ⟨r.key, r.nm, r.f, r.u⟩
theorem opens_step {fr : List FragP} (hn : NoLoop fr) {i : Nat} {s : Sels} {k : Int} {key nm : ByteArray} {f : Int} {u r : Sels} (h : s.drop i = .cons k key nm f u r) :
    opens fr (s.drop i) = (if k = 1 then [⟨key, nm, f, u⟩] else if k = 2 then opens fr u else if k = 3 then opens fr (fragOr nm fr).sels else []) ++ opens fr (s.drop (i + 1)) := by
  rw [Sels.drop_succ i s h, h]; exact opens_cons hn k key nm f u r
theorem full_step {fr : List FragP} (hn : NoLoop fr) {i : Nat} {s : Sels} {k : Int} {key nm : ByteArray} {f : Int} {u r : Sels} (h : s.drop i = .cons k key nm f u r) :
    full fr (s.drop i) = 1 + full fr u + (if k = 3 then full fr (fragOr nm fr).sels else 0) + full fr (s.drop (i + 1)) := by
  rw [Sels.drop_succ i s h, h]; exact full_cons hn k key nm f u r
theorem full_drop {fr : List FragP} (hn : NoLoop fr) : ∀ (i : Nat) (s : Sels), full fr (s.drop i) ≤ full fr s
  | 0, s => Nat.le_refl _
  | i + 1, .nil => Nat.le_refl _
  | i + 1, .cons k key nm f u r => by
    have := full_drop hn i r
    rw [full_cons hn]; simp only [Sels.drop]; omega
theorem fragOr_some {nm : ByteArray} {l : List FragP} {i : Nat} {x : FragP} (h : findN nm l 0 = (i : Int)) (hx : l[i]? = some x) : fragOr nm l = x := by
  unfold fragOr; rw [findN_some (k := 0) (i := i) (by rw [h]; simp) hx]; rfl
theorem fragOr_no {nm : ByteArray} {l : List FragP} (h : findN nm l 0 = -1) : (fragOr nm l).sels = .nil := by unfold fragOr; rw [findN_none h]; rfl

theorem opens_len {fr : List FragP} (hn : NoLoop fr) (s : Sels) : (opens fr s).length ≤ full fr s := Nat.le_trans (sumF_len fr _) (sumF_opens hn _ s (Low.top fr s))
theorem len_of_map {R cur : List RowS} {X : List Fd} (h : R.map fdOf = cur.map fdOf ++ X) : R.length = cur.length + X.length := by
  have := congrArg List.length h
  simpa using this
/-- What l05Open tells. -/
def OpenOut (fr : List FragP) (A B base : Nat) (vo : Value) (R : List RowS) (s : Sels) (w : World) (e : Ending) (w' : World) : Prop :=
  ∃ v' R', e = .returned v' ∧ OwnSs w' base v' R' ∧ R'.map fdOf = R.map fdOf ++ opens fr s ∧ (∀ r, r ∈ R' → r.k = 1 ∧ RowS.ok w' A B r) ∧ MadeS vo v' w w'

set_option maxHeartbeats 4000000 in
theorem specOpen {d : DocP} (hn : NoLoop d.frags) : ∀ (N : Nat) (s : Sels), full d.frags s < N → ∀ (w : World) (A B : Nat) (v : Value) (a : Option Addr) (cap base : Nat) (vo : Value) (R : List RowS), DocAt w A B v d → SelsAt w A B a s.len s → B ≤ base → base ≤ w.heap.size → OwnSs w base vo R → (∀ r, r ∈ R → r.k = 1 ∧ RowS.ok w A B r) → R.length + full d.frags s ≤ 100000000000 →
    Calls Tryd.prog 30 #[v, .slice a s.len cap, vo] w fun e w' => OpenOut d.frags A B base vo R s w e w' := by
  intro N
  induction N with
  | zero => intro s h; omega
  | succ N ih =>
    intro s hfull w A B v a cap base vo R hd hs hB hbase hown hok hlen
    have hsl := hs.2.1
    have IH := Lib.hid ih
    have HDC := Lib.hid hd
    have HS := Lib.hid hs
    have HOK := Lib.hid hok
    have HFU := Lib.hid hfull
    have HLN := Lib.hid hlen
    have HOWN := Lib.hid hown
    have HVB := Lib.hid hown.base
    obtain ⟨da, dca, db, dcb, rfl, _, hdf, _⟩ := hd
    have HF := Lib.hid hdf
    have hfl := hdf.2.1
    obtain ⟨av, cv, rfl⟩ := hown.slice
    obtain ⟨w0, hw0⟩ : ∃ w0, w.alloc (.cells #[.slice da d.sels.len dca, .slice db d.frags.length dcb] 31) = w0 := ⟨_, rfl⟩
    have HB0 : Hid (Below w.heap.size w w0) := Lib.hid (by rw [← hw0]; exact (Below.refl _ _).alloc (Nat.le_refl _) _)
    have hz0 : w0.heap.size = w.heap.size + 1 := by rw [← hw0]; simp
    have HZ0 := Lib.hid hz0
    have HK0 : Hid (w0.heap[w.heap.size]? = some (.cells #[.slice da d.sels.len dca, .slice db d.frags.length dcb] 31 (0, 0))) := Lib.hid (by rw [← hw0]; exact heap_alloc_new w _)
    have HO0 := Lib.hid (hown.below HB0.out)
    clear ih hs hown hok hlen hdf hfull hz0
    go_enter Tryd.func30, Tryd.ntmps30
    go_wp2_with fail
    clear hw0
    go_loopw [2, 7] (fun v i wr => ∃ (i' : Nat) (cur : List RowS) (av' : Option Addr) (cv' : Nat), i' ≤ s.len ∧ Hid (R.map fdOf ++ opens d.frags s = cur.map fdOf ++ opens d.frags (s.drop i')) ∧ v = .slice av' cur.length cv' ∧ i = .int .i64 i' ∧ Hid (OwnSs wr base (.slice av' cur.length cv') cur) ∧ Hid (∀ r, r ∈ cur → r.k = 1 ∧ RowS.ok wr A B r) ∧ Hid (cur.length + full d.frags (s.drop i') ≤ 100000000000) ∧ MadeS (.slice av R.length cv) (.slice av' cur.length cv') w0 wr) (fun _ i _ => s.len - (intOf i).toNat)
    case atStart => exact ⟨0, R, av, cv, by omega, Lib.hid (by rw [Sels.drop_zero]), rfl, rfl, HO0, Lib.hid (fun r hr => ⟨(HOK.out r hr).1, (HOK.out r hr).2.below (Nat.le_trans hB hbase) HB0.out⟩), Lib.hid (by rw [Sels.drop_zero]; exact HLN.out), MadeS.refl _ _⟩
    case round =>
      obtain ⟨i, cur, av', cv', hi, hm, rfl, rfl, HO, HOKC, HN, hmade⟩ := hrel
      have HMD := Lib.hid hmade
      have HOV : Hid (∀ g, (Value.slice av R.length cv).ownBlock = some g → base ≤ g) := Lib.hid fun g hg => (HVB.out g hg).1
      have HBW : Hid (Below base w0 wr) := Lib.hid (hmade.to HOV.out (by have := HZ0.out; omega))
      have HBA : Hid (Below base w wr) := Lib.hid ((HB0.out.mono hbase).trans HBW.out)
      have hzr : w.heap.size < wr.heap.size := by have h1 := hmade.size; have h2 := HZ0.out; omega
      have HBOX : Hid (wr.heap[w.heap.size]? = some (.cells #[.slice da d.sels.len dca, .slice db d.frags.length dcb] 31 (0, 0))) := Lib.hid ((hmade.block (by have := HZ0.out; omega) (fun g hg => by have := (HVB.out g hg).2; omega)).trans HK0.out)
      have ⟨⟨k0, k1⟩, _⟩ := keep2 HBOX.out
      have HOWNB : Hid (∀ g, (Value.slice av' cur.length cv').ownBlock = some g → base ≤ g ∧ g < wr.heap.size ∧ g ≠ w.heap.size) := Lib.hid fun g hg => ⟨(HO.out.base g hg).1, (HO.out.base g hg).2, fun e => by
        rcases HMD.out.own g hg with h | h
        · have := (HVB.out g h).2; omega
        · have := HZ0.out; omega⟩
      by_cases hlt : i < s.len
      · have hli : (i : Int) < (s.len : Int) := by omega
        obtain ⟨k, key, nm, f, u, r, b, off, a', cap', hd, rfl, hbb, hok, ⟨hc0, hc1, hc2, hc3, hc4⟩, hu⟩ := (HS.out.below hB HBA.out).at hlt
        have HU := Lib.hid hu
        have HOKI := Lib.hid hok
        have HST := Lib.hid (opens_step hn hd)
        have HFT := Lib.hid (full_step hn hd)
        have HFD := Lib.hid (full_drop hn i s)
        have hbB : b < base := by omega
        clear hlt hd hok hu
        by_cases hk1 : k = 1
        · subst hk1
          have hrel : Hid (R.map fdOf ++ opens d.frags s = (cur ++ [(⟨1, key, nm, f, u, a', cap'⟩ : RowS)]).map fdOf ++ opens d.frags (s.drop (i + 1))) := Lib.hid (by
            rw [hm.out, HST.out, if_pos rfl, List.map_append, List.append_assoc]; rfl)
          have HN2 : Hid ((cur ++ [(⟨1, key, nm, f, u, a', cap'⟩ : RowS)]).length + full d.frags (s.drop (i + 1)) ≤ 100000000000) := Lib.hid (by
            have e1 := HN.out; have e2 := HFT.out; rw [List.length_append]; simp only [List.length_cons, List.length_nil]; split at e2 <;> omega)
          have HO1 : Hid (OwnSs (wr.alloc (.cells #[.int .i64 1, .string key, .string nm, .int .i64 f, .slice a' u.len cap'] 67)) base (.slice av' cur.length cv') cur) := Lib.hid (HO.out.below ((Below.refl _ _).alloc (Nat.le_refl _) _))
          have HHN := Lib.hid (heap_alloc_new wr (.cells #[.int .i64 1, .string key, .string nm, .int .i64 f, .slice a' u.len cap'] 67))
          have HMA : Hid (MadeS (.slice av R.length cv) (.slice av' cur.length cv') w0 (wr.alloc (.cells #[.int .i64 1, .string key, .string nm, .int .i64 f, .slice a' u.len cap'] 67))) := Lib.hid (HMD.out.below ((Below.refl _ _).alloc (Nat.le_refl _) _))
          have hzb : base ≤ wr.heap.size := by omega
          clear hmade
          go_wp2_with (at_builtin; refine app_one rfl _ _ rfl base (.slice av' cur.length cv') cur rfl HO1.out wr.heap.size 1 rfl ⟨1, key, nm, f, u, a', cap'⟩ HHN.out (by have := HN2.out; rw [List.length_append] at this; simp only [List.length_cons, List.length_nil] at this; omega) (by simp; omega) ?_; intro a3 cap3 w3 hown3 hmd3)
          have HMF := Lib.hid (HMA.out.trans hmd3)
          have HO3 := Lib.hid hown3
          have HB3 : Hid (Below base wr w3) := Lib.hid (((Below.refl _ _).alloc hzb _).trans (hmd3.to (fun g hg => (HO1.out.base g hg).1) (by simp; omega)))
          have HOK3 : Hid (∀ x, x ∈ cur ++ [(⟨1, key, nm, f, u, a', cap'⟩ : RowS)] → x.k = 1 ∧ RowS.ok w3 A B x) := Lib.hid fun x hx => by
            rcases List.mem_append.1 hx with h | h
            · exact ⟨(HOKC.out x h).1, (HOKC.out x h).2.below hB HB3.out⟩
            · simp at h; subst h
              exact ⟨rfl, HOKI.out, HU.out.below hB HB3.out⟩
          clear hown3 hmd3
          go_roundw
          case rel => exact ⟨i + 1, cur ++ [⟨1, key, nm, f, u, a', cap'⟩], a3, cap3, by omega, hrel, by simp, by go_num, Lib.hid (by rw [List.length_append]; exact HO3.out), HOK3, HN2, by rw [List.length_append]; exact HMF.out⟩
          case measure => simp [intOf]; omega
        · have HK1 : Hid ((k == 1) = false) := Lib.hid (by rw [beq_eq_false_iff_ne]; exact hk1)
          have HDD : Hid (DocAt wr.drew A B (.agg #[.slice da d.sels.len dca, .slice db d.frags.length dcb]) d) := Lib.hid (HDC.out.below hB HBA.out.drew)
          have e0 : wr.drew.cell? ⟨w.heap.size, 0, none⟩ = _ := k0
          have e1 : wr.drew.cell? ⟨w.heap.size, 1, none⟩ = _ := k1
          have e2 : wr.drew.cell? ⟨b, off + i * 5 + 2, none⟩ = _ := hc2
          have e4 : wr.drew.cell? ⟨b, off + i * 5 + 4, none⟩ = _ := hc4
          have hzb : base ≤ wr.drew.heap.size := by show base ≤ wr.heap.size; omega
          have HZB := Lib.hid hzb
          have HMDR : Hid (MadeS (.slice av' cur.length cv') (.slice av' cur.length cv') wr wr.drew) := Lib.hid (MadeS.of_below (Below.refl _ _).drew)
          by_cases hk2 : k = 2
          · subst hk2
            have HX : Hid (opens d.frags (s.drop i) = opens d.frags u ++ opens d.frags (s.drop (i + 1))) := Lib.hid (by rw [HST.out, if_neg (by omega), if_pos rfl])
            have CU : Hid (Calls Tryd.prog 30 #[.agg #[.slice da d.sels.len dca, .slice db d.frags.length dcb], .slice a' u.len cap', .slice av' cur.length cv'] wr.drew fun e w' => OpenOut d.frags A B base (.slice av' cur.length cv') cur u wr.drew e w') := Lib.hid
              (IH.out u (by have e1 := HFT.out; have e2 := HFD.out; have e3 := HFU.out; omega) wr.drew A B _ a' cap' base _ cur HDD.out HU.out.drew hB hzb HO.out (fun x hx => ⟨(HOKC.out x hx).1, (HOKC.out x hx).2.1, (HOKC.out x hx).2.2.drew⟩) (by have e1 := HN.out; have e2 := HFT.out; omega))
            clear hmade hzb hk1 k0 k1
            go_wp2_with fail
            go_region_with (go_at_call 30; refine CU.out.mono ?_; rintro e w3 ⟨v3, R3, rfl, ho3, hm3, hok3, hmd3⟩; obtain ⟨a3, c3, rfl⟩ := ho3.slice)
            all_goals
              have HO3 := Lib.hid ho3
              have HMF := Lib.hid (HMD.out.trans (HMDR.out.trans hmd3))
              have HOK3 := Lib.hid hok3
              have hrel : Hid (R.map fdOf ++ opens d.frags s = R3.map fdOf ++ opens d.frags (s.drop (i + 1))) := Lib.hid (by
                rw [hm.out, HX.out, hm3, List.append_assoc])
              have HN2 : Hid (R3.length + full d.frags (s.drop (i + 1)) ≤ 100000000000) := Lib.hid (by
                have e1 := HN.out; have e2 := HFT.out; have e3 := len_of_map hm3; have e4 := opens_len hn u; omega)
              clear ho3 hm3 hok3 hmd3 e0 e1 e2 e4
              go_wp2_with fail
              go_roundw
              case rel => exact ⟨i + 1, R3, a3, c3, by omega, hrel, rfl, by go_num, HO3, HOK3, HN2, HMF.out⟩
              case measure => simp [intOf]; omega
          · have HK2 : Hid ((k == 2) = false) := Lib.hid (by rw [beq_eq_false_iff_ne]; exact hk2)
            by_cases hk3 : k = 3
            · subst hk3
              have HX : Hid (opens d.frags (s.drop i) = opens d.frags (fragOr nm d.frags).sels ++ opens d.frags (s.drop (i + 1))) := Lib.hid (by rw [HST.out, if_neg (by omega), if_neg (by omega), if_pos rfl])
              have HFX : Hid (full d.frags (s.drop i) = 1 + full d.frags u + full d.frags (fragOr nm d.frags).sels + full d.frags (s.drop (i + 1))) := Lib.hid (by rw [HFT.out, if_pos rfl])
              obtain ⟨fn, hfn⟩ : ∃ fn, findN nm d.frags 0 = fn := ⟨_, rfl⟩
              have HFN := Lib.hid hfn
              have CF : Hid (Calls Tryd.prog 26 #[.agg #[.slice da d.sels.len dca, .slice db d.frags.length dcb], .string nm] wr.drew fun e w'' => e = .returned (.int .i64 fn) ∧ Below wr.drew.heap.size wr.drew w'') := Lib.hid (by
                rw [← hfn]; exact specFrag wr.drew A B _ d nm HOKI.out.2.2.1 HDD.out (Nat.le_trans hB hzb))
              clear hmade hk1 hk2 hfn k0 k1
              go_wp2_with fail
              go_region_with (go_at_call 26; refine CF.out.mono ?_; rintro e w3 ⟨rfl, hb3⟩)
              all_goals
                have hHr : w.heap.size < wr.drew.heap.size := hzr
                have q0 := Rw.kcell hb3 hHr e0
                have q1 := Rw.kcell hb3 hHr e1
                have HM3 : Hid (MadeS (.slice av' cur.length cv') (.slice av' cur.length cv') wr w3) := Lib.hid (HMDR.out.below hb3)
                have HB3 : Hid (Below base wr w3) := Lib.hid ((Below.refl base wr).drew.trans (hb3.mono HZB.out))
                have HO3 : Hid (OwnSs w3 base (.slice av' cur.length cv') cur) := Lib.hid (OwnSs.below (w := wr.drew) HO.out hb3)
                have hz3 : base ≤ w3.heap.size := Nat.le_trans HZB.out hb3.size
                clear hb3 e0 e1 e2 e4
                rcases (findN_lt (nm := nm) (l := d.frags) (k := 0)).2 with hneg | hpos
                · obtain rfl : fn = -1 := by rw [← HFN.out]; exact hneg
                  have hrel : Hid (R.map fdOf ++ opens d.frags s = cur.map fdOf ++ opens d.frags (s.drop (i + 1))) := Lib.hid (by
                    rw [hm.out, HX.out, fragOr_no hneg, opens_nil, List.nil_append])
                  have HN2 : Hid (cur.length + full d.frags (s.drop (i + 1)) ≤ 100000000000) := Lib.hid (by have e1 := HN.out; have e2 := HFX.out; omega)
                  have HMF := Lib.hid (HMD.out.trans HM3.out)
                  have HOK3 : Hid (∀ x, x ∈ cur → x.k = 1 ∧ RowS.ok w3 A B x) := Lib.hid fun x hx => ⟨(HOKC.out x hx).1, (HOKC.out x hx).2.below hB HB3.out⟩
                  clear hneg hzb
                  go_wp2_with fail
                  go_roundw
                  case rel => exact ⟨i + 1, cur, _, _, by omega, hrel, rfl, by go_num, HO3, HOK3, HN2, HMF.out⟩
                  case measure => simp [intOf]; omega
                · obtain ⟨j, rfl⟩ : ∃ j : Nat, fn = (j : Int) := ⟨fn.toNat, by rw [HFN.out] at hpos; omega⟩
                  have hj : j < d.frags.length := by have := (findN_lt (nm := nm) (l := d.frags) (k := 0)).1; rw [HFN.out] at this; omega
                  have hjl : (j : Int) < (d.frags.length : Int) := by omega
                  have hj0 : 0 ≤ (j : Int) := by omega
                  obtain ⟨y, yb, yo, ya, ycap, hyd, hye, hybb, hyok, ⟨hy0, hy1, hy2⟩, hyu⟩ := (HF.out.below hB (HBA.out.trans HB3.out)).at hj
                  subst hye
                  have HFO := Lib.hid (fragOr_some HFN.out hyd)
                  have r0 : w3.drew.cell? ⟨w.heap.size, 0, none⟩ = _ := q0
                  have r1 : w3.drew.cell? ⟨w.heap.size, 1, none⟩ = _ := q1
                  have r2 : w3.drew.cell? ⟨yb, yo + j * 3 + 2, none⟩ = _ := hy2
                  have HM4 : Hid (MadeS (.slice av' cur.length cv') (.slice av' cur.length cv') wr w3.drew) := Lib.hid (HM3.out.below (Below.refl _ _).drew)
                  have HDE : Hid (DocAt w3.drew A B (.agg #[.slice da d.sels.len dca, .slice (some ⟨yb, yo, none⟩) d.frags.length dcb]) d) := Lib.hid (HDC.out.below hB (HBA.out.trans HB3.out).drew)
                  have CY : Hid (Calls Tryd.prog 30 #[.agg #[.slice da d.sels.len dca, .slice (some ⟨yb, yo, none⟩) d.frags.length dcb], .slice ya y.sels.len ycap, .slice av' cur.length cv'] w3.drew fun e w' => OpenOut d.frags A B base (.slice av' cur.length cv') cur y.sels w3.drew e w') := Lib.hid
                    (IH.out y.sels (by have e1 := HFX.out; have e2 := HFD.out; have e3 := HFU.out; rw [HFO.out] at e1; omega) w3.drew A B _ ya ycap base _ cur HDE.out hyu.drew hB hz3 HO3.out (fun x hx => ⟨(HOKC.out x hx).1, (HOKC.out x hx).2.1, ((HOKC.out x hx).2.2.below hB HB3.out).drew⟩) (by have e1 := HN.out; have e2 := HFX.out; rw [HFO.out] at e2; omega))
                  clear hpos hj hyd hyok hy0 hy1 hyu hzb hy2 q0 q1
                  go_wp2_with fail
                  go_region_with (go_at_call 30; refine CY.out.mono ?_; rintro e w5 ⟨v5, R5, rfl, ho5, hm5, hok5, hmd5⟩; obtain ⟨a5, c5, rfl⟩ := ho5.slice)
                  all_goals
                    have HO5 := Lib.hid ho5
                    have HMF := Lib.hid (HMD.out.trans (HM4.out.trans hmd5))
                    have HOK5 := Lib.hid hok5
                    have hrel : Hid (R.map fdOf ++ opens d.frags s = R5.map fdOf ++ opens d.frags (s.drop (i + 1))) := Lib.hid (by
                      rw [hm.out, HX.out, HFO.out, hm5, List.append_assoc])
                    have HN2 : Hid (R5.length + full d.frags (s.drop (i + 1)) ≤ 100000000000) := Lib.hid (by
                      have e1 := HN.out; have e2 := HFX.out; rw [HFO.out] at e2; have e3 := len_of_map hm5; have e4 := opens_len hn y.sels; omega)
                    clear ho5 hm5 hok5 hmd5 r0 r1 r2
                    go_wp2_with fail
                    go_roundw
                    case rel => exact ⟨i + 1, R5, a5, c5, by omega, hrel, rfl, by go_num, HO5, HOK5, HN2, HMF.out⟩
                    case measure => simp [intOf]; omega
            · have hk1b := HK1.out
              have hk2b := HK2.out
              have hk3b : (k == 3) = false := by rw [beq_eq_false_iff_ne]; exact hk3
              have hrel : Hid (R.map fdOf ++ opens d.frags s = cur.map fdOf ++ opens d.frags (s.drop (i + 1))) := Lib.hid (by
                rw [hm.out, HST.out, if_neg hk1, if_neg hk2, if_neg hk3, List.nil_append])
              have HN2 : Hid (cur.length + full d.frags (s.drop (i + 1)) ≤ 100000000000) := Lib.hid (by have e1 := HN.out; have e2 := HFT.out; omega)
              clear hmade hk1 hk2 hk3 hzb e0 e1 e2 e4
              go_wp2_with fail
              go_roundw
              case rel => exact ⟨i + 1, cur, _, _, by omega, hrel, rfl, by go_num, HO, HOKC, HN2, HMD.out⟩
              case measure => simp [intOf]; omega
      · obtain rfl : i = s.len := by omega
        have hf := Lib.hid (show R.map fdOf ++ opens d.frags s = cur.map fdOf by rw [hm.out, Sels.drop_end (Nat.le_refl _), opens_nil, List.append_nil])
        clear hlt hmade
        go_wp2_with fail
        go_ret
        exact ⟨_, cur, rfl, HO.out, hf.out.symm, HOKC.out, MadeS.after HB0.out HMD.out⟩
end Go.Proofs.YtnkknfnndoegpaaDoor.Selss
