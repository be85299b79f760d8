/-
  Contract: spec.l05Sels: what is wrong first of Sels, for a type; of what was there nothing is changed. Conditions: in memory. (Written by tools/gen_valo.py.)
-/
import Derived.Test.YtceabbbmgfeofaaGreatDoorRows
import Derived.Test.YtceabbbmgfeofaaGreatDoorValN
namespace Go.Proofs.YtceabbbmgfeofaaGreatDoor.Selss
open Go.RowKit Words
set_option linter.unusedVariables false
set_option maxRecDepth 100000

/-- What l05Sels holds: the boxes of its schema and doc, and its result. -/
structure SelB (w : World) (n : Nat) (sv d0 d1 : Value) : Prop where
  sch : w.heap[n]? = some (.cells #[sv] 25 (0, 0))
  doc : w.heap[n + 1]? = some (.cells #[d0, d1] 29 (0, 0))
  out : w.heap[n + 1 + 1]? = some (.cells #[.string ⟨#[]⟩, .int .i64 0] 33 (0, 0))
theorem SelB.lt {w : World} {n : Nat} {sv d0 d1 : Value} (h : SelB w n sv d0 d1) : n + 1 + 1 < w.heap.size := Rw.lt_of_get h.out
theorem SelB.below {w w' : World} {n : Nat} {sv d0 d1 : Value} (h : SelB w n sv d0 d1) {C : Nat} (hC : n + 1 + 1 < C) (g : Below C w w') : SelB w' n sv d0 d1 :=
  ⟨(g.block _ (by omega)).trans h.sch, (g.block _ (by omega)).trans h.doc, (g.block _ (by omega)).trans h.out⟩
theorem SelB.make (w : World) (sv d0 d1 : Value) : SelB (((w.alloc (.cells #[sv] 25)).alloc (.cells #[d0, d1] 29)).alloc (.cells #[.string ⟨#[]⟩, .int .i64 0] 33)) w.heap.size sv d0 d1 := by
  refine ⟨?_, ?_, ?_⟩
  · rw [Go.Deep.blk_alloc_lt _ _ _ (by simp <;> omega), Go.Deep.blk_alloc_lt _ _ _ (by simp)]; exact heap_alloc_new w _
  · rw [Go.Deep.blk_alloc_lt _ _ _ (by simp)]
    have := heap_alloc_new (w.alloc (.cells #[sv] 25)) (.cells #[d0, d1] 29)
    simpa using this
  · have := heap_alloc_new ((w.alloc (.cells #[sv] 25)).alloc (.cells #[d0, d1] 29)) (.cells #[.string ⟨#[]⟩, .int .i64 0] 33)
    simpa using this
theorem two_blocks (w : World) (o1 o2 : Obj) : ((w.alloc o1).alloc o2).heap[w.heap.size]? = some o1 ∧ ((w.alloc o1).alloc o2).heap[w.heap.size + 1]? = some o2 :=
  ⟨by rw [Go.Deep.blk_alloc_lt _ _ _ (by simp)]; exact heap_alloc_new w _, by have := heap_alloc_new (w.alloc o1) o2; simpa using this⟩
theorem selW_one (s : List Rw.TypeP) (fr : List FragP) (key nm : ByteArray) (n : Int) (u : Sels) (t : ByteArray) : selW s fr 1 key nm n u t = WrP.or (fieldW s key nm n u (Rw.fieldIn nm (Rw.typeIn t s).fields)) (selsW s fr u (Rw.fieldIn nm (Rw.typeIn t s).fields).typ) := if_pos rfl
theorem selW_on (s : List Rw.TypeP) (fr : List FragP) (key nm : ByteArray) (n : Int) (u : Sels) (t : ByteArray) : selW s fr 2 key nm n u t = if compB s nm = true then selsW s fr u nm else some (nm, 6) := by
  unfold selW; rw [if_neg (by omega), if_pos rfl]
theorem selW_spread {s : List Rw.TypeP} {fr : List FragP} {k : Int} (key nm : ByteArray) (n : Int) (u : Sels) (t : ByteArray) (h1 : k ≠ 1) (h2 : k ≠ 2) : selW s fr k key nm n u t = if findN nm fr 0 < 0 then some (nm, 6) else none := by
  unfold selW; rw [if_neg h1, if_neg h2]

set_option maxHeartbeats 8000000 in
theorem specVSels (s : List Rw.TypeP) (d : DocP) : ∀ (m : Nat) (l : Sels), l.all < m → ∀ (w : World) (A B : Nat) (a : Option Addr) (cap : Nat) (v dv : Value) (t : ByteArray), OkS t → SelsAt w A B a l.len l → Rw.SchemaAt w A B v s → DocAt w A B dv d → B ≤ w.heap.size →
    Calls Tryz.prog 106 #[v, dv, .slice a l.len cap, .string t] w fun e w' => e = .returned (.agg #[.string (whatW (selsW s d.frags l t)), .int .i64 (codeW (selsW s d.frags l t))]) ∧ Below w.heap.size w w' := by
  intro m
  induction m with
  | zero => intro l h; omega
  | succ m ih =>
    intro l hall w A B a cap v dv t htk hs hv hd hB
    have hsl := hs.2.1
    have HS := Lib.hid hs
    have IH := Lib.hid ih
    have HT := Lib.hid htk
    have HV := Lib.hid hv
    have HDD := Lib.hid hd
    have CC : Hid (∀ (w' : World) (nm : ByteArray), OkS nm → Below w.heap.size w w' → Calls Tryz.prog 107 #[v, .string nm] w' fun e w'' => e = .returned (.bool (compB s nm)) ∧ Below w'.heap.size w' w'') := Lib.hid fun w' nm hn h => specComposite w' A B v s nm hn (HV.out.below hB h) (Nat.le_trans hB h.size)
    have CFr : Hid (∀ (w' : World) (nm : ByteArray), OkS nm → Below w.heap.size w w' → Calls Tryz.prog 97 #[dv, .string nm] w' fun e w'' => e = .returned (.int .i64 (findN nm d.frags 0)) ∧ Below w'.heap.size w' w'') := Lib.hid fun w' nm hn h => specFrag w' A B _ d nm hn (HDD.out.below hB h) (Nat.le_trans hB h.size)
    obtain ⟨sa, sca, rfl, _, _⟩ := hv
    obtain ⟨da, dca, db, dcb, rfl, _, _⟩ := hd
    obtain ⟨res, hres⟩ : ∃ r, selsW s d.frags l t = r := ⟨_, rfl⟩
    have HRES := Lib.hid hres
    rw [hres]
    have SB0 := Lib.hid (SelB.make w (.slice sa s.length sca) (.slice da d.sels.len dca) (.slice db d.frags.length dcb))
    have HA : Hid (∀ o1 o2 o3, Below w.heap.size w (((w.alloc o1).alloc o2).alloc o3)) := Lib.hid fun o1 o2 o3 => (((Below.refl _ _).alloc (Nat.le_refl _) o1).alloc (by simp) o2).alloc (by simp; omega) o3
    clear ih htk hs hres
    go_enter Tryz.func106, Tryz.ntmps106
    go_wp2_with fail
    go_loopw [9] (fun i wr => ∃ (i' : Nat), i' ≤ l.len ∧ Hid (res = selsW s d.frags (l.drop i') t) ∧ i = .int .i64 i' ∧ Hid (SelB wr w.heap.size (.slice sa s.length sca) (.slice da d.sels.len dca) (.slice db d.frags.length dcb)) ∧ Below w.heap.size w wr) (fun i _ => l.len - (intOf i).toNat)
    case atStart => exact ⟨0, by omega, Lib.hid (by rw [Sels.drop_zero]; exact HRES.out.symm), rfl, SB0, HA.out _ _ _⟩
    case round =>
      obtain ⟨i, hi, hm, rfl, HSB, hb⟩ := hrel
      have HB := Lib.hid hb
      have hz := HSB.out.lt
      have ⟨k0, _⟩ := Rw.keep1 HSB.out.sch
      have ⟨⟨e0, e1⟩, _⟩ := Rw.keep2 HSB.out.doc
      have ⟨⟨o0, o1⟩, g0, g1⟩ := Rw.keep2 HSB.out.out
      by_cases hlt : i < l.len
      · have hli : (i : Int) < (l.len : Int) := by omega
        obtain ⟨k, key, nm, n, u, r, b, off, a', cap', hd, rfl, hbb, hok, ⟨hc0, hc1, hc2, hc3, hc4⟩, hu⟩ := (HS.out.below hB hb).at hlt
        have hua : u.all < m := by have := Sels.all_drop hd; omega
        have HUA := Lib.hid hua
        have HST := Lib.hid (selsW_drop s d.frags t hd)
        have HFIT := Lib.hid (selW_fit s d.frags k key nm n u t)
        have HU := Lib.hid hu
        have HOK := Lib.hid hok
        have hul := hu.2.1
        have HUL := Lib.hid hul
        have H2 : Hid (∀ o1 o2, Below wr.heap.size wr ((wr.alloc o1).alloc o2)) := Lib.hid fun o1 o2 => ((Below.refl _ _).alloc (Nat.le_refl _) o1).alloc (by simp) o2
        have HB2 : Hid (∀ o1 o2, Below w.heap.size w ((wr.alloc o1).alloc o2)) := Lib.hid fun o1 o2 => HB.out.trans ((H2.out o1 o2).mono HB.out.size)
        have SB2 : Hid (∀ o1 o2, SelB ((wr.alloc o1).alloc o2) w.heap.size (.slice sa s.length sca) (.slice da d.sels.len dca) (.slice db d.frags.length dcb)) := Lib.hid fun o1 o2 => HSB.out.below hz (H2.out o1 o2)
        have ⟨ka0, _⟩ := Rw.keep1 (SB2.out (.cells #[.int .i64 k, .string key, .string nm, .int .i64 n, .slice a' u.len cap'] 114) (.cells #[.string ⟨#[]⟩, .int .i64 0] 33)).sch
        have ⟨⟨ea0, ea1⟩, _⟩ := Rw.keep2 (SB2.out (.cells #[.int .i64 k, .string key, .string nm, .int .i64 n, .slice a' u.len cap'] 114) (.cells #[.string ⟨#[]⟩, .int .i64 0] 33)).doc
        clear hlt hd hu hok hb hul hua
        by_cases hk1 : k = 1
        · subst hk1
          have CFD := Lib.hid (specVField ((wr.alloc (.cells #[.int .i64 1, .string key, .string nm, .int .i64 n, .slice a' u.len cap'] 114)).alloc (.cells #[.string ⟨#[]⟩, .int .i64 0] 33)) A B _ _ s d 1 key nm n u a' cap' t HT.out HOK.out HUL.out (HV.out.below hB (HB2.out _ _)) (HDD.out.below hB (HB2.out _ _)) (Nat.le_trans hB (HB2.out _ _).size) (fun w' h => IH.out u HUA.out w' A B a' cap' _ _ _ (Rw.fieldIn_ok HV.out t nm).2.1 (HU.out.below (C := wr.heap.size) (Nat.le_trans hB HB.out.size) ((H2.out _ _).trans (h.mono (H2.out _ _).size))) (HV.out.below hB ((HB2.out _ _).trans (h.mono (HB2.out _ _).size))) (HDD.out.below hB ((HB2.out _ _).trans (h.mono (HB2.out _ _).size))) (Nat.le_trans hB (Nat.le_trans (HB2.out _ _).size h.size))))
          go_wp2_with fail
          refine CFD.out.mono ?_
          rintro e w3 ⟨⟨z, hz9, rfl⟩, hb3⟩
          have HZ : Hid (z = selW s d.frags 1 key nm n u t) := Lib.hid (hz9.out.trans (selW_one s d.frags key nm n u t).symm)
          clear hz9
          have HX3 := Lib.hid ((H2.out _ _).trans (hb3.mono (H2.out _ _).size))
          have HB3 := Lib.hid (HB.out.trans (HX3.out.mono HB.out.size))
          have SB3 := Lib.hid ((SB2.out _ _).below (SB2.out _ _).lt hb3)
          have hyy := (hb3.block (wr.heap.size + 1) (by simp)).trans (two_blocks wr _ _).2
          have hxx := (hb3.block wr.heap.size (by simp <;> omega)).trans (two_blocks wr _ _).1
          have HY3 := Lib.hid hyy
          have HXX3 := Lib.hid hxx
          have hz3 : wr.heap.size + 1 < w3.heap.size := Rw.lt_of_get hyy
          clear hb3 ka0 ea0 ea1 k0 e0 e1 o0 o1 g0 g1
          have ⟨⟨y0, y1⟩, yg0, yg1⟩ := Rw.keep2 hyy
          have ⟨⟨x0, x1, x2, x3, x4⟩, _⟩ := Rw.keep5 hxx
          clear hyy hxx
          have ⟨k0, _⟩ := Rw.keep1 SB3.out.sch
          have ⟨⟨e0, e1⟩, _⟩ := Rw.keep2 SB3.out.doc
          have ⟨⟨o0, o1⟩, g0, g1⟩ := Rw.keep2 SB3.out.out
          cases z with
          | none =>
            have hrel := Lib.hid (hm.out.trans (HST.out.trans (by rw [← HZ.out] <;> rfl)))
            simp only [whatW, codeW]
            go_wp2_with fail
            go_roundw
            case rel => exact ⟨i + 1, by omega, hrel, by go_num, Lib.hid (SB3.out.below (C := wr.heap.size + 1) (by omega) (Rw.putL_below (g := wr.heap.size + 1) (B := wr.heap.size + 1) (Nat.le_refl _) [.string ⟨#[]⟩, .int .i64 0] 0 (Below.refl _ _))), Rw.putL_below (g := wr.heap.size + 1) (B := w.heap.size) (by omega) [.string ⟨#[]⟩, .int .i64 0] 0 HB3.out⟩
            case measure => simp [intOf]; omega
          | some zz =>
            obtain ⟨zt, zc⟩ := zz
            have hf := Lib.hid (hm.out.trans (HST.out.trans (by rw [← HZ.out] <;> rfl)))
            have hz6 := HFIT.out (zt, zc) HZ.out.symm
            have hz0 : (zc == 0) = false := by rw [beq_eq_false_iff_ne]; simp only at hz6; omega
            simp only [whatW, codeW]
            clear hz6
            go_wp2_with fail
            change bodyPost _ _ _ _ _ (Rw.putL (Rw.putL w3 (wr.heap.size + 1) 0 [.string zt, .int .i64 zc]) (w.heap.size + 1 + 1) 0 [.string zt, .int .i64 zc])
            have SBy := Lib.hid (SB3.out.below (C := wr.heap.size + 1) (by omega) (Rw.putL_below (g := wr.heap.size + 1) (B := wr.heap.size + 1) (Nat.le_refl _) [.string zt, .int .i64 zc] 0 (Below.refl _ _)))
            have HBy := Lib.hid (Rw.putL_below (g := wr.heap.size + 1) (B := w.heap.size) (by omega) [.string zt, .int .i64 zc] 0 HB3.out)
            generalize Rw.putL w3 (wr.heap.size + 1) 0 [.string zt, .int .i64 zc] = wy at *
            obtain ⟨hr, _, _⟩ := Rw.putL_cells (g := w.heap.size + 1 + 1) (o := 0) (l := [.string zt, .int .i64 zc]) SBy.out.out (by simp)
            have HBF := Rw.putL_below (g := w.heap.size + 1 + 1) (B := w.heap.size) (by omega) [.string zt, .int .i64 zc] 0 HBy.out
            generalize Rw.putL wy (w.heap.size + 1 + 1) 0 [.string zt, .int .i64 zc] = wz at *
            have ⟨z0, z1⟩ : wz.cell? ⟨w.heap.size + 1 + 1, 0, none⟩ = some (.string zt) ∧ wz.cell? ⟨w.heap.size + 1 + 1, 1, none⟩ = some (.int .i64 zc) := ⟨hr 0 _ rfl, hr 1 _ rfl⟩
            exact bodyPost_ret (v := .agg #[.string zt, .int .i64 zc]) (by simp [results, Tryz.results106, go_sem, z0, z1]) rfl ⟨by rw [hf.out]; rfl, HBF⟩
        · by_cases hk2 : k = 2
          · subst hk2
            have CC1 := Lib.hid (CC.out ((wr.alloc (.cells #[.int .i64 2, .string key, .string nm, .int .i64 n, .slice a' u.len cap'] 114)).alloc (.cells #[.string ⟨#[]⟩, .int .i64 0] 33)) nm HOK.out.2.2.1 (HB2.out _ _))
            have CS2 : Hid (∀ w', Below ((wr.alloc (.cells #[.int .i64 2, .string key, .string nm, .int .i64 n, .slice a' u.len cap'] 114)).alloc (.cells #[.string ⟨#[]⟩, .int .i64 0] 33)).heap.size ((wr.alloc (.cells #[.int .i64 2, .string key, .string nm, .int .i64 n, .slice a' u.len cap'] 114)).alloc (.cells #[.string ⟨#[]⟩, .int .i64 0] 33)) w' → Calls Tryz.prog 106 #[.agg #[.slice sa s.length sca], .agg #[.slice da d.sels.len dca, .slice db d.frags.length dcb], .slice a' u.len cap', .string nm] w' fun e w'' => e = .returned (.agg #[.string (whatW (selsW s d.frags u nm)), .int .i64 (codeW (selsW s d.frags u nm))]) ∧ Below w'.heap.size w' w'') := Lib.hid fun w' h => IH.out u HUA.out w' A B a' cap' _ _ _ HOK.out.2.2.1 (HU.out.below (C := wr.heap.size) (Nat.le_trans hB HB.out.size) ((H2.out _ _).trans (h.mono (H2.out _ _).size))) (HV.out.below hB ((HB2.out _ _).trans (h.mono (HB2.out _ _).size))) (HDD.out.below hB ((HB2.out _ _).trans (h.mono (HB2.out _ _).size))) (Nat.le_trans hB (Nat.le_trans (HB2.out _ _).size h.size))
            have HON := Lib.hid (selW_on s d.frags key nm n u t)
            obtain ⟨cb, hcb⟩ : ∃ p, compB s nm = p := ⟨_, rfl⟩
            rw [hcb] at CC1 HON
            clear hcb
            cases cb
            · have HZ : Hid (some (nm, 6) = selW s d.frags 2 key nm n u t) := Lib.hid (by rw [HON.out]; rfl)
              have hf := Lib.hid (hm.out.trans (HST.out.trans (by rw [← HZ.out] <;> rfl)))
              go_wp2_with (go_at_call 107; refine CC1.out.mono ?_; rintro e w3 ⟨rfl, hb3⟩; have HX3 := Lib.hid ((H2.out _ _).trans (hb3.mono (H2.out _ _).size)); have HB3 := Lib.hid (HB.out.trans (HX3.out.mono HB.out.size)); have SB3 := Lib.hid ((SB2.out _ _).below (SB2.out _ _).lt hb3); have hyy := (hb3.block (wr.heap.size + 1) (by simp)).trans (two_blocks wr _ _).2; have hxx := (hb3.block wr.heap.size (by simp <;> omega)).trans (two_blocks wr _ _).1; have HY3 := Lib.hid hyy; have HXX3 := Lib.hid hxx; have hz3 : wr.heap.size + 1 < w3.heap.size := Rw.lt_of_get hyy; clear hb3 ka0 ea0 ea1 k0 e0 e1 o0 o1 g0 g1; have ⟨⟨y0, y1⟩, yg0, yg1⟩ := Rw.keep2 hyy; have ⟨⟨x0, x1, x2, x3, x4⟩, _⟩ := Rw.keep5 hxx; clear hyy hxx; have ⟨k0, _⟩ := Rw.keep1 SB3.out.sch; have ⟨⟨e0, e1⟩, _⟩ := Rw.keep2 SB3.out.doc; have ⟨⟨o0, o1⟩, g0, g1⟩ := Rw.keep2 SB3.out.out)
              change bodyPost _ _ _ _ _ (Rw.putL (Rw.putL w3 (wr.heap.size + 1) 0 [.string nm, .int .i64 6]) (w.heap.size + 1 + 1) 0 [.string nm, .int .i64 6])
              have SBy := Lib.hid (SB3.out.below (C := wr.heap.size + 1) (by omega) (Rw.putL_below (g := wr.heap.size + 1) (B := wr.heap.size + 1) (Nat.le_refl _) [.string nm, .int .i64 6] 0 (Below.refl _ _)))
              have HBy := Lib.hid (Rw.putL_below (g := wr.heap.size + 1) (B := w.heap.size) (by omega) [.string nm, .int .i64 6] 0 HB3.out)
              generalize Rw.putL w3 (wr.heap.size + 1) 0 [.string nm, .int .i64 6] = wy at *
              obtain ⟨hr, _, _⟩ := Rw.putL_cells (g := w.heap.size + 1 + 1) (o := 0) (l := [.string nm, .int .i64 6]) SBy.out.out (by simp)
              have HBF := Rw.putL_below (g := w.heap.size + 1 + 1) (B := w.heap.size) (by omega) [.string nm, .int .i64 6] 0 HBy.out
              generalize Rw.putL wy (w.heap.size + 1 + 1) 0 [.string nm, .int .i64 6] = wz at *
              have ⟨z0, z1⟩ : wz.cell? ⟨w.heap.size + 1 + 1, 0, none⟩ = some (.string nm) ∧ wz.cell? ⟨w.heap.size + 1 + 1, 1, none⟩ = some (.int .i64 6) := ⟨hr 0 _ rfl, hr 1 _ rfl⟩
              exact bodyPost_ret (v := .agg #[.string nm, .int .i64 6]) (by simp [results, Tryz.results106, go_sem, z0, z1]) rfl ⟨by rw [hf.out]; rfl, HBF⟩
            · obtain ⟨z, hz9⟩ : ∃ z, selsW s d.frags u nm = z := ⟨_, rfl⟩
              have HZ : Hid (z = selW s d.frags 2 key nm n u t) := Lib.hid (by rw [HON.out]; exact hz9.symm)
              rw [hz9] at CS2
              clear hz9
              go_wp2_with (go_at_call 107; refine CC1.out.mono ?_; rintro e w3 ⟨rfl, hb3⟩; have HC3 := Lib.hid hb3; have HX3 := Lib.hid ((H2.out _ _).trans (hb3.mono (H2.out _ _).size)); have HB3 := Lib.hid (HB.out.trans (HX3.out.mono HB.out.size)); have SB3 := Lib.hid ((SB2.out _ _).below (SB2.out _ _).lt hb3); have hyy := (hb3.block (wr.heap.size + 1) (by simp)).trans (two_blocks wr _ _).2; have hxx := (hb3.block wr.heap.size (by simp <;> omega)).trans (two_blocks wr _ _).1; have HY3 := Lib.hid hyy; have HXX3 := Lib.hid hxx; have hz3 : wr.heap.size + 1 < w3.heap.size := Rw.lt_of_get hyy; clear hb3 ka0 ea0 ea1 k0 e0 e1 o0 o1 g0 g1; have ⟨⟨y0, y1⟩, yg0, yg1⟩ := Rw.keep2 hyy; have ⟨⟨x0, x1, x2, x3, x4⟩, _⟩ := Rw.keep5 hxx; clear hyy hxx; have ⟨k0, _⟩ := Rw.keep1 SB3.out.sch; have ⟨⟨e0, e1⟩, _⟩ := Rw.keep2 SB3.out.doc; have ⟨⟨o0, o1⟩, g0, g1⟩ := Rw.keep2 SB3.out.out)
              refine (CS2.out _ HC3.out).mono ?_
              rintro e w4 ⟨rfl, hb4⟩
              have HX4 := Lib.hid (HX3.out.trans (hb4.mono HX3.out.size))
              have HB4 := Lib.hid (HB3.out.trans (hb4.mono HB3.out.size))
              have SB4 := Lib.hid (SB3.out.below SB3.out.lt hb4)
              have hyy := (hb4.block (wr.heap.size + 1) (by omega)).trans HY3.out
              have hxx := (hb4.block wr.heap.size (by omega)).trans HXX3.out
              have HY4 := Lib.hid hyy
              have HXX4 := Lib.hid hxx
              have hz4 : wr.heap.size + 1 < w4.heap.size := Rw.lt_of_get hyy
              clear hb4 k0 e0 e1 o0 o1 g0 g1 y0 y1 yg0 yg1 x0 x1 x2 x3 x4
              have ⟨⟨y0, y1⟩, yg0, yg1⟩ := Rw.keep2 hyy
              have ⟨⟨x0, x1, x2, x3, x4⟩, _⟩ := Rw.keep5 hxx
              clear hyy hxx
              have ⟨k0, _⟩ := Rw.keep1 SB4.out.sch
              have ⟨⟨e0, e1⟩, _⟩ := Rw.keep2 SB4.out.doc
              have ⟨⟨o0, o1⟩, g0, g1⟩ := Rw.keep2 SB4.out.out
              cases z with
              | none =>
                have hrel := Lib.hid (hm.out.trans (HST.out.trans (by rw [← HZ.out] <;> rfl)))
                simp only [whatW, codeW]
                go_wp2_with fail
                go_roundw
                case rel => exact ⟨i + 1, by omega, hrel, by go_num, Lib.hid (SB4.out.below (C := wr.heap.size + 1) (by omega) (Rw.putL_below (g := wr.heap.size + 1) (B := wr.heap.size + 1) (Nat.le_refl _) [.string ⟨#[]⟩, .int .i64 0] 0 (Below.refl _ _))), Rw.putL_below (g := wr.heap.size + 1) (B := w.heap.size) (by omega) [.string ⟨#[]⟩, .int .i64 0] 0 HB4.out⟩
                case measure => simp [intOf]; omega
              | some zz =>
                obtain ⟨zt, zc⟩ := zz
                have hf := Lib.hid (hm.out.trans (HST.out.trans (by rw [← HZ.out] <;> rfl)))
                have hz6 := HFIT.out (zt, zc) HZ.out.symm
                have hz0 : (zc == 0) = false := by rw [beq_eq_false_iff_ne]; simp only at hz6; omega
                simp only [whatW, codeW]
                clear hz6
                go_wp2_with fail
                change bodyPost _ _ _ _ _ (Rw.putL (Rw.putL w4 (wr.heap.size + 1) 0 [.string zt, .int .i64 zc]) (w.heap.size + 1 + 1) 0 [.string zt, .int .i64 zc])
                have SBy := Lib.hid (SB4.out.below (C := wr.heap.size + 1) (by omega) (Rw.putL_below (g := wr.heap.size + 1) (B := wr.heap.size + 1) (Nat.le_refl _) [.string zt, .int .i64 zc] 0 (Below.refl _ _)))
                have HBy := Lib.hid (Rw.putL_below (g := wr.heap.size + 1) (B := w.heap.size) (by omega) [.string zt, .int .i64 zc] 0 HB4.out)
                generalize Rw.putL w4 (wr.heap.size + 1) 0 [.string zt, .int .i64 zc] = wy at *
                obtain ⟨hr, _, _⟩ := Rw.putL_cells (g := w.heap.size + 1 + 1) (o := 0) (l := [.string zt, .int .i64 zc]) SBy.out.out (by simp)
                have HBF := Rw.putL_below (g := w.heap.size + 1 + 1) (B := w.heap.size) (by omega) [.string zt, .int .i64 zc] 0 HBy.out
                generalize Rw.putL wy (w.heap.size + 1 + 1) 0 [.string zt, .int .i64 zc] = wz at *
                have ⟨z0, z1⟩ : wz.cell? ⟨w.heap.size + 1 + 1, 0, none⟩ = some (.string zt) ∧ wz.cell? ⟨w.heap.size + 1 + 1, 1, none⟩ = some (.int .i64 zc) := ⟨hr 0 _ rfl, hr 1 _ rfl⟩
                exact bodyPost_ret (v := .agg #[.string zt, .int .i64 zc]) (by simp [results, Tryz.results106, go_sem, z0, z1]) rfl ⟨by rw [hf.out]; rfl, HBF⟩
          · have q1 : (k == 1) = false := by rw [beq_eq_false_iff_ne]; exact hk1
            have q2 : (k == 2) = false := by rw [beq_eq_false_iff_ne]; exact hk2
            have CF1 := Lib.hid (CFr.out ((wr.alloc (.cells #[.int .i64 k, .string key, .string nm, .int .i64 n, .slice a' u.len cap'] 114)).alloc (.cells #[.string ⟨#[]⟩, .int .i64 0] 33)) nm HOK.out.2.2.1 (HB2.out _ _))
            have HSP := Lib.hid (selW_spread (s := s) (fr := d.frags) key nm n u t hk1 hk2)
            obtain ⟨fn, hfn⟩ : ∃ p, findN nm d.frags 0 = p := ⟨_, rfl⟩
            rw [hfn] at CF1 HSP
            clear hfn
            by_cases hneg : fn < 0
            · have hf := Lib.hid (hm.out.trans (HST.out.trans (by rw [HSP.out, if_pos hneg] <;> rfl)))
              go_wp2_with (go_at_call 97; refine CF1.out.mono ?_; rintro e w3 ⟨rfl, hb3⟩; have HX3 := Lib.hid ((H2.out _ _).trans (hb3.mono (H2.out _ _).size)); have HB3 := Lib.hid (HB.out.trans (HX3.out.mono HB.out.size)); have SB3 := Lib.hid ((SB2.out _ _).below (SB2.out _ _).lt hb3); have hyy := (hb3.block (wr.heap.size + 1) (by simp)).trans (two_blocks wr _ _).2; have hxx := (hb3.block wr.heap.size (by simp <;> omega)).trans (two_blocks wr _ _).1; have HY3 := Lib.hid hyy; have HXX3 := Lib.hid hxx; have hz3 : wr.heap.size + 1 < w3.heap.size := Rw.lt_of_get hyy; clear hb3 ka0 ea0 ea1 k0 e0 e1 o0 o1 g0 g1; have ⟨⟨y0, y1⟩, yg0, yg1⟩ := Rw.keep2 hyy; have ⟨⟨x0, x1, x2, x3, x4⟩, _⟩ := Rw.keep5 hxx; clear hyy hxx; have ⟨k0, _⟩ := Rw.keep1 SB3.out.sch; have ⟨⟨e0, e1⟩, _⟩ := Rw.keep2 SB3.out.doc; have ⟨⟨o0, o1⟩, g0, g1⟩ := Rw.keep2 SB3.out.out)
              change bodyPost _ _ _ _ _ (Rw.putL (Rw.putL w3 (wr.heap.size + 1) 0 [.string nm, .int .i64 6]) (w.heap.size + 1 + 1) 0 [.string nm, .int .i64 6])
              have SBy := Lib.hid (SB3.out.below (C := wr.heap.size + 1) (by omega) (Rw.putL_below (g := wr.heap.size + 1) (B := wr.heap.size + 1) (Nat.le_refl _) [.string nm, .int .i64 6] 0 (Below.refl _ _)))
              have HBy := Lib.hid (Rw.putL_below (g := wr.heap.size + 1) (B := w.heap.size) (by omega) [.string nm, .int .i64 6] 0 HB3.out)
              generalize Rw.putL w3 (wr.heap.size + 1) 0 [.string nm, .int .i64 6] = wy at *
              obtain ⟨hr, _, _⟩ := Rw.putL_cells (g := w.heap.size + 1 + 1) (o := 0) (l := [.string nm, .int .i64 6]) SBy.out.out (by simp)
              have HBF := Rw.putL_below (g := w.heap.size + 1 + 1) (B := w.heap.size) (by omega) [.string nm, .int .i64 6] 0 HBy.out
              generalize Rw.putL wy (w.heap.size + 1 + 1) 0 [.string nm, .int .i64 6] = wz at *
              have ⟨z0, z1⟩ : wz.cell? ⟨w.heap.size + 1 + 1, 0, none⟩ = some (.string nm) ∧ wz.cell? ⟨w.heap.size + 1 + 1, 1, none⟩ = some (.int .i64 6) := ⟨hr 0 _ rfl, hr 1 _ rfl⟩
              exact bodyPost_ret (v := .agg #[.string nm, .int .i64 6]) (by simp [results, Tryz.results106, go_sem, z0, z1]) rfl ⟨by rw [hf.out]; rfl, HBF⟩
            · have hrel := Lib.hid (hm.out.trans (HST.out.trans (by rw [HSP.out, if_neg hneg] <;> rfl)))
              go_wp2_with (go_at_call 97; refine CF1.out.mono ?_; rintro e w3 ⟨rfl, hb3⟩; have HX3 := Lib.hid ((H2.out _ _).trans (hb3.mono (H2.out _ _).size)); have HB3 := Lib.hid (HB.out.trans (HX3.out.mono HB.out.size)); have SB3 := Lib.hid ((SB2.out _ _).below (SB2.out _ _).lt hb3); have hyy := (hb3.block (wr.heap.size + 1) (by simp)).trans (two_blocks wr _ _).2; have hxx := (hb3.block wr.heap.size (by simp <;> omega)).trans (two_blocks wr _ _).1; have HY3 := Lib.hid hyy; have HXX3 := Lib.hid hxx; have hz3 : wr.heap.size + 1 < w3.heap.size := Rw.lt_of_get hyy; clear hb3 ka0 ea0 ea1 k0 e0 e1 o0 o1 g0 g1; have ⟨⟨y0, y1⟩, yg0, yg1⟩ := Rw.keep2 hyy; have ⟨⟨x0, x1, x2, x3, x4⟩, _⟩ := Rw.keep5 hxx; clear hyy hxx; have ⟨k0, _⟩ := Rw.keep1 SB3.out.sch; have ⟨⟨e0, e1⟩, _⟩ := Rw.keep2 SB3.out.doc; have ⟨⟨o0, o1⟩, g0, g1⟩ := Rw.keep2 SB3.out.out)
              go_roundw
              case rel => exact ⟨i + 1, by omega, hrel, by go_num, SB3, HB3.out⟩
              case measure => simp [intOf]; omega
      · obtain rfl : i = l.len := by omega
        have hf : Hid (res = none) := Lib.hid (by rw [hm.out, Sels.drop_end (Nat.le_refl _)]; rfl)
        clear hlt hb
        go_wp2_with fail
        change bodyPost _ _ _ _ _ (Rw.putL wr (w.heap.size + 1 + 1) 0 [.string ⟨#[]⟩, .int .i64 0])
        obtain ⟨hr, _, _⟩ := Rw.putL_cells (g := w.heap.size + 1 + 1) (o := 0) (l := [.string ⟨#[]⟩, .int .i64 0]) HSB.out.out (by simp)
        have HBF := Rw.putL_below (g := w.heap.size + 1 + 1) (B := w.heap.size) (by omega) [.string ⟨#[]⟩, .int .i64 0] 0 HB.out
        generalize Rw.putL wr (w.heap.size + 1 + 1) 0 [.string ⟨#[]⟩, .int .i64 0] = wz at *
        have ⟨z0, z1⟩ : wz.cell? ⟨w.heap.size + 1 + 1, 0, none⟩ = some (.string ⟨#[]⟩) ∧ wz.cell? ⟨w.heap.size + 1 + 1, 1, none⟩ = some (.int .i64 0) := ⟨hr 0 _ rfl, hr 1 _ rfl⟩
        exact bodyPost_ret (v := .agg #[.string ⟨#[]⟩, .int .i64 0]) (by simp [results, Tryz.results106, go_sem, z0, z1]) rfl ⟨by rw [hf.out]; rfl, HBF⟩
end Go.Proofs.YtceabbbmgfeofaaGreatDoor.Selss
