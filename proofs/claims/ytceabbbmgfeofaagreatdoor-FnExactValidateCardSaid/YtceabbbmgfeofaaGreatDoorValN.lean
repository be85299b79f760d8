/-
  Contract: spec.l05Field: what is wrong of a field, for a type; of what was there nothing is changed. Conditions: in memory. (Written by tools/gen_valn.py.)
-/
import Derived.Test.YtceabbbmgfeofaaGreatDoorRows
import Derived.Test.YtceabbbmgfeofaaGreatDoorValM
namespace Go.Proofs.YtceabbbmgfeofaaGreatDoor.Selss
open Go.RowKit Words
set_option linter.unusedVariables false
set_option maxRecDepth 100000

theorem fieldW_none {s : List Rw.TypeP} {key nm : ByteArray} {n : Int} {u : Sels} {f : Rw.FieldP} (h : f.name = ⟨#[]⟩) : fieldW s key nm n u f = some (nm, 6) := if_pos h
theorem fieldW_range {s : List Rw.TypeP} {key nm : ByteArray} {n : Int} {u : Sels} {f : Rw.FieldP} (h : f.name ≠ ⟨#[]⟩) (h2 : firstBad f n = true) : fieldW s key nm n u f = some (key, 8) := by
  unfold fieldW; rw [if_neg h, if_pos h2]
theorem fieldW_state {s : List Rw.TypeP} {key nm : ByteArray} {n : Int} {u : Sels} {f : Rw.FieldP} (h : f.name ≠ ⟨#[]⟩) (h2 : firstBad f n = false) (h3 : ((Rw.typeIn f.typ s).kind == 1) = decide (0 < u.len)) : fieldW s key nm n u f = some (key, 10) := by
  unfold fieldW; rw [if_neg h, if_neg (by rw [h2]; simp), if_pos h3]
theorem fieldW_yes {s : List Rw.TypeP} {key nm : ByteArray} {n : Int} {u : Sels} {f : Rw.FieldP} (h : f.name ≠ ⟨#[]⟩) (h2 : firstBad f n = false) (h3 : ¬ ((Rw.typeIn f.typ s).kind == 1) = decide (0 < u.len)) : fieldW s key nm n u f = none := by
  unfold fieldW; rw [if_neg h, if_neg (by rw [h2]; simp), if_neg h3]

set_option maxHeartbeats 8000000 in
theorem specVField (w : World) (A B : Nat) (v dv : Value) (s : List Rw.TypeP) (d : DocP) (k : Int) (key nm : ByteArray) (n : Int) (u : Sels) (ua : Option Addr) (ucap : Nat) (t : ByteArray)
    (htk : OkS t) (hok : OkI k ∧ OkS key ∧ OkS nm ∧ OkI n) (hul : u.len ≤ 9223372036854775807) (hv : Rw.SchemaAt w A B v s) (hd : DocAt w A B dv d) (hB : B ≤ w.heap.size)
    (hcs : ∀ w', Below w.heap.size w w' → Calls Tryz.prog 106 #[v, dv, .slice ua u.len ucap, .string (Rw.fieldIn nm (Rw.typeIn t s).fields).typ] w' fun e w'' => e = .returned (.agg #[.string (whatW (selsW s d.frags u (Rw.fieldIn nm (Rw.typeIn t s).fields).typ)), .int .i64 (codeW (selsW s d.frags u (Rw.fieldIn nm (Rw.typeIn t s).fields).typ))]) ∧ Below w'.heap.size w' w'') :
    Calls Tryz.prog 150 #[v, dv, .agg #[.int .i64 k, .string key, .string nm, .int .i64 n, .slice ua u.len ucap], .string t] w fun e w' =>
      (∃ x : WrP, Hid (x = WrP.or (fieldW s key nm n u (Rw.fieldIn nm (Rw.typeIn t s).fields)) (selsW s d.frags u (Rw.fieldIn nm (Rw.typeIn t s).fields).typ)) ∧ e = .returned (.agg #[.string (whatW x), .int .i64 (codeW x)])) ∧ Below w.heap.size w w' := by
  have CG : Hid (∀ w', Below w.heap.size w w' → Calls Tryz.prog 181 #[v, .string t, .string nm] w' fun e w'' => e = .returned (.agg (Rw.fieldIn nm (Rw.typeIn t s).fields).cells.toArray) ∧ Below w'.heap.size w' w'') := Lib.hid fun w' h => Rw.specGet w' A B v s t nm htk hok.2.2.1 (hv.below hB h) (Nat.le_trans hB h.size)
  have HFO := Lib.hid (Rw.fieldIn_ok hv t nm)
  have CT : Hid (∀ w', Below w.heap.size w w' → Calls Tryz.prog 50 #[v, .string (Rw.fieldIn nm (Rw.typeIn t s).fields).typ] w' fun e w'' => (∃ a ca c cc, e = .returned (.agg ((Rw.typeIn (Rw.fieldIn nm (Rw.typeIn t s).fields).typ s).cells a ca c cc).toArray) ∧ Rw.TypeAt w'' A B (.agg ((Rw.typeIn (Rw.fieldIn nm (Rw.typeIn t s).fields).typ s).cells a ca c cc).toArray) (Rw.typeIn (Rw.fieldIn nm (Rw.typeIn t s).fields).typ s)) ∧ Below w'.heap.size w' w'') := Lib.hid fun w' h => Rw.specType w' A B v s _ HFO.out.2.1 (hv.below hB h) (Nat.le_trans hB h.size)
  have CS := Lib.hid hcs
  obtain ⟨sa, sca, rfl, _, _⟩ := hv
  obtain ⟨da, dca, db, dcb, rfl, _, _⟩ := hd
  have HOK := Lib.hid hok
  clear hok hcs htk
  generalize Rw.fieldIn nm (Rw.typeIn t s).fields = f at *
  obtain ⟨fn, ft, fl, fm, fs, fc⟩ := f
  simp only [Rw.FieldP.cells] at CG CT CS
  generalize selsW s d.frags u ft = sw at *
  have HFW := Lib.hid (fun (h : fn = ⟨#[]⟩) => fieldW_none (s := s) (key := key) (nm := nm) (n := n) (u := u) (f := ⟨fn, ft, fl, fm, fs, fc⟩) h)
  have HFR := Lib.hid (fun (h : fn ≠ ⟨#[]⟩) => fieldW_range (s := s) (key := key) (nm := nm) (n := n) (u := u) (f := ⟨fn, ft, fl, fm, fs, fc⟩) h)
  have HFS := Lib.hid (fun (h : fn ≠ ⟨#[]⟩) => fieldW_state (s := s) (key := key) (nm := nm) (n := n) (u := u) (f := ⟨fn, ft, fl, fm, fs, fc⟩) h)
  have HFY := Lib.hid (fun (h : fn ≠ ⟨#[]⟩) => fieldW_yes (s := s) (key := key) (nm := nm) (n := n) (u := u) (f := ⟨fn, ft, fl, fm, fs, fc⟩) h)
  generalize fieldW s key nm n u ⟨fn, ft, fl, fm, fs, fc⟩ = fw at *
  generalize Rw.typeIn ft s = y at *
  obtain ⟨tn, tk, tb, tf, tm⟩ := y
  simp only [Rw.TypeP.cells] at CT HFS HFY
  have hfld : ∀ (W : World) (ta tca tc tcc), (Instr.field 48 (.agg #[.string tn, .int .i64 tk, .int .i64 tb, .slice ta tf.length tca, .slice tc tm.length tcc]) 1).run Tryz.prog W = .ok (.int .i64 tk) W := fun _ _ _ _ _ => rfl
  have FB0 := Lib.hid (FieldB.make w (.slice sa s.length sca) (.slice da d.sels.len dca) (.slice db d.frags.length dcb) k key nm n (.slice ua u.len ucap))
  have HA : Hid (∀ o1 o2 o3 o4, Below w.heap.size w ((((w.alloc o1).alloc o2).alloc o3).alloc o4)) := Lib.hid fun o1 o2 o3 o4 => ((((Below.refl _ _).alloc (Nat.le_refl _) o1).alloc (by simp) o2).alloc (by simp; omega) o3).alloc (by simp; omega) o4
  have okn := HOK.out.2.2.2
  have okc := HFO.out.2.2.2
  simp only at okc
  have C1 : Hid (∀ w, Calls Tryz.prog 146 #[.int .i64 n, .int .i64 0, .int .i64 fc] w fun e w' => e = .returned (.bool (decide (0 ≤ n) && decide (n ≤ fc))) ∧ w = w') := Lib.hid fun w => Rw.specIs _ _ _ okn (by unfold Rw.OkI; omega) okc _
  have HFO2 := Lib.hid okc
  unfold OkI at okn
  unfold Rw.OkI at okc
  clear HFO
  go_enter Tryz.func150, Tryz.ntmps150
  go_wp2_with fail
  refine (CG.out _ (HA.out _ _ _ _)).mono ?_
  rintro e w1 ⟨rfl, hb1⟩
  have HB1 := Lib.hid ((HA.out _ _ _ _).trans (hb1.mono (HA.out _ _ _ _).size))
  have FB1 := Lib.hid (FB0.out.below FB0.out.lt hb1)
  clear hb1
  have hz1 := FB1.out.lt
  have ⟨k0, _⟩ := Rw.keep1 FB1.out.sch
  have ⟨⟨e0, e1⟩, _⟩ := Rw.keep2 FB1.out.doc
  have ⟨⟨c0, c1, c2, c3, c4⟩, _⟩ := Rw.keep5 FB1.out.sel
  have ⟨⟨o0, o1⟩, g0, g1⟩ := Rw.keep2 FB1.out.out
  have HA1 : Hid (∀ o, Below w.heap.size w (w1.alloc o)) := Lib.hid fun o => HB1.out.alloc HB1.out.size o
  have FA1 : Hid (∀ o, FieldB (w1.alloc o) w.heap.size (.slice sa s.length sca) (.slice da d.sels.len dca) (.slice db d.frags.length dcb) k key nm n (.slice ua u.len ucap)) := Lib.hid fun o => FB1.out.below (C := w1.heap.size) hz1 ((Below.refl _ _).alloc (Nat.le_refl _) o)
  have ⟨ka0, _⟩ := Rw.keep1 (FA1.out (.cells #[.string fn, .string ft, .bool fl, .bool fm, .int .i64 fs, .int .i64 fc] 50)).sch
  go_wp2_with fail
  refine (CT.out _ (HA1.out _)).mono ?_
  rintro e w2 ⟨⟨ta, tca, tc, tcc, rfl, _⟩, hb2⟩
  have HB2 := Lib.hid ((HA1.out _).trans (hb2.mono (HA1.out _).size))
  have FB2 := Lib.hid ((FA1.out _).below (FA1.out _).lt hb2)
  have hff := (hb2.block w1.heap.size (by simp)).trans (heap_alloc_new w1 _)
  have ⟨⟨x0, x1, x2, x3, x4, x5⟩, _⟩ := Rw.keep6 hff
  have hz2 : w1.heap.size < w2.heap.size := Rw.lt_of_get hff
  have HX := Lib.hid hff
  clear hb2 hff ka0 k0 e0 e1 c0 c1 c2 c3 c4 o0 o1 g0 g1
  have ⟨k0, _⟩ := Rw.keep1 FB2.out.sch
  have ⟨⟨e0, e1⟩, _⟩ := Rw.keep2 FB2.out.doc
  have ⟨⟨c0, c1, c2, c3, c4⟩, _⟩ := Rw.keep5 FB2.out.sel
  have ⟨⟨o0, o1⟩, g0, g1⟩ := Rw.keep2 FB2.out.out
  obtain ⟨lf, hlf⟩ : ∃ p, (tk == 1) = p := ⟨_, rfl⟩
  rw [hlf] at HFS HFY
  by_cases hfn : fn = ⟨#[]⟩
  · have hfw := Lib.hid (HFW.out hfn)
    subst hfn
    go_wp2_with fail
    change bodyPost _ _ _ _ _ (Rw.putL w2 (w.heap.size + 1 + 1 + 1) 0 [.string nm, .int .i64 6])
    obtain ⟨hr, _, _⟩ := Rw.putL_cells (g := w.heap.size + 1 + 1 + 1) (o := 0) (l := [.string nm, .int .i64 6]) FB2.out.out (by simp)
    have HBF := Rw.putL_below (g := w.heap.size + 1 + 1 + 1) (B := w.heap.size) (by omega) [.string nm, .int .i64 6] 0 HB2.out
    generalize Rw.putL w2 (w.heap.size + 1 + 1 + 1) 0 [.string nm, .int .i64 6] = wz at *
    have ⟨z0, z1⟩ : wz.cell? ⟨w.heap.size + 1 + 1 + 1, 0, none⟩ = some (.string nm) ∧ wz.cell? ⟨w.heap.size + 1 + 1 + 1, 1, none⟩ = some (.int .i64 6) := ⟨hr 0 _ rfl, hr 1 _ rfl⟩
    exact bodyPost_ret (v := .agg #[.string nm, .int .i64 6]) (by simp [results, Tryz.results150, go_sem, z0, z1]) rfl ⟨⟨some (nm, 6), Lib.hid (by rw [hfw.out]; rfl), rfl⟩, HBF⟩
  · have hne := emptyNo hfn
    have HFN := Lib.hid hfn
    clear hfn
    obtain ⟨p, hp⟩ : ∃ p, (decide (0 ≤ n) && decide (n ≤ fc)) = p := ⟨_, rfl⟩
    have HP := Lib.hid hp
    rw [hp] at C1
    clear hp
    have bad : firstBad ⟨fn, ft, fl, fm, fs, fc⟩ n = true → fw = some (key, 8) := fun h => HFR.out HFN.out h
    have HBAD := Lib.hid bad
    clear bad
    have hfb : firstBad ⟨fn, ft, fl, fm, fs, fc⟩ n = ((decide (0 < fc) && !p) || (fc == 0 && !(n == -1))) := by unfold firstBad; simp only [HP.out]
    have HFB := Lib.hid hfb
    clear hfb
    have next : Hid (∀ h : firstBad ⟨fn, ft, fl, fm, fs, fc⟩ n = false, ((lf = decide (0 < u.len) → fw = some (key, 10)) ∧ (¬ lf = decide (0 < u.len) → fw = none))) := Lib.hid fun h => ⟨fun h3 => HFS.out HFN.out h h3, fun h3 => HFY.out HFN.out h h3⟩
    by_cases hc0 : 0 < fc
    · cases p
      · have hfw := Lib.hid (HBAD.out (by rw [HFB.out]; simp [hc0]))
        go_wp2_with (go_at_call 146; with_reducible refine (C1.out _).mono ?_; rintro e w9 ⟨rfl, rfl⟩)
        change bodyPost _ _ _ _ _ (Rw.putL w2 (w.heap.size + 1 + 1 + 1) 0 [.string key, .int .i64 8])
        obtain ⟨hr, _, _⟩ := Rw.putL_cells (g := w.heap.size + 1 + 1 + 1) (o := 0) (l := [.string key, .int .i64 8]) FB2.out.out (by simp)
        have HBF := Rw.putL_below (g := w.heap.size + 1 + 1 + 1) (B := w.heap.size) (by omega) [.string key, .int .i64 8] 0 HB2.out
        generalize Rw.putL w2 (w.heap.size + 1 + 1 + 1) 0 [.string key, .int .i64 8] = wz at *
        have ⟨z0, z1⟩ : wz.cell? ⟨w.heap.size + 1 + 1 + 1, 0, none⟩ = some (.string key) ∧ wz.cell? ⟨w.heap.size + 1 + 1 + 1, 1, none⟩ = some (.int .i64 8) := ⟨hr 0 _ rfl, hr 1 _ rfl⟩
        exact bodyPost_ret (v := .agg #[.string key, .int .i64 8]) (by simp [results, Tryz.results150, go_sem, z0, z1]) rfl ⟨⟨some (key, 8), Lib.hid (by rw [hfw.out]; rfl), rfl⟩, HBF⟩
      · have hcz : ¬ fc = 0 := by omega
        have HN := Lib.hid (next.out (by rw [HFB.out]; simp; omega))
        by_cases hu : 0 < u.len
        · have hu2 : (0 : Int) < (u.len : Int) := by omega
          have hu3 : decide (0 < u.len) = true := by simp; omega
          cases lf
          · have hfw := Lib.hid (HN.out.2 (by rw [hu3]; simp))
            clear hu3 HN
            go_wp2_with (go_at_call 146; with_reducible refine (C1.out _).mono ?_; rintro e w9 ⟨rfl, rfl⟩)
            refine (CS.out _ HB2.out).mono ?_
            rintro e w3 ⟨rfl, hb3⟩
            have HB3 := Lib.hid (HB2.out.trans (hb3.mono HB2.out.size))
            have FB3 := Lib.hid (FB2.out.below FB2.out.lt hb3)
            clear hb3 k0 e0 e1 c0 c1 c2 c3 c4 o0 o1 g0 g1
            have ⟨k0, _⟩ := Rw.keep1 FB3.out.sch
            have ⟨⟨e0, e1⟩, _⟩ := Rw.keep2 FB3.out.doc
            have ⟨⟨c0, c1, c2, c3, c4⟩, _⟩ := Rw.keep5 FB3.out.sel
            have ⟨⟨o0, o1⟩, g0, g1⟩ := Rw.keep2 FB3.out.out
            go_wp2_with fail
            change bodyPost _ _ _ _ _ (Rw.putL w3 (w.heap.size + 1 + 1 + 1) 0 [.string (whatW sw), .int .i64 (codeW sw)])
            obtain ⟨hr, _, _⟩ := Rw.putL_cells (g := w.heap.size + 1 + 1 + 1) (o := 0) (l := [.string (whatW sw), .int .i64 (codeW sw)]) FB3.out.out (by simp)
            have HBF := Rw.putL_below (g := w.heap.size + 1 + 1 + 1) (B := w.heap.size) (by omega) [.string (whatW sw), .int .i64 (codeW sw)] 0 HB3.out
            generalize Rw.putL w3 (w.heap.size + 1 + 1 + 1) 0 [.string (whatW sw), .int .i64 (codeW sw)] = wz at *
            have ⟨z0, z1⟩ : wz.cell? ⟨w.heap.size + 1 + 1 + 1, 0, none⟩ = some (.string (whatW sw)) ∧ wz.cell? ⟨w.heap.size + 1 + 1 + 1, 1, none⟩ = some (.int .i64 (codeW sw)) := ⟨hr 0 _ rfl, hr 1 _ rfl⟩
            exact bodyPost_ret (v := .agg #[.string (whatW sw), .int .i64 (codeW sw)]) (by simp [results, Tryz.results150, go_sem, z0, z1]) rfl ⟨⟨sw, Lib.hid (by rw [hfw.out]; rfl), rfl⟩, HBF⟩
          · have hfw := Lib.hid (HN.out.1 (by rw [hu3]))
            clear hu3 HN
            go_wp2_with (go_at_call 146; with_reducible refine (C1.out _).mono ?_; rintro e w9 ⟨rfl, rfl⟩)
            change bodyPost _ _ _ _ _ (Rw.putL w2 (w.heap.size + 1 + 1 + 1) 0 [.string key, .int .i64 10])
            obtain ⟨hr, _, _⟩ := Rw.putL_cells (g := w.heap.size + 1 + 1 + 1) (o := 0) (l := [.string key, .int .i64 10]) FB2.out.out (by simp)
            have HBF := Rw.putL_below (g := w.heap.size + 1 + 1 + 1) (B := w.heap.size) (by omega) [.string key, .int .i64 10] 0 HB2.out
            generalize Rw.putL w2 (w.heap.size + 1 + 1 + 1) 0 [.string key, .int .i64 10] = wz at *
            have ⟨z0, z1⟩ : wz.cell? ⟨w.heap.size + 1 + 1 + 1, 0, none⟩ = some (.string key) ∧ wz.cell? ⟨w.heap.size + 1 + 1 + 1, 1, none⟩ = some (.int .i64 10) := ⟨hr 0 _ rfl, hr 1 _ rfl⟩
            exact bodyPost_ret (v := .agg #[.string key, .int .i64 10]) (by simp [results, Tryz.results150, go_sem, z0, z1]) rfl ⟨⟨some (key, 10), Lib.hid (by rw [hfw.out]; rfl), rfl⟩, HBF⟩
        · have hu2 : (u.len : Int) ≤ 0 := by omega
          have hu3 : decide (0 < u.len) = false := by simp; omega
          cases lf
          · have hfw := Lib.hid (HN.out.1 (by rw [hu3]))
            clear hu3 HN
            go_wp2_with (go_at_call 146; with_reducible refine (C1.out _).mono ?_; rintro e w9 ⟨rfl, rfl⟩)
            change bodyPost _ _ _ _ _ (Rw.putL w2 (w.heap.size + 1 + 1 + 1) 0 [.string key, .int .i64 10])
            obtain ⟨hr, _, _⟩ := Rw.putL_cells (g := w.heap.size + 1 + 1 + 1) (o := 0) (l := [.string key, .int .i64 10]) FB2.out.out (by simp)
            have HBF := Rw.putL_below (g := w.heap.size + 1 + 1 + 1) (B := w.heap.size) (by omega) [.string key, .int .i64 10] 0 HB2.out
            generalize Rw.putL w2 (w.heap.size + 1 + 1 + 1) 0 [.string key, .int .i64 10] = wz at *
            have ⟨z0, z1⟩ : wz.cell? ⟨w.heap.size + 1 + 1 + 1, 0, none⟩ = some (.string key) ∧ wz.cell? ⟨w.heap.size + 1 + 1 + 1, 1, none⟩ = some (.int .i64 10) := ⟨hr 0 _ rfl, hr 1 _ rfl⟩
            exact bodyPost_ret (v := .agg #[.string key, .int .i64 10]) (by simp [results, Tryz.results150, go_sem, z0, z1]) rfl ⟨⟨some (key, 10), Lib.hid (by rw [hfw.out]; rfl), rfl⟩, HBF⟩
          · have hfw := Lib.hid (HN.out.2 (by rw [hu3]; simp))
            clear hu3 HN
            go_wp2_with (go_at_call 146; with_reducible refine (C1.out _).mono ?_; rintro e w9 ⟨rfl, rfl⟩)
            refine (CS.out _ HB2.out).mono ?_
            rintro e w3 ⟨rfl, hb3⟩
            have HB3 := Lib.hid (HB2.out.trans (hb3.mono HB2.out.size))
            have FB3 := Lib.hid (FB2.out.below FB2.out.lt hb3)
            clear hb3 k0 e0 e1 c0 c1 c2 c3 c4 o0 o1 g0 g1
            have ⟨k0, _⟩ := Rw.keep1 FB3.out.sch
            have ⟨⟨e0, e1⟩, _⟩ := Rw.keep2 FB3.out.doc
            have ⟨⟨c0, c1, c2, c3, c4⟩, _⟩ := Rw.keep5 FB3.out.sel
            have ⟨⟨o0, o1⟩, g0, g1⟩ := Rw.keep2 FB3.out.out
            go_wp2_with fail
            change bodyPost _ _ _ _ _ (Rw.putL w3 (w.heap.size + 1 + 1 + 1) 0 [.string (whatW sw), .int .i64 (codeW sw)])
            obtain ⟨hr, _, _⟩ := Rw.putL_cells (g := w.heap.size + 1 + 1 + 1) (o := 0) (l := [.string (whatW sw), .int .i64 (codeW sw)]) FB3.out.out (by simp)
            have HBF := Rw.putL_below (g := w.heap.size + 1 + 1 + 1) (B := w.heap.size) (by omega) [.string (whatW sw), .int .i64 (codeW sw)] 0 HB3.out
            generalize Rw.putL w3 (w.heap.size + 1 + 1 + 1) 0 [.string (whatW sw), .int .i64 (codeW sw)] = wz at *
            have ⟨z0, z1⟩ : wz.cell? ⟨w.heap.size + 1 + 1 + 1, 0, none⟩ = some (.string (whatW sw)) ∧ wz.cell? ⟨w.heap.size + 1 + 1 + 1, 1, none⟩ = some (.int .i64 (codeW sw)) := ⟨hr 0 _ rfl, hr 1 _ rfl⟩
            exact bodyPost_ret (v := .agg #[.string (whatW sw), .int .i64 (codeW sw)]) (by simp [results, Tryz.results150, go_sem, z0, z1]) rfl ⟨⟨sw, Lib.hid (by rw [hfw.out]; rfl), rfl⟩, HBF⟩
    · by_cases hcz : fc = 0
      · subst hcz
        by_cases hn1 : n = -1
        · have HN := Lib.hid (next.out (by rw [HFB.out]; simp [hn1]))
          by_cases hu : 0 < u.len
          · have hu2 : (0 : Int) < (u.len : Int) := by omega
            have hu3 : decide (0 < u.len) = true := by simp; omega
            cases lf
            · have hfw := Lib.hid (HN.out.2 (by rw [hu3]; simp))
              clear hu3 HN
              go_wp2_with fail
              refine (CS.out _ HB2.out).mono ?_
              rintro e w3 ⟨rfl, hb3⟩
              have HB3 := Lib.hid (HB2.out.trans (hb3.mono HB2.out.size))
              have FB3 := Lib.hid (FB2.out.below FB2.out.lt hb3)
              clear hb3 k0 e0 e1 c0 c1 c2 c3 c4 o0 o1 g0 g1
              have ⟨k0, _⟩ := Rw.keep1 FB3.out.sch
              have ⟨⟨e0, e1⟩, _⟩ := Rw.keep2 FB3.out.doc
              have ⟨⟨c0, c1, c2, c3, c4⟩, _⟩ := Rw.keep5 FB3.out.sel
              have ⟨⟨o0, o1⟩, g0, g1⟩ := Rw.keep2 FB3.out.out
              go_wp2_with fail
              change bodyPost _ _ _ _ _ (Rw.putL w3 (w.heap.size + 1 + 1 + 1) 0 [.string (whatW sw), .int .i64 (codeW sw)])
              obtain ⟨hr, _, _⟩ := Rw.putL_cells (g := w.heap.size + 1 + 1 + 1) (o := 0) (l := [.string (whatW sw), .int .i64 (codeW sw)]) FB3.out.out (by simp)
              have HBF := Rw.putL_below (g := w.heap.size + 1 + 1 + 1) (B := w.heap.size) (by omega) [.string (whatW sw), .int .i64 (codeW sw)] 0 HB3.out
              generalize Rw.putL w3 (w.heap.size + 1 + 1 + 1) 0 [.string (whatW sw), .int .i64 (codeW sw)] = wz at *
              have ⟨z0, z1⟩ : wz.cell? ⟨w.heap.size + 1 + 1 + 1, 0, none⟩ = some (.string (whatW sw)) ∧ wz.cell? ⟨w.heap.size + 1 + 1 + 1, 1, none⟩ = some (.int .i64 (codeW sw)) := ⟨hr 0 _ rfl, hr 1 _ rfl⟩
              exact bodyPost_ret (v := .agg #[.string (whatW sw), .int .i64 (codeW sw)]) (by simp [results, Tryz.results150, go_sem, z0, z1]) rfl ⟨⟨sw, Lib.hid (by rw [hfw.out]; rfl), rfl⟩, HBF⟩
            · have hfw := Lib.hid (HN.out.1 (by rw [hu3]))
              clear hu3 HN
              go_wp2_with fail
              change bodyPost _ _ _ _ _ (Rw.putL w2 (w.heap.size + 1 + 1 + 1) 0 [.string key, .int .i64 10])
              obtain ⟨hr, _, _⟩ := Rw.putL_cells (g := w.heap.size + 1 + 1 + 1) (o := 0) (l := [.string key, .int .i64 10]) FB2.out.out (by simp)
              have HBF := Rw.putL_below (g := w.heap.size + 1 + 1 + 1) (B := w.heap.size) (by omega) [.string key, .int .i64 10] 0 HB2.out
              generalize Rw.putL w2 (w.heap.size + 1 + 1 + 1) 0 [.string key, .int .i64 10] = wz at *
              have ⟨z0, z1⟩ : wz.cell? ⟨w.heap.size + 1 + 1 + 1, 0, none⟩ = some (.string key) ∧ wz.cell? ⟨w.heap.size + 1 + 1 + 1, 1, none⟩ = some (.int .i64 10) := ⟨hr 0 _ rfl, hr 1 _ rfl⟩
              exact bodyPost_ret (v := .agg #[.string key, .int .i64 10]) (by simp [results, Tryz.results150, go_sem, z0, z1]) rfl ⟨⟨some (key, 10), Lib.hid (by rw [hfw.out]; rfl), rfl⟩, HBF⟩
          · have hu2 : (u.len : Int) ≤ 0 := by omega
            have hu3 : decide (0 < u.len) = false := by simp; omega
            cases lf
            · have hfw := Lib.hid (HN.out.1 (by rw [hu3]))
              clear hu3 HN
              go_wp2_with fail
              change bodyPost _ _ _ _ _ (Rw.putL w2 (w.heap.size + 1 + 1 + 1) 0 [.string key, .int .i64 10])
              obtain ⟨hr, _, _⟩ := Rw.putL_cells (g := w.heap.size + 1 + 1 + 1) (o := 0) (l := [.string key, .int .i64 10]) FB2.out.out (by simp)
              have HBF := Rw.putL_below (g := w.heap.size + 1 + 1 + 1) (B := w.heap.size) (by omega) [.string key, .int .i64 10] 0 HB2.out
              generalize Rw.putL w2 (w.heap.size + 1 + 1 + 1) 0 [.string key, .int .i64 10] = wz at *
              have ⟨z0, z1⟩ : wz.cell? ⟨w.heap.size + 1 + 1 + 1, 0, none⟩ = some (.string key) ∧ wz.cell? ⟨w.heap.size + 1 + 1 + 1, 1, none⟩ = some (.int .i64 10) := ⟨hr 0 _ rfl, hr 1 _ rfl⟩
              exact bodyPost_ret (v := .agg #[.string key, .int .i64 10]) (by simp [results, Tryz.results150, go_sem, z0, z1]) rfl ⟨⟨some (key, 10), Lib.hid (by rw [hfw.out]; rfl), rfl⟩, HBF⟩
            · have hfw := Lib.hid (HN.out.2 (by rw [hu3]; simp))
              clear hu3 HN
              go_wp2_with fail
              refine (CS.out _ HB2.out).mono ?_
              rintro e w3 ⟨rfl, hb3⟩
              have HB3 := Lib.hid (HB2.out.trans (hb3.mono HB2.out.size))
              have FB3 := Lib.hid (FB2.out.below FB2.out.lt hb3)
              clear hb3 k0 e0 e1 c0 c1 c2 c3 c4 o0 o1 g0 g1
              have ⟨k0, _⟩ := Rw.keep1 FB3.out.sch
              have ⟨⟨e0, e1⟩, _⟩ := Rw.keep2 FB3.out.doc
              have ⟨⟨c0, c1, c2, c3, c4⟩, _⟩ := Rw.keep5 FB3.out.sel
              have ⟨⟨o0, o1⟩, g0, g1⟩ := Rw.keep2 FB3.out.out
              go_wp2_with fail
              change bodyPost _ _ _ _ _ (Rw.putL w3 (w.heap.size + 1 + 1 + 1) 0 [.string (whatW sw), .int .i64 (codeW sw)])
              obtain ⟨hr, _, _⟩ := Rw.putL_cells (g := w.heap.size + 1 + 1 + 1) (o := 0) (l := [.string (whatW sw), .int .i64 (codeW sw)]) FB3.out.out (by simp)
              have HBF := Rw.putL_below (g := w.heap.size + 1 + 1 + 1) (B := w.heap.size) (by omega) [.string (whatW sw), .int .i64 (codeW sw)] 0 HB3.out
              generalize Rw.putL w3 (w.heap.size + 1 + 1 + 1) 0 [.string (whatW sw), .int .i64 (codeW sw)] = wz at *
              have ⟨z0, z1⟩ : wz.cell? ⟨w.heap.size + 1 + 1 + 1, 0, none⟩ = some (.string (whatW sw)) ∧ wz.cell? ⟨w.heap.size + 1 + 1 + 1, 1, none⟩ = some (.int .i64 (codeW sw)) := ⟨hr 0 _ rfl, hr 1 _ rfl⟩
              exact bodyPost_ret (v := .agg #[.string (whatW sw), .int .i64 (codeW sw)]) (by simp [results, Tryz.results150, go_sem, z0, z1]) rfl ⟨⟨sw, Lib.hid (by rw [hfw.out]; rfl), rfl⟩, HBF⟩
        · have hfw := Lib.hid (HBAD.out (by rw [HFB.out]; simp [hn1]))
          go_wp2_with fail
          change bodyPost _ _ _ _ _ (Rw.putL w2 (w.heap.size + 1 + 1 + 1) 0 [.string key, .int .i64 8])
          obtain ⟨hr, _, _⟩ := Rw.putL_cells (g := w.heap.size + 1 + 1 + 1) (o := 0) (l := [.string key, .int .i64 8]) FB2.out.out (by simp)
          have HBF := Rw.putL_below (g := w.heap.size + 1 + 1 + 1) (B := w.heap.size) (by omega) [.string key, .int .i64 8] 0 HB2.out
          generalize Rw.putL w2 (w.heap.size + 1 + 1 + 1) 0 [.string key, .int .i64 8] = wz at *
          have ⟨z0, z1⟩ : wz.cell? ⟨w.heap.size + 1 + 1 + 1, 0, none⟩ = some (.string key) ∧ wz.cell? ⟨w.heap.size + 1 + 1 + 1, 1, none⟩ = some (.int .i64 8) := ⟨hr 0 _ rfl, hr 1 _ rfl⟩
          exact bodyPost_ret (v := .agg #[.string key, .int .i64 8]) (by simp [results, Tryz.results150, go_sem, z0, z1]) rfl ⟨⟨some (key, 8), Lib.hid (by rw [hfw.out]; rfl), rfl⟩, HBF⟩
      · have HN := Lib.hid (next.out (by rw [HFB.out]; simp [hc0, hcz]))
        by_cases hu : 0 < u.len
        · have hu2 : (0 : Int) < (u.len : Int) := by omega
          have hu3 : decide (0 < u.len) = true := by simp; omega
          cases lf
          · have hfw := Lib.hid (HN.out.2 (by rw [hu3]; simp))
            clear hu3 HN
            go_wp2_with fail
            refine (CS.out _ HB2.out).mono ?_
            rintro e w3 ⟨rfl, hb3⟩
            have HB3 := Lib.hid (HB2.out.trans (hb3.mono HB2.out.size))
            have FB3 := Lib.hid (FB2.out.below FB2.out.lt hb3)
            clear hb3 k0 e0 e1 c0 c1 c2 c3 c4 o0 o1 g0 g1
            have ⟨k0, _⟩ := Rw.keep1 FB3.out.sch
            have ⟨⟨e0, e1⟩, _⟩ := Rw.keep2 FB3.out.doc
            have ⟨⟨c0, c1, c2, c3, c4⟩, _⟩ := Rw.keep5 FB3.out.sel
            have ⟨⟨o0, o1⟩, g0, g1⟩ := Rw.keep2 FB3.out.out
            go_wp2_with fail
            change bodyPost _ _ _ _ _ (Rw.putL w3 (w.heap.size + 1 + 1 + 1) 0 [.string (whatW sw), .int .i64 (codeW sw)])
            obtain ⟨hr, _, _⟩ := Rw.putL_cells (g := w.heap.size + 1 + 1 + 1) (o := 0) (l := [.string (whatW sw), .int .i64 (codeW sw)]) FB3.out.out (by simp)
            have HBF := Rw.putL_below (g := w.heap.size + 1 + 1 + 1) (B := w.heap.size) (by omega) [.string (whatW sw), .int .i64 (codeW sw)] 0 HB3.out
            generalize Rw.putL w3 (w.heap.size + 1 + 1 + 1) 0 [.string (whatW sw), .int .i64 (codeW sw)] = wz at *
            have ⟨z0, z1⟩ : wz.cell? ⟨w.heap.size + 1 + 1 + 1, 0, none⟩ = some (.string (whatW sw)) ∧ wz.cell? ⟨w.heap.size + 1 + 1 + 1, 1, none⟩ = some (.int .i64 (codeW sw)) := ⟨hr 0 _ rfl, hr 1 _ rfl⟩
            exact bodyPost_ret (v := .agg #[.string (whatW sw), .int .i64 (codeW sw)]) (by simp [results, Tryz.results150, go_sem, z0, z1]) rfl ⟨⟨sw, Lib.hid (by rw [hfw.out]; rfl), rfl⟩, HBF⟩
          · have hfw := Lib.hid (HN.out.1 (by rw [hu3]))
            clear hu3 HN
            go_wp2_with fail
            change bodyPost _ _ _ _ _ (Rw.putL w2 (w.heap.size + 1 + 1 + 1) 0 [.string key, .int .i64 10])
            obtain ⟨hr, _, _⟩ := Rw.putL_cells (g := w.heap.size + 1 + 1 + 1) (o := 0) (l := [.string key, .int .i64 10]) FB2.out.out (by simp)
            have HBF := Rw.putL_below (g := w.heap.size + 1 + 1 + 1) (B := w.heap.size) (by omega) [.string key, .int .i64 10] 0 HB2.out
            generalize Rw.putL w2 (w.heap.size + 1 + 1 + 1) 0 [.string key, .int .i64 10] = wz at *
            have ⟨z0, z1⟩ : wz.cell? ⟨w.heap.size + 1 + 1 + 1, 0, none⟩ = some (.string key) ∧ wz.cell? ⟨w.heap.size + 1 + 1 + 1, 1, none⟩ = some (.int .i64 10) := ⟨hr 0 _ rfl, hr 1 _ rfl⟩
            exact bodyPost_ret (v := .agg #[.string key, .int .i64 10]) (by simp [results, Tryz.results150, go_sem, z0, z1]) rfl ⟨⟨some (key, 10), Lib.hid (by rw [hfw.out]; rfl), rfl⟩, HBF⟩
        · have hu2 : (u.len : Int) ≤ 0 := by omega
          have hu3 : decide (0 < u.len) = false := by simp; omega
          cases lf
          · have hfw := Lib.hid (HN.out.1 (by rw [hu3]))
            clear hu3 HN
            go_wp2_with fail
            change bodyPost _ _ _ _ _ (Rw.putL w2 (w.heap.size + 1 + 1 + 1) 0 [.string key, .int .i64 10])
            obtain ⟨hr, _, _⟩ := Rw.putL_cells (g := w.heap.size + 1 + 1 + 1) (o := 0) (l := [.string key, .int .i64 10]) FB2.out.out (by simp)
            have HBF := Rw.putL_below (g := w.heap.size + 1 + 1 + 1) (B := w.heap.size) (by omega) [.string key, .int .i64 10] 0 HB2.out
            generalize Rw.putL w2 (w.heap.size + 1 + 1 + 1) 0 [.string key, .int .i64 10] = wz at *
            have ⟨z0, z1⟩ : wz.cell? ⟨w.heap.size + 1 + 1 + 1, 0, none⟩ = some (.string key) ∧ wz.cell? ⟨w.heap.size + 1 + 1 + 1, 1, none⟩ = some (.int .i64 10) := ⟨hr 0 _ rfl, hr 1 _ rfl⟩
            exact bodyPost_ret (v := .agg #[.string key, .int .i64 10]) (by simp [results, Tryz.results150, go_sem, z0, z1]) rfl ⟨⟨some (key, 10), Lib.hid (by rw [hfw.out]; rfl), rfl⟩, HBF⟩
          · have hfw := Lib.hid (HN.out.2 (by rw [hu3]; simp))
            clear hu3 HN
            go_wp2_with fail
            refine (CS.out _ HB2.out).mono ?_
            rintro e w3 ⟨rfl, hb3⟩
            have HB3 := Lib.hid (HB2.out.trans (hb3.mono HB2.out.size))
            have FB3 := Lib.hid (FB2.out.below FB2.out.lt hb3)
            clear hb3 k0 e0 e1 c0 c1 c2 c3 c4 o0 o1 g0 g1
            have ⟨k0, _⟩ := Rw.keep1 FB3.out.sch
            have ⟨⟨e0, e1⟩, _⟩ := Rw.keep2 FB3.out.doc
            have ⟨⟨c0, c1, c2, c3, c4⟩, _⟩ := Rw.keep5 FB3.out.sel
            have ⟨⟨o0, o1⟩, g0, g1⟩ := Rw.keep2 FB3.out.out
            go_wp2_with fail
            change bodyPost _ _ _ _ _ (Rw.putL w3 (w.heap.size + 1 + 1 + 1) 0 [.string (whatW sw), .int .i64 (codeW sw)])
            obtain ⟨hr, _, _⟩ := Rw.putL_cells (g := w.heap.size + 1 + 1 + 1) (o := 0) (l := [.string (whatW sw), .int .i64 (codeW sw)]) FB3.out.out (by simp)
            have HBF := Rw.putL_below (g := w.heap.size + 1 + 1 + 1) (B := w.heap.size) (by omega) [.string (whatW sw), .int .i64 (codeW sw)] 0 HB3.out
            generalize Rw.putL w3 (w.heap.size + 1 + 1 + 1) 0 [.string (whatW sw), .int .i64 (codeW sw)] = wz at *
            have ⟨z0, z1⟩ : wz.cell? ⟨w.heap.size + 1 + 1 + 1, 0, none⟩ = some (.string (whatW sw)) ∧ wz.cell? ⟨w.heap.size + 1 + 1 + 1, 1, none⟩ = some (.int .i64 (codeW sw)) := ⟨hr 0 _ rfl, hr 1 _ rfl⟩
            exact bodyPost_ret (v := .agg #[.string (whatW sw), .int .i64 (codeW sw)]) (by simp [results, Tryz.results150, go_sem, z0, z1]) rfl ⟨⟨sw, Lib.hid (by rw [hfw.out]; rfl), rfl⟩, HBF⟩
end Go.Proofs.YtceabbbmgfeofaaGreatDoor.Selss
