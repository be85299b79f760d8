/-
  Contracts: impl.fieldSel, impl.selOf tell what a word begins; of what was there nothing is changed. Conditions: a word of at most 8000 bytes; the library's variables hold what the program lays.
-/
import Derived.Test.YtnkknfnndoegpaaGreatDoorRows
import Derived.Test.YtnkknfnndoegpaaGreatDoorRdMath
import Derived.Test.YtnkknfnndoegpaaGreatDoorFieldWord
import Derived.Test.YtnkknfnndoegpaaGreatDoorVars
import Derived.Lib.AtoiErrMem
namespace Go.Proofs.YtnkknfnndoegpaaGreatDoor.Selss
open Go.RowKit Words Decs Splits
set_option linter.unusedVariables false
set_option maxRecDepth 100000

theorem below_drewN (w : World) (n : Nat) : Below w.heap.size w (w.drewN n) := ⟨rfl, rfl, rfl, Nat.le_refl _, fun _ _ => rfl⟩
theorem cutC (s sep : ByteArray) (w : World) (B : Nat) (hv : Vars B w) (hs : s.size ≤ 8000) :
    Calls Tryz.prog 87 #[.string s, .string sep] w fun e w' => e = .returned (.tuple #[.string (ub (Lib.cut (bl s) (bl sep)).1), .string (ub (Lib.cut (bl s) (bl sep)).2.1), .bool (Lib.cut (bl s) (bl sep)).2.2]) ∧ Below w.heap.size w w' := by
  obtain ⟨m, hm⟩ := hv.here.max
  refine (Tryz.strings_Cut s sep m w (by omega) hm).mono ?_
  rintro e w' ⟨rfl, n, rfl⟩
  exact ⟨rfl, below_drewN w n⟩
theorem pintC (s : ByteArray) (w : World) (B : Nat) (hv : Vars B w) (hs : s.size ≤ 8000) :
    Calls Tryz.prog 88 #[.string s, .int .i64 10, .int .i64 64] w fun e w' => (∃ x, e = .returned (.tuple #[.int .i64 (pint (bl s)), x])) ∧ Below w.heap.size w w' := by
  unfold pint
  rcases h : Lib.parseIntB 64 (bl s) with v | _ | _
  · refine (Tryz.strconv_ParseInt_10_at64_ok s (by omega) v h w).mono ?_
    rintro e w' ⟨rfl, rfl | ⟨t, rfl⟩⟩
    · exact ⟨⟨_, rfl⟩, Below.refl _ _⟩
    · exact ⟨⟨_, rfl⟩, Lib.bytesWorld_below _ _ _⟩
  · obtain ⟨t, x, hx⟩ := hv.here.syn
    refine (Tryz.strconv_ParseInt_10_at64_syntax s (by omega) h _ w hx (.inr ⟨t, x, rfl⟩)).mono ?_
    rintro e w' ⟨N, rfl, _, _, hb⟩
    exact ⟨⟨_, rfl⟩, hb⟩
  · obtain ⟨t, x, hx⟩ := hv.here.rng
    refine (Tryz.strconv_ParseInt_10_at64_range s (by omega) h _ w hx (.inr ⟨t, x, rfl⟩)).mono ?_
    rintro e w' ⟨N, rfl, _, _, hb⟩
    exact ⟨⟨_, rfl⟩, hb⟩
theorem trimC (s p : ByteArray) (w : World) (hs : s.size ≤ 8000) :
    Calls Tryz.prog 89 #[.string s, .string p] w fun e w' => e = .returned (.string (ub (Lib.trimSuffix (bl s) (bl p)))) ∧ w = w' := by
  refine (Tryz.strings_TrimSuffix s p w (by omega)).mono ?_
  rintro e w' ⟨rfl, rfl⟩
  exact ⟨rfl, rfl⟩
theorem ub_size' (t : Tok) : (ub t).size = t.length := by simp [ub, ByteArray.size]
theorem bl_len (s : ByteArray) : (bl s).length = s.size := by unfold bl; rw [Array.length_toList]; rfl

/-- What fieldSel answers. -/
noncomputable def fSel (t : Tok) : Int × ByteArray × ByteArray × Int := if bl (fieldT (ub (fCand t).1) (ub (fCand t).2.1) (fCand t).2.2) = t then (1, ub (fCand t).1, ub (fCand t).2.1, (fCand t).2.2) else (0, ByteArray.empty, ByteArray.empty, 0)
def selV (r : Int × ByteArray × ByteArray × Int) : Value := .agg #[.int .i64 r.1, .string r.2.1, .string r.2.2.1, .int .i64 r.2.2.2, .slice none 0 0]
theorem ret_v {a b : Value} (h : a = b) : Ending.returned a = .returned b := by rw [h]

set_option maxHeartbeats 4000000 in
theorem implFieldSel (t : ByteArray) (ht : t.size ≤ 8000) (w : World) (B : Nat) (hv : Vars B w) (hB : B ≤ w.heap.size) :
    Calls Tryz.prog 82 #[.string t] w fun e w' => e = .returned (selV (fSel (bl t))) ∧ Below w.heap.size w w' := by
  have CC : Hid (∀ (s sep : ByteArray) (w' : World), s.size ≤ 8000 → Below w.heap.size w w' → Calls Tryz.prog 87 #[.string s, .string sep] w' fun e w'' => e = .returned (.tuple #[.string (ub (Lib.cut (bl s) (bl sep)).1), .string (ub (Lib.cut (bl s) (bl sep)).2.1), .bool (Lib.cut (bl s) (bl sep)).2.2]) ∧ Below w'.heap.size w' w'') := Lib.hid fun s sep w' h1 h2 => cutC s sep w' B (hv.over hB h2) h1
  have CP : Hid (∀ (s : ByteArray) (w' : World), s.size ≤ 8000 → Below w.heap.size w w' → Calls Tryz.prog 88 #[.string s, .int .i64 10, .int .i64 64] w' fun e w'' => (∃ x, e = .returned (.tuple #[.int .i64 (pint (bl s)), x])) ∧ Below w'.heap.size w' w'') := Lib.hid fun s w' h1 h2 => pintC s w' B (hv.over hB h2) h1
  have CF : Hid (∀ (k : Int) (key nm : ByteArray) (f : Int) (w' : World), key.size ≤ 8000 → nm.size ≤ 8000 → OkI f → Below w.heap.size w w' → Calls Tryz.prog 90 #[.agg #[.int .i64 k, .string key, .string nm, .int .i64 f, .slice none 0 0]] w' fun e w'' => e = .returned (.string (fieldT key nm f)) ∧ Below w'.heap.size w' w'') := Lib.hid fun k key nm f w' h1 h2 h3 h4 => implFieldWord w' k key nm f none 0 0 (by omega) (by omega) h3 B (hv.over hB h4).pow (Nat.le_trans hB h4.size)
  have HA : Hid (∀ o, Below w.heap.size w (w.alloc o)) := Lib.hid fun o => (Below.refl _ _).alloc (Nat.le_refl _) o
  have hfc : Hid (fSel (bl t) = if bl (fieldT (ub (fCand (bl t)).1) (ub (fCand (bl t)).2.1) (fCand (bl t)).2.2) = bl t then (1, ub (fCand (bl t)).1, ub (fCand (bl t)).2.1, (fCand (bl t)).2.2) else (0, ByteArray.empty, ByteArray.empty, 0)) := Lib.hid rfl
  have hl1 := cut_len (bl t) [40]
  have hfd : fCand (bl t) = ((Lib.cut (Lib.cut (bl t) [40]).1 [58]).1, (if (Lib.cut (Lib.cut (bl t) [40]).1 [58]).2.2 then (Lib.cut (Lib.cut (bl t) [40]).1 [58]).2.1 else (Lib.cut (Lib.cut (bl t) [40]).1 [58]).1), if (Lib.cut (bl t) [40]).2.2 then pint (Lib.trimSuffix (Lib.cut (bl t) [40]).2.1 [41]) else -1) := rfl
  obtain ⟨c, hc⟩ : ∃ c, Lib.cut (bl t) [40] = c := ⟨_, rfl⟩
  have hc' : Lib.cut (bl t) (bl ⟨#[40]⟩) = c := hc
  rw [hc] at hl1 hfd
  have hl2 := cut_len c.1 [58]
  obtain ⟨d, hd⟩ : ∃ d, Lib.cut c.1 [58] = d := ⟨_, rfl⟩
  rw [hd] at hl2 hfd
  obtain ⟨c1, c2, cb⟩ := c
  obtain ⟨d1, d2, db⟩ := d
  have hd' : Lib.cut (bl (ub c1)) (bl ⟨#[58]⟩) = (d1, d2, db) := by rw [bl_ub]; exact hd
  dsimp only at hl1 hl2 hfd
  rw [bl_len] at hl1
  have sc1 : (ub c1).size ≤ 8000 := by rw [ub_size']; omega
  have sc2 : (ub c2).size ≤ 8000 := by rw [ub_size']; omega
  have sd1 : (ub d1).size ≤ 8000 := by rw [ub_size']; omega
  have sd2 : (ub d2).size ≤ 8000 := by rw [ub_size']; omega
  have hp0 : Hid (OkI (pint (Lib.trimSuffix c2 [41]))) := Lib.hid (pint_ok _)
  have htr : Hid (bl (ub (Lib.trimSuffix (bl (ub c2)) (bl ⟨#[41]⟩))) = Lib.trimSuffix c2 [41] ∧ (ub (Lib.trimSuffix (bl (ub c2)) (bl ⟨#[41]⟩))).size ≤ 8000) := Lib.hid (by
    have e1 : bl (ub c2) = c2 := bl_ub c2
    have e2 : bl (⟨#[41]⟩ : ByteArray) = [41] := rfl
    rw [e1, e2, bl_ub, ub_size']
    exact ⟨rfl, by have := trim_len c2 [41]; omega⟩)
  have C1 := Lib.hid (fun w' h => CC.out t ⟨#[40]⟩ w' ht h)
  have C2 := Lib.hid (fun w' h => CC.out (ub c1) ⟨#[58]⟩ w' sc1 h)
  rw [hc'] at C1
  rw [hd'] at C2
  rw [hfd] at hfc
  clear hv hB hc hc' hd hd' hfd CC hl1 hl2
  go_enter Tryz.func82, Tryz.ntmps82
  go_wp2_with fail
  have hb0 := HA.out (.cells #[.int .i64 0, .string ⟨#[]⟩, .string ⟨#[]⟩, .int .i64 0, .slice none 0 0] 50)
  have hk0 : (w.alloc (.cells #[.int .i64 0, .string ⟨#[]⟩, .string ⟨#[]⟩, .int .i64 0, .slice none 0 0] 50)).heap[w.heap.size]? = some (.cells #[.int .i64 0, .string ⟨#[]⟩, .string ⟨#[]⟩, .int .i64 0, .slice none 0 0] 50 (0, 0)) := heap_alloc_new w _
  refine (C1.out _ hb0).mono ?_
  rintro e w1 ⟨rfl, hb1⟩
  have hk1 := (hb1.block w.heap.size (by simp)).trans hk0
  have HB1 := Lib.hid (hb0.trans (hb1.mono hb0.size))
  have hz1 : w.heap.size < w1.heap.size := by have := hb1.size; simp at this; omega
  clear hb0 hb1 hk0
  go_wp2_with fail
  refine (C2.out _ HB1.out).mono ?_
  rintro e w2 ⟨rfl, hb2⟩
  have hk2 := Lib.hid ((hb2.block w.heap.size hz1).trans hk1)
  have HB2 := Lib.hid (HB1.out.trans (hb2.mono HB1.out.size))
  have hz2 : w.heap.size < w2.heap.size := Nat.lt_of_lt_of_le hz1 hb2.size
  clear hb2 hk1 hz1
  cases db
  · cases cb
    · have hfe : Hid (fSel (bl t) = if bl (fieldT (ub d1) (ub d1) (-1)) = bl t then (1, ub d1, ub d1, -1) else (0, ByteArray.empty, ByteArray.empty, 0)) := Lib.hid hfc.out
      have HB5 : Hid (Below w.heap.size w (w2.alloc (.cells #[.int .i64 1, .string (ub d1), .string (ub d1), .int .i64 (-1), .slice none 0 0] 50))) := Lib.hid (HB2.out.alloc HB2.out.size _)
      have hk5 : Hid ((w2.alloc (.cells #[.int .i64 1, .string (ub d1), .string (ub d1), .int .i64 (-1), .slice none 0 0] 50)).heap[w.heap.size]? = _) := Lib.hid ((Below.heap_alloc w2 _ w.heap.size hz2).trans hk2.out)
      have hg5 : Hid ((w2.alloc (.cells #[.int .i64 1, .string (ub d1), .string (ub d1), .int .i64 (-1), .slice none 0 0] 50)).heap[w2.heap.size]? = some (.cells #[.int .i64 1, .string (ub d1), .string (ub d1), .int .i64 (-1), .slice none 0 0] 50 (0, 0))) := Lib.hid (heap_alloc_new w2 _)
      have hl5 : Hid (w.heap.size < (w2.alloc (.cells #[.int .i64 1, .string (ub d1), .string (ub d1), .int .i64 (-1), .slice none 0 0] 50)).heap.size ∧ w2.heap.size < (w2.alloc (.cells #[.int .i64 1, .string (ub d1), .string (ub d1), .int .i64 (-1), .slice none 0 0] 50)).heap.size) := Lib.hid (by simp; omega)
      clear hfc
      go_wp2_with fail
      refine (CF.out 1 (ub d1) (ub d1) (-1) _ sd1 sd1 (by unfold OkI; omega) HB5.out).mono ?_
      rintro e w6 ⟨rfl, hb6⟩
      have hk6 := (hb6.block w.heap.size hl5.out.1).trans hk5.out
      have hg6 := (hb6.block w2.heap.size hl5.out.2).trans hg5.out
      have HB6 := Lib.hid (HB5.out.trans (hb6.mono HB5.out.size))
      have ⟨⟨e0, e1, e2, e3, e4⟩, p0, p1, p2, p3, p4⟩ := keep5 hk6
      have ⟨⟨x0, x1, x2, x3, x4⟩, y0, y1, y2, y3, y4⟩ := keep5 hg6
      clear hb6 hk5 hg5 hl5 HB5 CF CP C1 C2 HA
      by_cases hfw : fieldT (ub d1) (ub d1) (-1) = t
      · have hres : Hid (fSel (bl t) = (1, ub d1, ub d1, (-1))) := Lib.hid (by rw [hfe.out, if_pos (by rw [hfw])])
        have hsx : (fieldT (ub d1) (ub d1) (-1)).size ≤ 9223372036854775807 := by rw [hfw]; omega
        generalize fieldT (ub d1) (ub d1) (-1) = x at *
        subst hfw
        have HFX := Lib.hid (set5_block hk6 (.int .i64 1) (.string (ub d1)) (.string (ub d1)) (.int .i64 (-1)) (.slice none 0 0))
        have HBF := Lib.hid (set5_below HB6.out (g := w.heap.size) (Nat.le_refl _) (.int .i64 1) (.string (ub d1)) (.string (ub d1)) (.int .i64 (-1)) (.slice none 0 0))
        clear hk6 hg6
        go_wp2_with fail
        change bodyPost _ _ _ _ _ (set5 w6 w.heap.size (.int .i64 1) (.string (ub d1)) (.string (ub d1)) (.int .i64 (-1)) (.slice none 0 0))
        generalize set5 w6 w.heap.size (.int .i64 1) (.string (ub d1)) (.string (ub d1)) (.int .i64 (-1)) (.slice none 0 0) = WF at *
        have ⟨⟨f0, f1, f2, f3, f4⟩, _⟩ := keep5 HFX.out
        exact bodyPost_ret (v := .agg #[.int .i64 1, .string (ub d1), .string (ub d1), .int .i64 (-1), .slice none 0 0]) (by simp [results, Tryz.results82, go_sem, f0, f1, f2, f3, f4]) rfl ⟨ret_v (by rw [hres.out]; rfl), HBF.out⟩
      · have hres : Hid (fSel (bl t) = (0, ByteArray.empty, ByteArray.empty, 0)) := Lib.hid (by rw [hfe.out, if_neg (fun e => hfw (bl_inj e))])
        have hn1 := toList_ne hfw
        have hn2 := toList_beq hfw
        generalize fieldT (ub d1) (ub d1) (-1) = x at *
        have HFX := Lib.hid (set5_block hk6 (.int .i64 0) (.string ⟨#[]⟩) (.string ⟨#[]⟩) (.int .i64 0) (.slice none 0 0))
        have HBF := Lib.hid (set5_below HB6.out (g := w.heap.size) (Nat.le_refl _) (.int .i64 0) (.string ⟨#[]⟩) (.string ⟨#[]⟩) (.int .i64 0) (.slice none 0 0))
        clear hk6 hg6
        go_wp2_with fail
        change bodyPost _ _ _ _ _ (set5 w6 w.heap.size (.int .i64 0) (.string ⟨#[]⟩) (.string ⟨#[]⟩) (.int .i64 0) (.slice none 0 0))
        generalize set5 w6 w.heap.size (.int .i64 0) (.string ⟨#[]⟩) (.string ⟨#[]⟩) (.int .i64 0) (.slice none 0 0) = WF at *
        have ⟨⟨f0, f1, f2, f3, f4⟩, _⟩ := keep5 HFX.out
        exact bodyPost_ret (v := .agg #[.int .i64 0, .string ⟨#[]⟩, .string ⟨#[]⟩, .int .i64 0, .slice none 0 0]) (by simp [results, Tryz.results82, go_sem, f0, f1, f2, f3, f4]) rfl ⟨ret_v (by rw [hres.out]; rfl), HBF.out⟩
    · obtain ⟨pv, hpv⟩ : ∃ pv, pint (Lib.trimSuffix c2 [41]) = pv := ⟨_, rfl⟩
      have hfe : Hid (fSel (bl t) = if bl (fieldT (ub d1) (ub d1) pv) = bl t then (1, ub d1, ub d1, pv) else (0, ByteArray.empty, ByteArray.empty, 0)) := Lib.hid (by rw [← hpv]; exact hfc.out)
      have hok : Hid (OkI pv) := Lib.hid (by rw [← hpv]; exact hp0.out)
      have hokr : -9223372036854775808 ≤ pv ∧ pv ≤ 9223372036854775807 := hok.out
      have HB3 : Hid (Below w.heap.size w (w2.alloc (.cells #[.int .i64 1, .string (ub d1), .string (ub d1), .int .i64 (-1), .slice none 0 0] 50))) := Lib.hid (HB2.out.alloc HB2.out.size _)
      have CP2 := Lib.hid (CP.out (ub (Lib.trimSuffix (bl (ub c2)) (bl ⟨#[41]⟩))) (w2.alloc (.cells #[.int .i64 1, .string (ub d1), .string (ub d1), .int .i64 (-1), .slice none 0 0] 50)) htr.out.2 HB3.out)
      rw [htr.out.1, hpv] at CP2
      clear hfc hpv
      go_wp2_with (go_at_call 89; refine (trimC (ub c2) ⟨#[41]⟩ _ sc2).mono ?_; rintro e w' ⟨rfl, rfl⟩)
      refine CP2.out.mono ?_
      rintro e w4 ⟨⟨x, rfl⟩, hb4⟩
      have hk4 := (hb4.block w.heap.size (by simp; omega)).trans ((Below.heap_alloc w2 _ w.heap.size hz2).trans hk2.out)
      have hg4 := (hb4.block w2.heap.size (by simp)).trans (heap_alloc_new w2 _)
      have HB4 := Lib.hid (HB3.out.trans (hb4.mono HB3.out.size))
      have hz4 : w2.heap.size < w4.heap.size := by have := hb4.size; simp at this; omega
      have ⟨⟨q0, q1, q2, q3, q4⟩, s0, s1, s2, s3, s4⟩ := keep5 hg4
      have HB5 : Hid (Below w.heap.size w (w4.setCell ⟨w2.heap.size, 3, none⟩ (.int .i64 pv))) := Lib.hid (HB4.out.setCell (p := ⟨w2.heap.size, 3, none⟩) (Nat.le_of_lt hz2) _)
      have hk5 : Hid ((w4.setCell ⟨w2.heap.size, 3, none⟩ (.int .i64 pv)).heap[w.heap.size]? = _) := Lib.hid ((Go.Deep.blk_setCell_other w4 ⟨w2.heap.size, 3, none⟩ _ w.heap.size (Nat.ne_of_lt hz2)).trans hk4)
      have hg5 : Hid ((w4.setCell ⟨w2.heap.size, 3, none⟩ (.int .i64 pv)).heap[w2.heap.size]? = some (.cells #[.int .i64 1, .string (ub d1), .string (ub d1), .int .i64 pv, .slice none 0 0] 50 (0, 0))) := Lib.hid ((heap_setCell_same w4 w2.heap.size 3 _ _ (.int .i64 pv) hg4).trans (by simp))
      have hl5 : Hid (w.heap.size < (w4.setCell ⟨w2.heap.size, 3, none⟩ (.int .i64 pv)).heap.size ∧ w2.heap.size < (w4.setCell ⟨w2.heap.size, 3, none⟩ (.int .i64 pv)).heap.size) := Lib.hid (by simp; omega)
      clear hb4 hk4 hg4 CP2
      go_wp2_with fail
      clear q0 q1 q2 q3 q4 s0 s1 s2 s3 s4
      refine (CF.out 1 (ub d1) (ub d1) pv _ sd1 sd1 hok.out HB5.out).mono ?_
      rintro e w6 ⟨rfl, hb6⟩
      have hk6 := (hb6.block w.heap.size hl5.out.1).trans hk5.out
      have hg6 := (hb6.block w2.heap.size hl5.out.2).trans hg5.out
      have HB6 := Lib.hid (HB5.out.trans (hb6.mono HB5.out.size))
      have ⟨⟨e0, e1, e2, e3, e4⟩, p0, p1, p2, p3, p4⟩ := keep5 hk6
      have ⟨⟨x0, x1, x2, x3, x4⟩, y0, y1, y2, y3, y4⟩ := keep5 hg6
      clear hb6 hk5 hg5 hl5 HB5 CF CP C1 C2 HA
      by_cases hfw : fieldT (ub d1) (ub d1) pv = t
      · have hres : Hid (fSel (bl t) = (1, ub d1, ub d1, pv)) := Lib.hid (by rw [hfe.out, if_pos (by rw [hfw])])
        have hsx : (fieldT (ub d1) (ub d1) pv).size ≤ 9223372036854775807 := by rw [hfw]; omega
        generalize fieldT (ub d1) (ub d1) pv = x at *
        subst hfw
        have HFX := Lib.hid (set5_block hk6 (.int .i64 1) (.string (ub d1)) (.string (ub d1)) (.int .i64 pv) (.slice none 0 0))
        have HBF := Lib.hid (set5_below HB6.out (g := w.heap.size) (Nat.le_refl _) (.int .i64 1) (.string (ub d1)) (.string (ub d1)) (.int .i64 pv) (.slice none 0 0))
        clear hk6 hg6
        go_wp2_with fail
        change bodyPost _ _ _ _ _ (set5 w6 w.heap.size (.int .i64 1) (.string (ub d1)) (.string (ub d1)) (.int .i64 pv) (.slice none 0 0))
        generalize set5 w6 w.heap.size (.int .i64 1) (.string (ub d1)) (.string (ub d1)) (.int .i64 pv) (.slice none 0 0) = WF at *
        have ⟨⟨f0, f1, f2, f3, f4⟩, _⟩ := keep5 HFX.out
        exact bodyPost_ret (v := .agg #[.int .i64 1, .string (ub d1), .string (ub d1), .int .i64 pv, .slice none 0 0]) (by simp [results, Tryz.results82, go_sem, f0, f1, f2, f3, f4]) rfl ⟨ret_v (by rw [hres.out]; rfl), HBF.out⟩
      · have hres : Hid (fSel (bl t) = (0, ByteArray.empty, ByteArray.empty, 0)) := Lib.hid (by rw [hfe.out, if_neg (fun e => hfw (bl_inj e))])
        have hn1 := toList_ne hfw
        have hn2 := toList_beq hfw
        generalize fieldT (ub d1) (ub d1) pv = x at *
        have HFX := Lib.hid (set5_block hk6 (.int .i64 0) (.string ⟨#[]⟩) (.string ⟨#[]⟩) (.int .i64 0) (.slice none 0 0))
        have HBF := Lib.hid (set5_below HB6.out (g := w.heap.size) (Nat.le_refl _) (.int .i64 0) (.string ⟨#[]⟩) (.string ⟨#[]⟩) (.int .i64 0) (.slice none 0 0))
        clear hk6 hg6
        go_wp2_with fail
        change bodyPost _ _ _ _ _ (set5 w6 w.heap.size (.int .i64 0) (.string ⟨#[]⟩) (.string ⟨#[]⟩) (.int .i64 0) (.slice none 0 0))
        generalize set5 w6 w.heap.size (.int .i64 0) (.string ⟨#[]⟩) (.string ⟨#[]⟩) (.int .i64 0) (.slice none 0 0) = WF at *
        have ⟨⟨f0, f1, f2, f3, f4⟩, _⟩ := keep5 HFX.out
        exact bodyPost_ret (v := .agg #[.int .i64 0, .string ⟨#[]⟩, .string ⟨#[]⟩, .int .i64 0, .slice none 0 0]) (by simp [results, Tryz.results82, go_sem, f0, f1, f2, f3, f4]) rfl ⟨ret_v (by rw [hres.out]; rfl), HBF.out⟩
  · cases cb
    · have hfe : Hid (fSel (bl t) = if bl (fieldT (ub d1) (ub d2) (-1)) = bl t then (1, ub d1, ub d2, -1) else (0, ByteArray.empty, ByteArray.empty, 0)) := Lib.hid hfc.out
      have HB5 : Hid (Below w.heap.size w (w2.alloc (.cells #[.int .i64 1, .string (ub d1), .string (ub d2), .int .i64 (-1), .slice none 0 0] 50))) := Lib.hid (HB2.out.alloc HB2.out.size _)
      have hk5 : Hid ((w2.alloc (.cells #[.int .i64 1, .string (ub d1), .string (ub d2), .int .i64 (-1), .slice none 0 0] 50)).heap[w.heap.size]? = _) := Lib.hid ((Below.heap_alloc w2 _ w.heap.size hz2).trans hk2.out)
      have hg5 : Hid ((w2.alloc (.cells #[.int .i64 1, .string (ub d1), .string (ub d2), .int .i64 (-1), .slice none 0 0] 50)).heap[w2.heap.size]? = some (.cells #[.int .i64 1, .string (ub d1), .string (ub d2), .int .i64 (-1), .slice none 0 0] 50 (0, 0))) := Lib.hid (heap_alloc_new w2 _)
      have hl5 : Hid (w.heap.size < (w2.alloc (.cells #[.int .i64 1, .string (ub d1), .string (ub d2), .int .i64 (-1), .slice none 0 0] 50)).heap.size ∧ w2.heap.size < (w2.alloc (.cells #[.int .i64 1, .string (ub d1), .string (ub d2), .int .i64 (-1), .slice none 0 0] 50)).heap.size) := Lib.hid (by simp; omega)
      clear hfc
      go_wp2_with fail
      refine (CF.out 1 (ub d1) (ub d2) (-1) _ sd1 sd2 (by unfold OkI; omega) HB5.out).mono ?_
      rintro e w6 ⟨rfl, hb6⟩
      have hk6 := (hb6.block w.heap.size hl5.out.1).trans hk5.out
      have hg6 := (hb6.block w2.heap.size hl5.out.2).trans hg5.out
      have HB6 := Lib.hid (HB5.out.trans (hb6.mono HB5.out.size))
      have ⟨⟨e0, e1, e2, e3, e4⟩, p0, p1, p2, p3, p4⟩ := keep5 hk6
      have ⟨⟨x0, x1, x2, x3, x4⟩, y0, y1, y2, y3, y4⟩ := keep5 hg6
      clear hb6 hk5 hg5 hl5 HB5 CF CP C1 C2 HA
      by_cases hfw : fieldT (ub d1) (ub d2) (-1) = t
      · have hres : Hid (fSel (bl t) = (1, ub d1, ub d2, (-1))) := Lib.hid (by rw [hfe.out, if_pos (by rw [hfw])])
        have hsx : (fieldT (ub d1) (ub d2) (-1)).size ≤ 9223372036854775807 := by rw [hfw]; omega
        generalize fieldT (ub d1) (ub d2) (-1) = x at *
        subst hfw
        have HFX := Lib.hid (set5_block hk6 (.int .i64 1) (.string (ub d1)) (.string (ub d2)) (.int .i64 (-1)) (.slice none 0 0))
        have HBF := Lib.hid (set5_below HB6.out (g := w.heap.size) (Nat.le_refl _) (.int .i64 1) (.string (ub d1)) (.string (ub d2)) (.int .i64 (-1)) (.slice none 0 0))
        clear hk6 hg6
        go_wp2_with fail
        change bodyPost _ _ _ _ _ (set5 w6 w.heap.size (.int .i64 1) (.string (ub d1)) (.string (ub d2)) (.int .i64 (-1)) (.slice none 0 0))
        generalize set5 w6 w.heap.size (.int .i64 1) (.string (ub d1)) (.string (ub d2)) (.int .i64 (-1)) (.slice none 0 0) = WF at *
        have ⟨⟨f0, f1, f2, f3, f4⟩, _⟩ := keep5 HFX.out
        exact bodyPost_ret (v := .agg #[.int .i64 1, .string (ub d1), .string (ub d2), .int .i64 (-1), .slice none 0 0]) (by simp [results, Tryz.results82, go_sem, f0, f1, f2, f3, f4]) rfl ⟨ret_v (by rw [hres.out]; rfl), HBF.out⟩
      · have hres : Hid (fSel (bl t) = (0, ByteArray.empty, ByteArray.empty, 0)) := Lib.hid (by rw [hfe.out, if_neg (fun e => hfw (bl_inj e))])
        have hn1 := toList_ne hfw
        have hn2 := toList_beq hfw
        generalize fieldT (ub d1) (ub d2) (-1) = x at *
        have HFX := Lib.hid (set5_block hk6 (.int .i64 0) (.string ⟨#[]⟩) (.string ⟨#[]⟩) (.int .i64 0) (.slice none 0 0))
        have HBF := Lib.hid (set5_below HB6.out (g := w.heap.size) (Nat.le_refl _) (.int .i64 0) (.string ⟨#[]⟩) (.string ⟨#[]⟩) (.int .i64 0) (.slice none 0 0))
        clear hk6 hg6
        go_wp2_with fail
        change bodyPost _ _ _ _ _ (set5 w6 w.heap.size (.int .i64 0) (.string ⟨#[]⟩) (.string ⟨#[]⟩) (.int .i64 0) (.slice none 0 0))
        generalize set5 w6 w.heap.size (.int .i64 0) (.string ⟨#[]⟩) (.string ⟨#[]⟩) (.int .i64 0) (.slice none 0 0) = WF at *
        have ⟨⟨f0, f1, f2, f3, f4⟩, _⟩ := keep5 HFX.out
        exact bodyPost_ret (v := .agg #[.int .i64 0, .string ⟨#[]⟩, .string ⟨#[]⟩, .int .i64 0, .slice none 0 0]) (by simp [results, Tryz.results82, go_sem, f0, f1, f2, f3, f4]) rfl ⟨ret_v (by rw [hres.out]; rfl), HBF.out⟩
    · obtain ⟨pv, hpv⟩ : ∃ pv, pint (Lib.trimSuffix c2 [41]) = pv := ⟨_, rfl⟩
      have hfe : Hid (fSel (bl t) = if bl (fieldT (ub d1) (ub d2) pv) = bl t then (1, ub d1, ub d2, pv) else (0, ByteArray.empty, ByteArray.empty, 0)) := Lib.hid (by rw [← hpv]; exact hfc.out)
      have hok : Hid (OkI pv) := Lib.hid (by rw [← hpv]; exact hp0.out)
      have hokr : -9223372036854775808 ≤ pv ∧ pv ≤ 9223372036854775807 := hok.out
      have HB3 : Hid (Below w.heap.size w (w2.alloc (.cells #[.int .i64 1, .string (ub d1), .string (ub d2), .int .i64 (-1), .slice none 0 0] 50))) := Lib.hid (HB2.out.alloc HB2.out.size _)
      have CP2 := Lib.hid (CP.out (ub (Lib.trimSuffix (bl (ub c2)) (bl ⟨#[41]⟩))) (w2.alloc (.cells #[.int .i64 1, .string (ub d1), .string (ub d2), .int .i64 (-1), .slice none 0 0] 50)) htr.out.2 HB3.out)
      rw [htr.out.1, hpv] at CP2
      clear hfc hpv
      go_wp2_with (go_at_call 89; refine (trimC (ub c2) ⟨#[41]⟩ _ sc2).mono ?_; rintro e w' ⟨rfl, rfl⟩)
      refine CP2.out.mono ?_
      rintro e w4 ⟨⟨x, rfl⟩, hb4⟩
      have hk4 := (hb4.block w.heap.size (by simp; omega)).trans ((Below.heap_alloc w2 _ w.heap.size hz2).trans hk2.out)
      have hg4 := (hb4.block w2.heap.size (by simp)).trans (heap_alloc_new w2 _)
      have HB4 := Lib.hid (HB3.out.trans (hb4.mono HB3.out.size))
      have hz4 : w2.heap.size < w4.heap.size := by have := hb4.size; simp at this; omega
      have ⟨⟨q0, q1, q2, q3, q4⟩, s0, s1, s2, s3, s4⟩ := keep5 hg4
      have HB5 : Hid (Below w.heap.size w (w4.setCell ⟨w2.heap.size, 3, none⟩ (.int .i64 pv))) := Lib.hid (HB4.out.setCell (p := ⟨w2.heap.size, 3, none⟩) (Nat.le_of_lt hz2) _)
      have hk5 : Hid ((w4.setCell ⟨w2.heap.size, 3, none⟩ (.int .i64 pv)).heap[w.heap.size]? = _) := Lib.hid ((Go.Deep.blk_setCell_other w4 ⟨w2.heap.size, 3, none⟩ _ w.heap.size (Nat.ne_of_lt hz2)).trans hk4)
      have hg5 : Hid ((w4.setCell ⟨w2.heap.size, 3, none⟩ (.int .i64 pv)).heap[w2.heap.size]? = some (.cells #[.int .i64 1, .string (ub d1), .string (ub d2), .int .i64 pv, .slice none 0 0] 50 (0, 0))) := Lib.hid ((heap_setCell_same w4 w2.heap.size 3 _ _ (.int .i64 pv) hg4).trans (by simp))
      have hl5 : Hid (w.heap.size < (w4.setCell ⟨w2.heap.size, 3, none⟩ (.int .i64 pv)).heap.size ∧ w2.heap.size < (w4.setCell ⟨w2.heap.size, 3, none⟩ (.int .i64 pv)).heap.size) := Lib.hid (by simp; omega)
      clear hb4 hk4 hg4 CP2
      go_wp2_with fail
      clear q0 q1 q2 q3 q4 s0 s1 s2 s3 s4
      refine (CF.out 1 (ub d1) (ub d2) pv _ sd1 sd2 hok.out HB5.out).mono ?_
      rintro e w6 ⟨rfl, hb6⟩
      have hk6 := (hb6.block w.heap.size hl5.out.1).trans hk5.out
      have hg6 := (hb6.block w2.heap.size hl5.out.2).trans hg5.out
      have HB6 := Lib.hid (HB5.out.trans (hb6.mono HB5.out.size))
      have ⟨⟨e0, e1, e2, e3, e4⟩, p0, p1, p2, p3, p4⟩ := keep5 hk6
      have ⟨⟨x0, x1, x2, x3, x4⟩, y0, y1, y2, y3, y4⟩ := keep5 hg6
      clear hb6 hk5 hg5 hl5 HB5 CF CP C1 C2 HA
      by_cases hfw : fieldT (ub d1) (ub d2) pv = t
      · have hres : Hid (fSel (bl t) = (1, ub d1, ub d2, pv)) := Lib.hid (by rw [hfe.out, if_pos (by rw [hfw])])
        have hsx : (fieldT (ub d1) (ub d2) pv).size ≤ 9223372036854775807 := by rw [hfw]; omega
        generalize fieldT (ub d1) (ub d2) pv = x at *
        subst hfw
        have HFX := Lib.hid (set5_block hk6 (.int .i64 1) (.string (ub d1)) (.string (ub d2)) (.int .i64 pv) (.slice none 0 0))
        have HBF := Lib.hid (set5_below HB6.out (g := w.heap.size) (Nat.le_refl _) (.int .i64 1) (.string (ub d1)) (.string (ub d2)) (.int .i64 pv) (.slice none 0 0))
        clear hk6 hg6
        go_wp2_with fail
        change bodyPost _ _ _ _ _ (set5 w6 w.heap.size (.int .i64 1) (.string (ub d1)) (.string (ub d2)) (.int .i64 pv) (.slice none 0 0))
        generalize set5 w6 w.heap.size (.int .i64 1) (.string (ub d1)) (.string (ub d2)) (.int .i64 pv) (.slice none 0 0) = WF at *
        have ⟨⟨f0, f1, f2, f3, f4⟩, _⟩ := keep5 HFX.out
        exact bodyPost_ret (v := .agg #[.int .i64 1, .string (ub d1), .string (ub d2), .int .i64 pv, .slice none 0 0]) (by simp [results, Tryz.results82, go_sem, f0, f1, f2, f3, f4]) rfl ⟨ret_v (by rw [hres.out]; rfl), HBF.out⟩
      · have hres : Hid (fSel (bl t) = (0, ByteArray.empty, ByteArray.empty, 0)) := Lib.hid (by rw [hfe.out, if_neg (fun e => hfw (bl_inj e))])
        have hn1 := toList_ne hfw
        have hn2 := toList_beq hfw
        generalize fieldT (ub d1) (ub d2) pv = x at *
        have HFX := Lib.hid (set5_block hk6 (.int .i64 0) (.string ⟨#[]⟩) (.string ⟨#[]⟩) (.int .i64 0) (.slice none 0 0))
        have HBF := Lib.hid (set5_below HB6.out (g := w.heap.size) (Nat.le_refl _) (.int .i64 0) (.string ⟨#[]⟩) (.string ⟨#[]⟩) (.int .i64 0) (.slice none 0 0))
        clear hk6 hg6
        go_wp2_with fail
        change bodyPost _ _ _ _ _ (set5 w6 w.heap.size (.int .i64 0) (.string ⟨#[]⟩) (.string ⟨#[]⟩) (.int .i64 0) (.slice none 0 0))
        generalize set5 w6 w.heap.size (.int .i64 0) (.string ⟨#[]⟩) (.string ⟨#[]⟩) (.int .i64 0) (.slice none 0 0) = WF at *
        have ⟨⟨f0, f1, f2, f3, f4⟩, _⟩ := keep5 HFX.out
        exact bodyPost_ret (v := .agg #[.int .i64 0, .string ⟨#[]⟩, .string ⟨#[]⟩, .int .i64 0, .slice none 0 0]) (by simp [results, Tryz.results82, go_sem, f0, f1, f2, f3, f4]) rfl ⟨ret_v (by rw [hres.out]; rfl), HBF.out⟩
end Go.Proofs.YtnkknfnndoegpaaGreatDoor.Selss
