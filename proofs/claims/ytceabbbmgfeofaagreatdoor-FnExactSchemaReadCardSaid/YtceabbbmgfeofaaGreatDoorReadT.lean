/-
  Contract: impl.readType: what a line says; of what was there nothing is changed. Conditions: a text of at most 8000 bytes; the library's variables hold what the program lays.
-/
import Derived.Test.YtceabbbmgfeofaaGreatDoorRows
import Derived.Test.YtceabbbmgfeofaaGreatDoorReadQ
namespace Go.Proofs.YtceabbbmgfeofaaGreatDoor.Rw
open Go.RowKit Words Decs Splits
set_option linter.unusedVariables false
set_option maxRecDepth 100000

/-- A type in new memory, as a value. -/
def TypeNw (w w' : World) (x : TypeP) (e : Ending) : Prop := ∃ a ca c cc, e = .returned (.agg (x.cells a ca c cc).toArray) ∧ TypeX w' w.heap.size w'.heap.size (.agg (x.cells a ca c cc).toArray) x
theorem ubR_list (l : Tk) : (ubR l).toList = l := by rw [Lib.toList_data]; rfl
theorem typeQ_ok (t : ByteArray) (ht : t.size ≤ 8000) : (typeQ (bL t)).ok := by
  have hl := bL_len t
  have h1 := cutR_len (bL t) [32]
  have h2 := cutR_len (Lib.cut (bL t) [32]).2.1 [32]
  have hn : OkS (nameQ (bL t)) := okS_ub (by omega)
  unfold typeQ
  split
  · exact ⟨hn, by unfold OkI; simp, pintR_ok _⟩
  · split
    · exact ⟨hn, by unfold OkI; simp, by unfold OkI; simp⟩
    · split
      · exact ⟨hn, by unfold OkI; simp, by unfold OkI; simp⟩
      · exact ⟨by unfold OkS zeroType; decide, by unfold OkI zeroType; simp, by unfold OkI zeroType; simp⟩

set_option maxHeartbeats 8000000 in
theorem implReadType (t : ByteArray) (w : World) (B : Nat) (hv : VarsR B w) (hB : B ≤ w.heap.size) (ht : t.size ≤ 8000) :
    Calls Tryz.prog 113 #[.string t] w fun e w' => TypeNw w w' (typeQ (bL t)) e ∧ Below w.heap.size w w' := by
  have HA : Hid (∀ o, Below w.heap.size w (w.alloc o)) := Lib.hid fun o => (Below.refl _ _).alloc (Nat.le_refl _) o
  have HOK := Lib.hid (typeQ_ok t ht)
  have hl := bL_len t
  have C1 : Hid (∀ w', Below w.heap.size w w' → Calls Tryz.prog 154 #[.string t, .string ⟨#[32]⟩] w' fun e w'' => e = .returned (.tuple #[.string (ubR (Lib.cut (bL t) [32]).1), .string (ubR (Lib.cut (bL t) [32]).2.1), .bool (Lib.cut (bL t) [32]).2.2]) ∧ Below w'.heap.size w' w'') := Lib.hid fun w' h => cutC t ⟨#[32]⟩ w' B (hv.over hB h) ht
  have l1 := cutR_len (bL t) [32]
  have HQ := Lib.hid (show typeQ (bL t) = if (Lib.cut (bL t) [32]).1 = leafW then ⟨ubR (Lib.cut (Lib.cut (bL t) [32]).2.1 [32]).1, 1, pintR (Lib.cut (Lib.cut (bL t) [32]).2.1 [32]).2.1, [], []⟩
    else if (Lib.cut (bL t) [32]).1 = objW then ⟨ubR (Lib.cut (Lib.cut (bL t) [32]).2.1 [32]).1, 2, 0, (splitL 32 (Lib.cut (Lib.cut (bL t) [32]).2.1 [32]).2.1).map fieldQ, []⟩
    else if (Lib.cut (bL t) [32]).1 = oneW then ⟨ubR (Lib.cut (Lib.cut (bL t) [32]).2.1 [32]).1, 3, 0, [], (splitL 32 (Lib.cut (Lib.cut (bL t) [32]).2.1 [32]).2.1).map ubR⟩
    else zeroType from rfl)
  generalize typeQ (bL t) = x at *
  generalize Lib.cut (bL t) [32] = c at *
  obtain ⟨first, rest, sp1⟩ := c
  simp only at C1 l1 HQ
  have C2 : Hid (∀ w', Below w.heap.size w w' → Calls Tryz.prog 154 #[.string (ubR rest), .string ⟨#[32]⟩] w' fun e w'' => e = .returned (.tuple #[.string (ubR (Lib.cut rest [32]).1), .string (ubR (Lib.cut rest [32]).2.1), .bool (Lib.cut rest [32]).2.2]) ∧ Below w'.heap.size w' w'') := Lib.hid fun w' h => by
    have := cutC (ubR rest) ⟨#[32]⟩ w' B (hv.over hB h) (by rw [ubR_size]; omega)
    rw [ubL] at this; exact this
  have l2 := cutR_len rest [32]
  generalize Lib.cut rest [32] = d at *
  obtain ⟨name, had, sp2⟩ := d
  simp only at C2 l2 HQ
  have CN : Hid (∀ w', Below w.heap.size w w' → Calls Tryz.prog 155 #[.string (ubR had)] w' fun e w'' => e = .returned (.int .i64 (pintR had)) ∧ Below w'.heap.size w' w'') := Lib.hid fun w' h => by
    have := implNumberOf (ubR had) w' B (hv.over hB h) (by rw [ubR_size]; omega)
    rw [ubL] at this; exact this
  have CF : Hid (∀ w', Below w.heap.size w w' → Calls Tryz.prog 156 #[.string (ubR had)] w' fun e w'' => FieldsNew w' w'' ((splitL 32 had).map fieldQ) e ∧ Below w'.heap.size w' w'') := Lib.hid fun w' h => by
    have := implReadFields (ubR had) w' B (hv.over hB h) (Nat.le_trans hB h.size) (by rw [ubR_size]; omega)
    rw [ubL] at this; exact this
  have CS : Hid (∀ w', Below w.heap.size w w' → Calls Tryz.prog 111 #[.string (ubR had), .string ⟨#[32]⟩] w' fun e w'' => (∃ a, e = .returned (.slice a ((splitL 32 had).map ubR).length ((splitL 32 had).map ubR).length) ∧ TextsX w'' w'.heap.size w''.heap.size a ((splitL 32 had).map ubR).length ((splitL 32 had).map ubR)) ∧ Below w'.heap.size w' w'') := Lib.hid fun w' h => by
    have := splitC (ubR had) 32 w' B (hv.over hB h) (by rw [ubR_size]; omega)
    rw [ubL] at this; exact this
  generalize pintR had = num at *
  generalize (splitL 32 had).map fieldQ = FL at *
  generalize (splitL 32 had).map ubR = ML at *
  have hfl : (ubR first).toList = first := ubR_list first
  generalize ubR name = nm at *
  generalize ubR rest = u1 at *
  generalize ubR had = u2 at *
  generalize ubR first = u0 at *
  have HZ0 := Lib.hid (heap_alloc_new w (.cells #[.string ⟨#[]⟩, .int .i64 0, .int .i64 0, .slice none 0 0, .slice none 0 0] 48))
  clear hv l1 l2 hl
  go_enter Tryz.func113, Tryz.ntmps113
  go_wp2_with fail
  refine (C1.out _ (HA.out _)).mono ?_
  rintro e w1 ⟨rfl, hb1⟩
  have HB1 := Lib.hid ((HA.out _).trans (hb1.mono (HA.out _).size))
  have HZ1 := Lib.hid ((hb1.block w.heap.size (lt_of_get HZ0.out)).trans HZ0.out)
  clear hb1
  go_wp2_with fail
  refine (C2.out _ HB1.out).mono ?_
  rintro e w2 ⟨rfl, hb2⟩
  have HB2 := Lib.hid (HB1.out.trans (hb2.mono HB1.out.size))
  have HZ2 := Lib.hid ((hb2.block w.heap.size (lt_of_get HZ1.out)).trans HZ1.out)
  clear hb2
  have hz2 := lt_of_get HZ2.out
  have ⟨⟨z0, z1, z2, z3, z4⟩, g0, g1, g2, g3, g4⟩ := keep5 HZ2.out
  by_cases q1 : first = leafW
  · have e1 : (u0.toList == [108, 101, 97, 102]) = true := by rw [hfl, q1]; rfl
    have hx : Hid (x = ⟨nm, 1, num, [], []⟩) := Lib.hid (by rw [HQ.out, if_pos q1])
    clear q1 hfl HQ
    go_wp2_with fail
    refine (CN.out _ HB2.out).mono ?_
    rintro e w3 ⟨rfl, hb3⟩
    have HB3 := Lib.hid (HB2.out.trans (hb3.mono HB2.out.size))
    have HZ3 := Lib.hid ((hb3.block w.heap.size hz2).trans HZ2.out)
    clear hb3 z0 z1 z2 z3 z4 g0 g1 g2 g3 g4
    have ⟨⟨z0, z1, z2, z3, z4⟩, g0, g1, g2, g3, g4⟩ := keep5 HZ3.out
    go_wp2_with fail
    change bodyPost _ _ _ _ _ (putL w3 w.heap.size 0 [.string nm, .int .i64 1, .int .i64 num, .slice none 0 0, .slice none 0 0])
    obtain ⟨hr, _, _⟩ := putL_cells (g := w.heap.size) (o := 0) (l := [.string nm, .int .i64 1, .int .i64 num, .slice none 0 0, .slice none 0 0]) HZ3.out (by simp)
    have HBF := putL_below (g := w.heap.size) (B := w.heap.size) (Nat.le_refl _) [.string nm, .int .i64 1, .int .i64 num, .slice none 0 0, .slice none 0 0] 0 HB3.out
    generalize putL w3 w.heap.size 0 [.string nm, .int .i64 1, .int .i64 num, .slice none 0 0, .slice none 0 0] = wz at *
    have ⟨x0, x1, x2, x3, x4⟩ := row5z hr
    exact bodyPost_ret (v := .agg #[.string nm, .int .i64 1, .int .i64 num, .slice none 0 0, .slice none 0 0]) (by simp [results, Tryz.results113, go_sem, x0, x1, x2, x3, x4]) rfl ⟨by
      rw [hx.out]; exact ⟨none, 0, none, 0, rfl, none, 0, none, 0, w.heap.size, rfl, by rw [← hx.out]; exact HOK.out, ⟨RowsX.nil (Nat.le_refl _), Nat.le_refl _⟩, RowsX.nil HBF.size, Nat.le_refl _⟩, HBF⟩
  have e1 : (u0.toList == [108, 101, 97, 102]) = false := by rw [hfl]; exact beq_eq_false_iff_ne.2 q1
  by_cases q2 : first = objW
  · have e2 : (u0.toList == [111, 98, 106]) = true := by rw [hfl, q2]; rfl
    have hx : Hid (x = ⟨nm, 2, 0, FL, []⟩) := Lib.hid (by rw [HQ.out, if_neg q1, if_pos q2])
    clear q1 q2 hfl HQ
    go_wp2_with fail
    refine (CF.out _ HB2.out).mono ?_
    rintro e w3 ⟨⟨fa, fcap, rfl, hfc, hfx⟩, hb3⟩
    have HFX := Lib.hid hfx
    have HFC := Lib.hid hfc
    have HB3 := Lib.hid (HB2.out.trans (hb3.mono HB2.out.size))
    have HZ3 := Lib.hid ((hb3.block w.heap.size hz2).trans HZ2.out)
    clear hb3 hfx hfc z0 z1 z2 z3 z4 g0 g1 g2 g3 g4
    have ⟨⟨z0, z1, z2, z3, z4⟩, g0, g1, g2, g3, g4⟩ := keep5 HZ3.out
    go_wp2_with fail
    change bodyPost _ _ _ _ _ (putL w3 w.heap.size 0 [.string nm, .int .i64 2, .int .i64 0, .slice fa FL.length fcap, .slice none 0 0])
    obtain ⟨hr, _, _⟩ := putL_cells (g := w.heap.size) (o := 0) (l := [.string nm, .int .i64 2, .int .i64 0, .slice fa FL.length fcap, .slice none 0 0]) HZ3.out (by simp)
    have HBF := putL_below (g := w.heap.size) (B := w.heap.size) (Nat.le_refl _) [.string nm, .int .i64 2, .int .i64 0, .slice fa FL.length fcap, .slice none 0 0] 0 HB3.out
    have hsz := putL_size [.string nm, .int .i64 2, .int .i64 0, .slice fa FL.length fcap, .slice none 0 0] w3 w.heap.size 0
    have HTZ := HFX.out.block (w' := putL w3 w.heap.size 0 [.string nm, .int .i64 2, .int .i64 0, .slice fa FL.length fcap, .slice none 0 0]) fieldLies fun q p1 p2 => putL_other _ _ _ _ q (by omega)
    generalize putL w3 w.heap.size 0 [.string nm, .int .i64 2, .int .i64 0, .slice fa FL.length fcap, .slice none 0 0] = wz at *
    have ⟨x0, x1, x2, x3, x4⟩ := row5z hr
    rw [← hsz] at HTZ
    exact bodyPost_ret (v := .agg #[.string nm, .int .i64 2, .int .i64 0, .slice fa FL.length fcap, .slice none 0 0]) (by simp [results, Tryz.results113, go_sem, x0, x1, x2, x3, x4]) rfl ⟨by
      rw [hx.out]; exact ⟨fa, fcap, none, 0, rfl, fa, fcap, none, 0, wz.heap.size, rfl, by rw [← hx.out]; exact HOK.out, ⟨HTZ.wide (by omega) (Nat.le_refl _), HFC.out⟩, RowsX.nil (Nat.le_refl _), Nat.le_refl _⟩, HBF⟩
  have e2 : (u0.toList == [111, 98, 106]) = false := by rw [hfl]; exact beq_eq_false_iff_ne.2 q2
  by_cases q3 : first = oneW
  · have e3 : (u0.toList == [111, 110, 101]) = true := by rw [hfl, q3]; rfl
    have hx : Hid (x = ⟨nm, 3, 0, [], ML⟩) := Lib.hid (by rw [HQ.out, if_neg q1, if_neg q2, if_pos q3])
    clear q1 q2 q3 hfl HQ
    go_wp2_with fail
    refine (CS.out _ HB2.out).mono ?_
    rintro e w3 ⟨⟨fa, rfl, hfx⟩, hb3⟩
    have HFX := Lib.hid hfx
    have HB3 := Lib.hid (HB2.out.trans (hb3.mono HB2.out.size))
    have HZ3 := Lib.hid ((hb3.block w.heap.size hz2).trans HZ2.out)
    clear hb3 hfx z0 z1 z2 z3 z4 g0 g1 g2 g3 g4
    have ⟨⟨z0, z1, z2, z3, z4⟩, g0, g1, g2, g3, g4⟩ := keep5 HZ3.out
    go_wp2_with fail
    change bodyPost _ _ _ _ _ (putL w3 w.heap.size 0 [.string nm, .int .i64 3, .int .i64 0, .slice none 0 0, .slice fa ML.length ML.length])
    obtain ⟨hr, _, _⟩ := putL_cells (g := w.heap.size) (o := 0) (l := [.string nm, .int .i64 3, .int .i64 0, .slice none 0 0, .slice fa ML.length ML.length]) HZ3.out (by simp)
    have HBF := putL_below (g := w.heap.size) (B := w.heap.size) (Nat.le_refl _) [.string nm, .int .i64 3, .int .i64 0, .slice none 0 0, .slice fa ML.length ML.length] 0 HB3.out
    have hsz := putL_size [.string nm, .int .i64 3, .int .i64 0, .slice none 0 0, .slice fa ML.length ML.length] w3 w.heap.size 0
    have HTZ := HFX.out.block (w' := putL w3 w.heap.size 0 [.string nm, .int .i64 3, .int .i64 0, .slice none 0 0, .slice fa ML.length ML.length]) textLies fun q p1 p2 => putL_other _ _ _ _ q (by omega)
    generalize putL w3 w.heap.size 0 [.string nm, .int .i64 3, .int .i64 0, .slice none 0 0, .slice fa ML.length ML.length] = wz at *
    have ⟨x0, x1, x2, x3, x4⟩ := row5z hr
    rw [← hsz] at HTZ
    exact bodyPost_ret (v := .agg #[.string nm, .int .i64 3, .int .i64 0, .slice none 0 0, .slice fa ML.length ML.length]) (by simp [results, Tryz.results113, go_sem, x0, x1, x2, x3, x4]) rfl ⟨by
      rw [hx.out]; exact ⟨none, 0, fa, ML.length, rfl, none, 0, fa, ML.length, w.heap.size, rfl, by rw [← hx.out]; exact HOK.out, ⟨RowsX.nil (Nat.le_refl _), Nat.le_refl _⟩, HTZ.wide (by omega) (Nat.le_refl _), Nat.le_refl _⟩, HBF⟩
  have e3 : (u0.toList == [111, 110, 101]) = false := by rw [hfl]; exact beq_eq_false_iff_ne.2 q3
  have hx : Hid (x = zeroType) := Lib.hid (by rw [HQ.out, if_neg q1, if_neg q2, if_neg q3])
  clear q1 q2 q3 hfl HQ
  go_wp2_with fail
  change bodyPost _ _ _ _ _ (putL w2 w.heap.size 0 [.string ⟨#[]⟩, .int .i64 0, .int .i64 0, .slice none 0 0, .slice none 0 0])
  obtain ⟨hr, _, _⟩ := putL_cells (g := w.heap.size) (o := 0) (l := [.string ⟨#[]⟩, .int .i64 0, .int .i64 0, .slice none 0 0, .slice none 0 0]) HZ2.out (by simp)
  have HBF := putL_below (g := w.heap.size) (B := w.heap.size) (Nat.le_refl _) [.string ⟨#[]⟩, .int .i64 0, .int .i64 0, .slice none 0 0, .slice none 0 0] 0 HB2.out
  generalize putL w2 w.heap.size 0 [.string ⟨#[]⟩, .int .i64 0, .int .i64 0, .slice none 0 0, .slice none 0 0] = wz at *
  have ⟨x0, x1, x2, x3, x4⟩ := row5z hr
  exact bodyPost_ret (v := .agg #[.string ⟨#[]⟩, .int .i64 0, .int .i64 0, .slice none 0 0, .slice none 0 0]) (by simp [results, Tryz.results113, go_sem, x0, x1, x2, x3, x4]) rfl ⟨by
    rw [hx.out]; exact ⟨none, 0, none, 0, rfl, none, 0, none, 0, w.heap.size, rfl, by rw [← hx.out]; exact HOK.out, ⟨RowsX.nil (Nat.le_refl _), Nat.le_refl _⟩, RowsX.nil HBF.size, Nat.le_refl _⟩, HBF⟩
end Go.Proofs.YtceabbbmgfeofaaGreatDoor.Rw
