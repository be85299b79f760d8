/-
  Contract: spec.l04Get: the field of a name of a type, or the zero one; of what was there nothing is changed. Conditions: in memory.
-/
import Derived.Test.YtcogbmcnljlnaaaRows
import Derived.Test.YtcogbmcnljlnaaaFieldP
namespace Go.Proofs.Ytcogbmcnljlnaaa.Rw
open Go.RowKit Words Go.Maps
set_option linter.unusedVariables false
set_option maxRecDepth 100000

set_option maxHeartbeats 2000000 in
theorem specGet (w : World) (A B : Nat) (v : Value) (s : List TypeP) (t nm : ByteArray) (htk : OkS t) (hn : OkS nm) (hv : SchemaAt w A B v s) (hB : B ≤ w.heap.size) :
    Calls Try.prog 35 #[v, .string t, .string nm] w fun e w' => e = .returned (.agg (fieldIn nm (typeIn t s).fields).cells.toArray) ∧ Below w.heap.size w w' := by
  have C := Lib.hid (fun o1 o2 => specType ((w.alloc o1).alloc o2) A B v s t htk (hv.below (C := w.heap.size) hB (((Below.refl _ _).alloc (Nat.le_refl _) o1).alloc (by simp) o2)) (Nat.le_trans hB (by simp; omega)))
  have HA : Hid (∀ o1 o2, Below w.heap.size w ((w.alloc o1).alloc o2)) := Lib.hid fun o1 o2 => ((Below.refl _ _).alloc (Nat.le_refl _) o1).alloc (by simp) o2
  have HN := Lib.hid hn
  obtain ⟨a, ca, rfl, _, _⟩ := hv
  clear hn htk
  generalize typeIn t s = y at *
  obtain ⟨tn, tk, tb, tf, tm⟩ := y
  go_enter Try.func35, Try.ntmps35
  go_wp2_with fail
  refine (C.out _ _).mono ?_
  rintro e w1 ⟨⟨ta, tca, tc, tcc, rfl, hty⟩, hb1⟩
  have HB1 := Lib.hid ((HA.out _ _).trans (hb1.mono (HA.out _ _).size))
  have HZ1 := Lib.hid (kept2z hb1).2
  clear hb1
  obtain ⟨_, _, _, _, hve, _, ⟨h2, h2c⟩, _, _⟩ := hty
  simp [TypeP.cells] at hve
  obtain ⟨⟨rfl, rfl⟩, rfl, rfl⟩ := hve
  simp only [TypeP.cells] at h2 h2c ⊢
  have HF := Lib.hid h2
  have hfl := h2.2.1
  have CF : Hid (Calls Try.prog 55 #[.slice ta tf.length tca, .string nm] w1 fun e w' => e = .returned (.int .i64 (findF nm tf 0)) ∧ Below w1.heap.size w1 w') := Lib.hid (specField w1 A B ta _ tca tf nm HN.out h2 (Nat.le_trans hB HB1.out.size))
  have hfld : ∀ (W : World), (Instr.field 38 (.agg #[.string tn, .int .i64 tk, .int .i64 tb, .slice ta tf.length tca, .slice tc tm.length tcc]) 3).run Try.prog W = .ok (.slice ta tf.length tca) W := fun _ => rfl
  have HI := findF_in nm tf 0
  clear h2
  go_wp2_with fail
  refine CF.out.mono ?_
  rintro e w2 ⟨rfl, hb2⟩
  have HB2 := Lib.hid (HB1.out.trans (hb2.mono HB1.out.size))
  have hz2 := (hb2.block (w.heap.size + 1) (lt_of_get HZ1.out)).trans HZ1.out
  have HZ2 := Lib.hid hz2
  have ⟨⟨z0, z1, z2, z3, z4, z5⟩, g0, g1, g2, g3, g4, g5⟩ := keep6 hz2
  have HB12 := Lib.hid hb2
  clear hb2 hz2 hfld
  rcases HI with ⟨hi, hfi⟩ | ⟨i, hi, hg, hnm⟩
  · rw [hi]
    have HFI := Lib.hid hfi
    clear hi hfi
    go_wp2_with fail
    change bodyPost _ _ _ _ _ (putL w2 (w.heap.size + 1) 0 [.string ⟨#[]⟩, .string ⟨#[]⟩, .bool false, .bool false, .int .i64 0, .int .i64 0])
    obtain ⟨hr, _, _⟩ := putL_cells (g := w.heap.size + 1) (o := 0) (l := [.string ⟨#[]⟩, .string ⟨#[]⟩, .bool false, .bool false, .int .i64 0, .int .i64 0]) HZ2.out (by simp)
    have HBF := putL_below (g := w.heap.size + 1) (B := w.heap.size) (by omega) [.string ⟨#[]⟩, .string ⟨#[]⟩, .bool false, .bool false, .int .i64 0, .int .i64 0] 0 HB2.out
    generalize putL w2 (w.heap.size + 1) 0 [.string ⟨#[]⟩, .string ⟨#[]⟩, .bool false, .bool false, .int .i64 0, .int .i64 0] = wz at *
    have ⟨x0, x1, x2, x3, x4, x5⟩ := row6z hr
    exact bodyPost_ret (v := .agg #[.string ⟨#[]⟩, .string ⟨#[]⟩, .bool false, .bool false, .int .i64 0, .int .i64 0]) (by simp [results, Try.results35, go_sem, x0, x1, x2, x3, x4, x5]) rfl ⟨by rw [HFI.out]; rfl, HBF⟩
  · rw [Nat.zero_add] at hi
    rw [hi]
    have hil : i < tf.length := (List.getElem?_eq_some_iff.1 hg).1
    have hli : (i : Int) < (tf.length : Int) := by omega
    obtain ⟨f, fb, off, hd, rfl, hA, hbb, hok, hc⟩ := (HF.out.below fieldLies (Nat.le_trans hB HB1.out.size) HB12.out).at hil
    obtain rfl : f = fieldIn nm tf := by rw [hg] at hd; exact (Option.some.inj hd).symm
    obtain ⟨c0, c1, c2, c3, c4, c5⟩ := row6 hc
    clear hi hg hnm hd hc hok hil
    go_wp2_with fail
    change bodyPost _ _ _ _ _ (putL w2 (w.heap.size + 1) 0 [.string (fieldIn nm tf).name, .string (fieldIn nm tf).typ, .bool (fieldIn nm tf).list, .bool (fieldIn nm tf).must, .int .i64 (fieldIn nm tf).size, .int .i64 (fieldIn nm tf).cap])
    obtain ⟨hr, _, _⟩ := putL_cells (g := w.heap.size + 1) (o := 0) (l := [.string (fieldIn nm tf).name, .string (fieldIn nm tf).typ, .bool (fieldIn nm tf).list, .bool (fieldIn nm tf).must, .int .i64 (fieldIn nm tf).size, .int .i64 (fieldIn nm tf).cap]) HZ2.out (by simp)
    have HBF := putL_below (g := w.heap.size + 1) (B := w.heap.size) (by omega) [.string (fieldIn nm tf).name, .string (fieldIn nm tf).typ, .bool (fieldIn nm tf).list, .bool (fieldIn nm tf).must, .int .i64 (fieldIn nm tf).size, .int .i64 (fieldIn nm tf).cap] 0 HB2.out
    generalize putL w2 (w.heap.size + 1) 0 [.string (fieldIn nm tf).name, .string (fieldIn nm tf).typ, .bool (fieldIn nm tf).list, .bool (fieldIn nm tf).must, .int .i64 (fieldIn nm tf).size, .int .i64 (fieldIn nm tf).cap] = wz at *
    have ⟨x0, x1, x2, x3, x4, x5⟩ := row6z hr
    exact bodyPost_ret (v := .agg #[.string (fieldIn nm tf).name, .string (fieldIn nm tf).typ, .bool (fieldIn nm tf).list, .bool (fieldIn nm tf).must, .int .i64 (fieldIn nm tf).size, .int .i64 (fieldIn nm tf).cap]) (by simp [results, Try.results35, go_sem, x0, x1, x2, x3, x4, x5]) rfl ⟨rfl, HBF⟩
end Go.Proofs.Ytcogbmcnljlnaaa.Rw
