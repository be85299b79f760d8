/-
  Contracts: spec.l05Composite, l05Field: what is wrong of a field, for a type; of what was there nothing is changed. Conditions: in memory.
-/
import Derived.Test.YtceabbbmgfeofaaGreatDoorRows
import Derived.Test.YtceabbbmgfeofaaGreatDoorFieldP
import Derived.Test.YtceabbbmgfeofaaGreatDoorValP
namespace Go.Proofs.YtceabbbmgfeofaaGreatDoor.Rw
open Go.RowKit Words Go.Maps
set_option linter.unusedVariables false
set_option maxRecDepth 100000
set_option maxHeartbeats 2000000 in
theorem specGet (w : World) (A B : Nat) (v : Value) (s : List TypeP) (t nm : ByteArray) (htk : OkS t) (hn : OkS nm) (hv : SchemaAt w A B v s) (hB : B ≤ w.heap.size) :
    Calls Tryz.prog 181 #[v, .string t, .string nm] w fun e w' => e = .returned (.agg (fieldIn nm (typeIn t s).fields).cells.toArray) ∧ Below w.heap.size w w' := by
  have C := Lib.hid (fun o1 o2 => specType ((w.alloc o1).alloc o2) A B v s t htk (hv.below (C := w.heap.size) hB (((Below.refl _ _).alloc (Nat.le_refl _) o1).alloc (by simp) o2)) (Nat.le_trans hB (by simp; omega)))
  have HA : Hid (∀ o1 o2, Below w.heap.size w ((w.alloc o1).alloc o2)) := Lib.hid fun o1 o2 => ((Below.refl _ _).alloc (Nat.le_refl _) o1).alloc (by simp) o2
  have HN := Lib.hid hn
  obtain ⟨a, ca, rfl, _, _⟩ := hv
  clear hn htk
  generalize typeIn t s = y at *
  obtain ⟨tn, tk, tb, tf, tm⟩ := y
  go_enter Tryz.func181, Tryz.ntmps181
  go_wp2_with fail
  refine (C.out _ _).mono ?_
  rintro e w1 ⟨⟨ta, tca, tc, tcc, rfl, hty⟩, hb1⟩
  have HB1 := Lib.hid ((HA.out _ _).trans (hb1.mono (HA.out _ _).size))
  have HZ1 := Lib.hid (kept2z hb1).2
  clear hb1
  obtain ⟨_, _, _, _, hve, _, ⟨h2, h2c⟩, _, _⟩ := hty
  simp [TypeP.cells] at hve
  obtain ⟨⟨rfl, rfl⟩, rfl, rfl⟩ := hve
  simp only [TypeP.cells] at h2 h2c ⊢
  have HF := Lib.hid h2
  have hfl := h2.2.1
  have CF : Hid (Calls Tryz.prog 180 #[.slice ta tf.length tca, .string nm] w1 fun e w' => e = .returned (.int .i64 (findF nm tf 0)) ∧ Below w1.heap.size w1 w') := Lib.hid (specField w1 A B ta _ tca tf nm HN.out h2 (Nat.le_trans hB HB1.out.size))
  have hfld : ∀ (W : World), (Instr.field 48 (.agg #[.string tn, .int .i64 tk, .int .i64 tb, .slice ta tf.length tca, .slice tc tm.length tcc]) 3).run Tryz.prog W = .ok (.slice ta tf.length tca) W := fun _ => rfl
  have HI := findF_in nm tf 0
  clear h2
  go_wp2_with fail
  refine CF.out.mono ?_
  rintro e w2 ⟨rfl, hb2⟩
  have HB2 := Lib.hid (HB1.out.trans (hb2.mono HB1.out.size))
  have hz2 := (hb2.block (w.heap.size + 1) (lt_of_get HZ1.out)).trans HZ1.out
  have HZ2 := Lib.hid hz2
  have ⟨⟨z0, z1, z2, z3, z4, z5⟩, g0, g1, g2, g3, g4, g5⟩ := keep6 hz2
  have HB12 := Lib.hid hb2
  clear hb2 hz2 hfld
  rcases HI with ⟨hi, hfi⟩ | ⟨i, hi, hg, hnm⟩
  · rw [hi]
    have HFI := Lib.hid hfi
    clear hi hfi
    go_wp2_with fail
    change bodyPost _ _ _ _ _ (putL w2 (w.heap.size + 1) 0 [.string ⟨#[]⟩, .string ⟨#[]⟩, .bool false, .bool false, .int .i64 0, .int .i64 0])
    obtain ⟨hr, _, _⟩ := putL_cells (g := w.heap.size + 1) (o := 0) (l := [.string ⟨#[]⟩, .string ⟨#[]⟩, .bool false, .bool false, .int .i64 0, .int .i64 0]) HZ2.out (by simp)
    have HBF := putL_below (g := w.heap.size + 1) (B := w.heap.size) (by omega) [.string ⟨#[]⟩, .string ⟨#[]⟩, .bool false, .bool false, .int .i64 0, .int .i64 0] 0 HB2.out
    generalize putL w2 (w.heap.size + 1) 0 [.string ⟨#[]⟩, .string ⟨#[]⟩, .bool false, .bool false, .int .i64 0, .int .i64 0] = wz at *
    have ⟨x0, x1, x2, x3, x4, x5⟩ := row6z hr
    exact bodyPost_ret (v := .agg #[.string ⟨#[]⟩, .string ⟨#[]⟩, .bool false, .bool false, .int .i64 0, .int .i64 0]) (by simp [results, Tryz.results181, go_sem, x0, x1, x2, x3, x4, x5]) rfl ⟨by rw [HFI.out]; rfl, HBF⟩
  · rw [Nat.zero_add] at hi
    rw [hi]
    have hil : i < tf.length := (List.getElem?_eq_some_iff.1 hg).1
    have hli : (i : Int) < (tf.length : Int) := by omega
    obtain ⟨f, fb, off, hd, rfl, hA, hbb, hok, hc⟩ := (HF.out.below fieldLies (Nat.le_trans hB HB1.out.size) HB12.out).at hil
    obtain rfl : f = fieldIn nm tf := by rw [hg] at hd; exact (Option.some.inj hd).symm
    obtain ⟨c0, c1, c2, c3, c4, c5⟩ := row6 hc
    clear hi hg hnm hd hc hok hil
    go_wp2_with fail
    change bodyPost _ _ _ _ _ (putL w2 (w.heap.size + 1) 0 [.string (fieldIn nm tf).name, .string (fieldIn nm tf).typ, .bool (fieldIn nm tf).list, .bool (fieldIn nm tf).must, .int .i64 (fieldIn nm tf).size, .int .i64 (fieldIn nm tf).cap])
    obtain ⟨hr, _, _⟩ := putL_cells (g := w.heap.size + 1) (o := 0) (l := [.string (fieldIn nm tf).name, .string (fieldIn nm tf).typ, .bool (fieldIn nm tf).list, .bool (fieldIn nm tf).must, .int .i64 (fieldIn nm tf).size, .int .i64 (fieldIn nm tf).cap]) HZ2.out (by simp)
    have HBF := putL_below (g := w.heap.size + 1) (B := w.heap.size) (by omega) [.string (fieldIn nm tf).name, .string (fieldIn nm tf).typ, .bool (fieldIn nm tf).list, .bool (fieldIn nm tf).must, .int .i64 (fieldIn nm tf).size, .int .i64 (fieldIn nm tf).cap] 0 HB2.out
    generalize putL w2 (w.heap.size + 1) 0 [.string (fieldIn nm tf).name, .string (fieldIn nm tf).typ, .bool (fieldIn nm tf).list, .bool (fieldIn nm tf).must, .int .i64 (fieldIn nm tf).size, .int .i64 (fieldIn nm tf).cap] = wz at *
    have ⟨x0, x1, x2, x3, x4, x5⟩ := row6z hr
    exact bodyPost_ret (v := .agg #[.string (fieldIn nm tf).name, .string (fieldIn nm tf).typ, .bool (fieldIn nm tf).list, .bool (fieldIn nm tf).must, .int .i64 (fieldIn nm tf).size, .int .i64 (fieldIn nm tf).cap]) (by simp [results, Tryz.results181, go_sem, x0, x1, x2, x3, x4, x5]) rfl ⟨rfl, HBF⟩
end Go.Proofs.YtceabbbmgfeofaaGreatDoor.Rw
namespace Go.Proofs.YtceabbbmgfeofaaGreatDoor.Selss
open Go.RowKit Words
set_option linter.unusedVariables false
set_option maxRecDepth 100000
theorem emptyNo {t : ByteArray} (h : t ≠ ⟨#[]⟩) : t.toList.isEmpty = false := by
  cases hh : t.toList with
  | nil => exact absurd (hh.trans (by rw [Lib.toList_data])) (Rw.toList_ne h)
  | cons _ _ => rfl
theorem ret_v {a b : Value} (h : a = b) : Ending.returned a = .returned b := by rw [h]
theorem specComposite (w : World) (A B : Nat) (v : Value) (s : List Rw.TypeP) (t : ByteArray) (htk : OkS t) (hv : Rw.SchemaAt w A B v s) (hB : B ≤ w.heap.size) :
    Calls Tryz.prog 107 #[v, .string t] w fun e w' => e = .returned (.bool (compB s t)) ∧ Below w.heap.size w w' := by
  have C := Lib.hid (fun o => Rw.specType (w.alloc o) A B v s t htk (hv.below (C := w.heap.size) hB ((Below.refl _ _).alloc (Nat.le_refl _) o)) (Nat.le_trans hB (by simp)))
  have HA : Hid (∀ o, Below w.heap.size w (w.alloc o)) := Lib.hid fun o => (Below.refl _ _).alloc (Nat.le_refl _) o
  obtain ⟨a, ca, rfl, _, _⟩ := hv
  clear htk
  unfold compB
  generalize Rw.typeIn t s = y at *
  obtain ⟨tn, tk, tb, tf, tm⟩ := y
  simp only [Rw.TypeP.cells] at C
  go_enter Tryz.func107, Tryz.ntmps107
  go_wp2_with fail
  refine (C.out _).mono ?_
  rintro e w1 ⟨⟨ta, tca, tc, tcc, rfl, _⟩, hb1⟩
  have HB1 := Lib.hid ((HA.out _).trans (hb1.mono (HA.out _).size))
  clear hb1
  have hfld : ∀ (W : World), (Instr.field 48 (.agg #[.string tn, .int .i64 tk, .int .i64 tb, .slice ta tf.length tca, .slice tc tm.length tcc]) 1).run Tryz.prog W = .ok (.int .i64 tk) W := fun _ => rfl
  go_wp2_with fail
  all_goals go_ret
  all_goals exact ⟨ret_bool (by simp_all), HB1.out⟩
/-- What l05Field holds: the boxes of its schema, doc and field, and its result. -/
structure FieldB (w : World) (n : Nat) (sv : Value) (d0 d1 : Value) (k : Int) (key nm : ByteArray) (f : Int) (uv : Value) : Prop where
  sch : w.heap[n]? = some (.cells #[sv] 25 (0, 0))
  doc : w.heap[n + 1]? = some (.cells #[d0, d1] 29 (0, 0))
  sel : w.heap[n + 1 + 1]? = some (.cells #[.int .i64 k, .string key, .string nm, .int .i64 f, uv] 114 (0, 0))
  out : w.heap[n + 1 + 1 + 1]? = some (.cells #[.string ⟨#[]⟩, .int .i64 0] 33 (0, 0))
theorem FieldB.lt {w : World} {n : Nat} {sv d0 d1 : Value} {k : Int} {key nm : ByteArray} {f : Int} {uv : Value} (h : FieldB w n sv d0 d1 k key nm f uv) : n + 1 + 1 + 1 < w.heap.size := Rw.lt_of_get h.out
theorem FieldB.below {w w' : World} {n : Nat} {sv d0 d1 : Value} {k : Int} {key nm : ByteArray} {f : Int} {uv : Value} (h : FieldB w n sv d0 d1 k key nm f uv) {C : Nat} (hC : n + 1 + 1 + 1 < C) (g : Below C w w') : FieldB w' n sv d0 d1 k key nm f uv :=
  ⟨(g.block _ (by omega)).trans h.sch, (g.block _ (by omega)).trans h.doc, (g.block _ (by omega)).trans h.sel, (g.block _ (by omega)).trans h.out⟩
theorem FieldB.make (w : World) (sv d0 d1 : Value) (k : Int) (key nm : ByteArray) (f : Int) (uv : Value) :
    FieldB ((((w.alloc (.cells #[sv] 25)).alloc (.cells #[d0, d1] 29)).alloc (.cells #[.int .i64 k, .string key, .string nm, .int .i64 f, uv] 114)).alloc (.cells #[.string ⟨#[]⟩, .int .i64 0] 33)) w.heap.size sv d0 d1 k key nm f uv := by
  refine ⟨?_, ?_, ?_, ?_⟩
  · rw [Go.Deep.blk_alloc_lt _ _ _ (by simp <;> omega), Go.Deep.blk_alloc_lt _ _ _ (by simp <;> omega), Go.Deep.blk_alloc_lt _ _ _ (by simp)]; exact heap_alloc_new w _
  · rw [Go.Deep.blk_alloc_lt _ _ _ (by simp <;> omega), Go.Deep.blk_alloc_lt _ _ _ (by simp)]
    have := heap_alloc_new (w.alloc (.cells #[sv] 25)) (.cells #[d0, d1] 29)
    simpa using this
  · rw [Go.Deep.blk_alloc_lt _ _ _ (by simp)]
    have := heap_alloc_new ((w.alloc (.cells #[sv] 25)).alloc (.cells #[d0, d1] 29)) (.cells #[.int .i64 k, .string key, .string nm, .int .i64 f, uv] 114)
    simpa using this
  · have := heap_alloc_new (((w.alloc (.cells #[sv] 25)).alloc (.cells #[d0, d1] 29)).alloc (.cells #[.int .i64 k, .string key, .string nm, .int .i64 f, uv] 114)) (.cells #[.string ⟨#[]⟩, .int .i64 0] 33)
    simpa using this
end Go.Proofs.YtceabbbmgfeofaaGreatDoor.Selss
