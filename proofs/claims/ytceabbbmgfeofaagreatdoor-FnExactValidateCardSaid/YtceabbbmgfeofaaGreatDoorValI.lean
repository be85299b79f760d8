/-
  Contracts: impl.firstRight, checker.objects; of what was there nothing is changed. Conditions: in memory; a map of the kinds of a right schema.
-/
import Derived.Test.YtceabbbmgfeofaaGreatDoorRows
import Derived.Test.YtceabbbmgfeofaaGreatDoorKindF
import Derived.Test.YtceabbbmgfeofaaGreatDoorClone
import Derived.Test.YtceabbbmgfeofaaGreatDoorFieldP
import Derived.Test.YtceabbbmgfeofaaGreatDoorTypP
import Derived.Test.YtceabbbmgfeofaaGreatDoorRightP
import Derived.Test.YtceabbbmgfeofaaGreatDoorValR
import Derived.Test.YtceabbbmgfeofaaGreatDoorLoopJ
namespace Go.Proofs.YtceabbbmgfeofaaGreatDoor.Rw
open Go.RowKit Words Go.Maps
set_option linter.unusedVariables false
set_option maxRecDepth 100000
theorem implCopyOf (w : World) (x : FieldP) (hx : x.ok) (ht : x.tiny) :
    Calls Tryz.prog 261 #[.agg x.cells.toArray] w fun e w' => e = .returned (.agg x.cells.toArray) ∧ Below w.heap.size w w' := by
  obtain ⟨nm, tp, ls, mu, sz, cp⟩ := x
  obtain ⟨_, _, ⟨hs1, hs2⟩, hc1, hc2⟩ := hx
  obtain ⟨t1, t2⟩ := ht
  simp only [FieldP.cells] at t1 t2 hs1 hs2 hc1 hc2 ⊢
  have HA : Hid (∀ o1 o2, Below w.heap.size w ((w.alloc o1).alloc o2)) := Lib.hid fun o1 o2 => ((Below.refl _ _).alloc (Nat.le_refl _) o1).alloc (by simp) o2
  have C1 : Hid (∀ w, Calls Tryz.prog 82 #[.string nm] w fun e w' => e = .returned (.string nm) ∧ Below w.heap.size w w') := Lib.hid fun w => Clones.clone nm w (by omega)
  have C2 : Hid (∀ w, Calls Tryz.prog 82 #[.string tp] w fun e w' => e = .returned (.string tp) ∧ Below w.heap.size w w') := Lib.hid fun w => Clones.clone tp w (by omega)
  go_enter Tryz.func261, Tryz.ntmps261
  go_wp2_with fail
  refine (C1.out _).mono ?_
  rintro e w1 ⟨rfl, hb1⟩
  have HB1 := Lib.hid ((HA.out _ _).trans (hb1.mono (HA.out _ _).size))
  have hk1 : w1.heap[w.heap.size]? = some (.cells #[.string nm, .string tp, .bool ls, .bool mu, .int .i64 sz, .int .i64 cp] 50 (0, 0)) := by
    rw [hb1.block _ (by simp; omega), Go.Deep.blk_alloc_lt _ _ _ (by simp)]; exact heap_alloc_new w _
  have hz1 : w1.heap[w.heap.size + 1]? = some (.cells #[.string ⟨#[]⟩, .string ⟨#[]⟩, .bool false, .bool false, .int .i64 0, .int .i64 0] 50 (0, 0)) := by
    rw [hb1.block _ (by simp)]
    have := heap_alloc_new (w.alloc (.cells #[.string nm, .string tp, .bool ls, .bool mu, .int .i64 sz, .int .i64 cp] 50)) (.cells #[.string ⟨#[]⟩, .string ⟨#[]⟩, .bool false, .bool false, .int .i64 0, .int .i64 0] 50)
    simpa using this
  have ⟨⟨y0, y1, y2, y3, y4, y5⟩, f0, f1, f2, f3, f4, f5⟩ := keep6 hk1
  have HK2 : Hid ((w1.setCell ⟨w.heap.size, 0, none⟩ (.string nm)).heap[w.heap.size]? = some (.cells #[.string nm, .string tp, .bool ls, .bool mu, .int .i64 sz, .int .i64 cp] 50 (0, 0))) := Lib.hid (heap_setCell_same w1 _ 0 _ _ _ hk1)
  have HZ2 : Hid ((w1.setCell ⟨w.heap.size, 0, none⟩ (.string nm)).heap[w.heap.size + 1]? = _) := Lib.hid ((Go.Deep.blk_setCell_other w1 ⟨w.heap.size, 0, none⟩ (.string nm) (w.heap.size + 1) (by simp)).trans hz1)
  have HB2 := Lib.hid (HB1.out.setCell (p := ⟨w.heap.size, 0, none⟩) (by simp) (.string nm))
  clear hb1 hk1 hz1
  go_wp2_with fail
  generalize w1.setCell ⟨w.heap.size, 0, none⟩ (.string nm) = w2 at *
  clear y0 y1 y2 y3 y4 y5 f0 f1 f2 f3 f4 f5
  refine (C2.out _).mono ?_
  rintro e w3 ⟨rfl, hb3⟩
  have HB3 := Lib.hid (HB2.out.trans (hb3.mono HB2.out.size))
  have hk3 := (hb3.block w.heap.size (lt_of_get HK2.out)).trans HK2.out
  have hz3 := (hb3.block (w.heap.size + 1) (lt_of_get HZ2.out)).trans HZ2.out
  have ⟨⟨y0, y1, y2, y3, y4, y5⟩, f0, f1, f2, f3, f4, f5⟩ := keep6 hk3
  have HK4 : Hid ((w3.setCell ⟨w.heap.size, 1, none⟩ (.string tp)).heap[w.heap.size]? = some (.cells #[.string nm, .string tp, .bool ls, .bool mu, .int .i64 sz, .int .i64 cp] 50 (0, 0))) := Lib.hid (heap_setCell_same w3 _ 1 _ _ _ hk3)
  have HZ4 : Hid ((w3.setCell ⟨w.heap.size, 1, none⟩ (.string tp)).heap[w.heap.size + 1]? = _) := Lib.hid ((Go.Deep.blk_setCell_other w3 ⟨w.heap.size, 1, none⟩ (.string tp) (w.heap.size + 1) (by simp)).trans hz3)
  have HB4 := Lib.hid (HB3.out.setCell (p := ⟨w.heap.size, 1, none⟩) (by simp) (.string tp))
  have ⟨⟨z0, z1, z2, z3, z4, z5⟩, g0, g1, g2, g3, g4, g5⟩ := keep6 hz3
  clear hb3 hk3 hz3
  go_wp2_with fail
  change bodyPost _ _ _ _ _ (putL (w3.setCell ⟨w.heap.size, 1, none⟩ (.string tp)) (w.heap.size + 1) 0 [.string nm, .string tp, .bool ls, .bool mu, .int .i64 sz, .int .i64 cp])
  generalize w3.setCell ⟨w.heap.size, 1, none⟩ (.string tp) = w4 at *
  obtain ⟨hr, _, _⟩ := putL_cells (g := w.heap.size + 1) (o := 0) (l := [.string nm, .string tp, .bool ls, .bool mu, .int .i64 sz, .int .i64 cp]) HZ4.out (by simp)
  have HBF := putL_below (g := w.heap.size + 1) (B := w.heap.size) (by omega) [.string nm, .string tp, .bool ls, .bool mu, .int .i64 sz, .int .i64 cp] 0 HB4.out
  generalize putL w4 (w.heap.size + 1) 0 [.string nm, .string tp, .bool ls, .bool mu, .int .i64 sz, .int .i64 cp] = wz at *
  have ⟨x0, x1, x2, x3, x4, x5⟩ := row6z hr
  exact bodyPost_ret (v := .agg #[.string nm, .string tp, .bool ls, .bool mu, .int .i64 sz, .int .i64 cp]) (by simp [results, Tryz.results261, go_sem, x0, x1, x2, x3, x4, x5]) rfl ⟨rfl, HBF⟩
/-- Texts of at most 2^20 bytes, lists of at most 2^20. -/
theorem fieldM1 (w : World) (v : Value) (x : TypeP) (a : Option Addr) (ca : Nat) (c : Option Addr) (cc : Nat) (nm : ByteArray) :
    Calls Tryz.prog 278 #[.agg (x.cells a ca c cc).toArray, .string nm] w fun e w' => e = .returned (.agg zeroField.cells.toArray) ∧ Below w.heap.size w w' := by
  have HA : Hid (∀ o1 o2, Below w.heap.size w ((w.alloc o1).alloc o2)) := Lib.hid fun o1 o2 => ((Below.refl _ _).alloc (Nat.le_refl _) o1).alloc (by simp) o2
  simp only [TypeP.cells, FieldP.cells, zeroField]
  go_enter Tryz.func278, Tryz.ntmps278
  go_wp2_with fail
  exact bodyPost_ret (v := .agg #[.string ⟨#[]⟩, .string ⟨#[]⟩, .bool false, .bool false, .int .i64 0, .int .i64 0]) (by simp [results, Tryz.results278, go_sem]) rfl ⟨rfl, HA.out _ _⟩
theorem fieldM3 (w : World) (v : Value) (x : TypeP) (a : Option Addr) (ca : Nat) (c : Option Addr) (cc : Nat) (nm : ByteArray) :
    Calls Tryz.prog 283 #[.agg (x.cells a ca c cc).toArray, .string nm] w fun e w' => e = .returned (.agg zeroField.cells.toArray) ∧ Below w.heap.size w w' := by
  have HA : Hid (∀ o1 o2, Below w.heap.size w ((w.alloc o1).alloc o2)) := Lib.hid fun o1 o2 => ((Below.refl _ _).alloc (Nat.le_refl _) o1).alloc (by simp) o2
  simp only [TypeP.cells, FieldP.cells, zeroField]
  go_enter Tryz.func283, Tryz.ntmps283
  go_wp2_with fail
  exact bodyPost_ret (v := .agg #[.string ⟨#[]⟩, .string ⟨#[]⟩, .bool false, .bool false, .int .i64 0, .int .i64 0]) (by simp [results, Tryz.results283, go_sem]) rfl ⟨rfl, HA.out _ _⟩
set_option maxHeartbeats 2000000 in
theorem fieldM2 (w : World) (A B : Nat) (x : TypeP) (a : Option Addr) (ca : Nat) (c : Option Addr) (cc : Nat) (nm : ByteArray) (hn : OkS nm) (hx : TypeAt w A B (.agg (x.cells a ca c cc).toArray) x) (hB : B ≤ w.heap.size) (ht : ∀ f ∈ x.fields, f.tiny) :
    Calls Tryz.prog 256 #[.agg (x.cells a ca c cc).toArray, .string nm] w fun e w' => e = .returned (.agg (fieldIn nm x.fields).cells.toArray) ∧ Below w.heap.size w w' := by
  obtain ⟨a', ca', c', cc', hve, hk, ⟨h2, hca⟩, h3, hcc⟩ := hx
  obtain ⟨xn, kd, by_, fs, ms⟩ := x
  simp [TypeP.cells] at hve
  obtain ⟨⟨rfl, rfl⟩, rfl, rfl⟩ := hve
  simp only [TypeP.cells] at h2 h3 hca hcc ht ⊢
  have HF := Lib.hid h2
  have hfl := h2.2.1
  have HA : Hid (∀ o1 o2, Below w.heap.size w ((w.alloc o1).alloc o2)) := Lib.hid fun o1 o2 => ((Below.refl _ _).alloc (Nat.le_refl _) o1).alloc (by simp) o2
  have CP : Hid (∀ (w' : World), Below w.heap.size w w' → Calls Tryz.prog 260 #[.slice a fs.length ca, .string nm] w' fun e w'' => e = .returned (.int .i64 (findF nm fs 0)) ∧ Below w'.heap.size w' w'') := Lib.hid fun w' g => implPlace w' A B a _ ca fs nm hn (HF.out.below fieldLies hB g) (Nat.le_trans hB g.size)
  have HI := findF_in nm fs 0
  have HT := Lib.hid ht
  clear h2 h3 ht
  go_enter Tryz.func256, Tryz.ntmps256
  go_wp2_with fail
  refine (CP.out _ (HA.out _ _)).mono ?_
  rintro e w1 ⟨rfl, hb1⟩
  have HB1 := Lib.hid ((HA.out _ _).trans (hb1.mono (HA.out _ _).size))
  have hk1 : w1.heap[w.heap.size]? = some (.cells #[.string xn, .int .i64 kd, .int .i64 by_, .slice a fs.length ca, .slice c ms.length cc] 91 (0, 0)) := by
    rw [hb1.block _ (by simp; omega), Go.Deep.blk_alloc_lt _ _ _ (by simp)]; exact heap_alloc_new w _
  have hz1 : w1.heap[w.heap.size + 1]? = some (.cells #[.string ⟨#[]⟩, .string ⟨#[]⟩, .bool false, .bool false, .int .i64 0, .int .i64 0] 50 (0, 0)) := by
    rw [hb1.block _ (by simp)]
    have := heap_alloc_new (w.alloc (.cells #[.string xn, .int .i64 kd, .int .i64 by_, .slice a fs.length ca, .slice c ms.length cc] 91)) (.cells #[.string ⟨#[]⟩, .string ⟨#[]⟩, .bool false, .bool false, .int .i64 0, .int .i64 0] 50)
    simpa using this
  have HZ1 := Lib.hid hz1
  have ⟨⟨y0, y1, y2, y3, y4⟩, f0, f1, f2, f3, f4⟩ := keep5 hk1
  have ⟨⟨z0, z1, z2, z3, z4, z5⟩, g0, g1, g2, g3, g4, g5⟩ := keep6 hz1
  clear hb1 hk1 hz1
  rcases HI with ⟨hi, hfi⟩ | ⟨i, hi, hg, hnm⟩
  · rw [hi]
    have HFI := Lib.hid hfi
    clear hi hfi
    go_wp2_with fail
    change bodyPost _ _ _ _ _ (putL w1 (w.heap.size + 1) 0 [.string ⟨#[]⟩, .string ⟨#[]⟩, .bool false, .bool false, .int .i64 0, .int .i64 0])
    obtain ⟨hr, _, _⟩ := putL_cells (g := w.heap.size + 1) (o := 0) (l := [.string ⟨#[]⟩, .string ⟨#[]⟩, .bool false, .bool false, .int .i64 0, .int .i64 0]) HZ1.out (by simp)
    have HBF := putL_below (g := w.heap.size + 1) (B := w.heap.size) (by omega) [.string ⟨#[]⟩, .string ⟨#[]⟩, .bool false, .bool false, .int .i64 0, .int .i64 0] 0 HB1.out
    generalize putL w1 (w.heap.size + 1) 0 [.string ⟨#[]⟩, .string ⟨#[]⟩, .bool false, .bool false, .int .i64 0, .int .i64 0] = wz at *
    have ⟨x0, x1, x2, x3, x4, x5⟩ := row6z hr
    exact bodyPost_ret (v := .agg #[.string ⟨#[]⟩, .string ⟨#[]⟩, .bool false, .bool false, .int .i64 0, .int .i64 0]) (by simp [results, Tryz.results256, go_sem, x0, x1, x2, x3, x4, x5]) rfl ⟨by rw [HFI.out]; rfl, HBF⟩
  · rw [Nat.zero_add] at hi
    rw [hi]
    have hil : i < fs.length := (List.getElem?_eq_some_iff.1 hg).1
    have hli : (i : Int) < (fs.length : Int) := by omega
    obtain ⟨f, fb, off, hd, rfl, hA, hbb, hok, hc⟩ := (HF.out.below fieldLies hB HB1.out).at hil
    obtain rfl : f = fieldIn nm fs := by rw [hg] at hd; exact (Option.some.inj hd).symm
    obtain ⟨c0, c1, c2, c3, c4, c5⟩ := row6 hc
    have CC : Hid (∀ w, Calls Tryz.prog 261 #[.agg (fieldIn nm fs).cells.toArray] w fun e w' => e = .returned (.agg (fieldIn nm fs).cells.toArray) ∧ Below w.heap.size w w') := Lib.hid fun w => implCopyOf w _ hok (HT.out _ (List.mem_iff_getElem?.2 ⟨i, hg⟩))
    simp only [FieldP.cells] at CC ⊢
    have HX := Lib.hid hnm
    clear hi hg hnm hd hc hok hil
    go_wp2_with fail
    refine (CC.out _).mono ?_
    rintro e w2 ⟨rfl, hb2⟩
    have HB2 := Lib.hid (HB1.out.trans (hb2.mono HB1.out.size))
    have hz2 := (hb2.block (w.heap.size + 1) (lt_of_get HZ1.out)).trans HZ1.out
    have HZ2 := Lib.hid hz2
    clear z0 z1 z2 z3 z4 z5 g0 g1 g2 g3 g4 g5
    have ⟨⟨z0, z1, z2, z3, z4, z5⟩, g0, g1, g2, g3, g4, g5⟩ := keep6 hz2
    clear hb2 hz2
    go_wp2_with fail
    change bodyPost _ _ _ _ _ (putL w2 (w.heap.size + 1) 0 [.string (fieldIn nm fs).name, .string (fieldIn nm fs).typ, .bool (fieldIn nm fs).list, .bool (fieldIn nm fs).must, .int .i64 (fieldIn nm fs).size, .int .i64 (fieldIn nm fs).cap])
    obtain ⟨hr, _, _⟩ := putL_cells (g := w.heap.size + 1) (o := 0) (l := [.string (fieldIn nm fs).name, .string (fieldIn nm fs).typ, .bool (fieldIn nm fs).list, .bool (fieldIn nm fs).must, .int .i64 (fieldIn nm fs).size, .int .i64 (fieldIn nm fs).cap]) HZ2.out (by simp)
    have HBF := putL_below (g := w.heap.size + 1) (B := w.heap.size) (by omega) [.string (fieldIn nm fs).name, .string (fieldIn nm fs).typ, .bool (fieldIn nm fs).list, .bool (fieldIn nm fs).must, .int .i64 (fieldIn nm fs).size, .int .i64 (fieldIn nm fs).cap] 0 HB2.out
    generalize putL w2 (w.heap.size + 1) 0 [.string (fieldIn nm fs).name, .string (fieldIn nm fs).typ, .bool (fieldIn nm fs).list, .bool (fieldIn nm fs).must, .int .i64 (fieldIn nm fs).size, .int .i64 (fieldIn nm fs).cap] = wz at *
    have ⟨x0, x1, x2, x3, x4, x5⟩ := row6z hr
    exact bodyPost_ret (v := .agg #[.string (fieldIn nm fs).name, .string (fieldIn nm fs).typ, .bool (fieldIn nm fs).list, .bool (fieldIn nm fs).must, .int .i64 (fieldIn nm fs).size, .int .i64 (fieldIn nm fs).cap]) (by simp [results, Tryz.results256, go_sem, x0, x1, x2, x3, x4, x5]) rfl ⟨rfl, HBF⟩
theorem mField1 (v : Value) (W : World) : (method 475 234 v "loop.example/g00836/impl.field").run Tryz.prog W = .ok (278, v) W := by kernel_rfl
theorem mField2 (v : Value) (W : World) : (method 475 91 v "loop.example/g00836/impl.field").run Tryz.prog W = .ok (256, v) W := by kernel_rfl
theorem mField3 (v : Value) (W : World) : (method 475 235 v "loop.example/g00836/impl.field").run Tryz.prog W = .ok (283, v) W := by kernel_rfl
end Go.Proofs.YtceabbbmgfeofaaGreatDoor.Rw
namespace Go.Proofs.YtceabbbmgfeofaaGreatDoor.Selss
open Go.RowKit Words Go.Maps
set_option linter.unusedVariables false
set_option maxRecDepth 100000
/-- What a checker holds lies in memory: the kinds of s in the map of block b, and the Frags. -/
structure Chk (w : World) (B : Nat) (s : List Rw.TypeP) (fr : List FragP) (b n : Nat) (D : DataW Value) (fa : Option Addr) : Prop where
  kd : Rw.KD w 0 B s D
  own : Rw.OwnK w b n D
  frg : FragsAt w 0 B fa fr.length fr
theorem Chk.below {w w' : World} {B : Nat} {s : List Rw.TypeP} {fr : List FragP} {b n : Nat} {D : DataW Value} {fa : Option Addr} (h : Chk w B s fr b n D fa) {C : Nat} (hB : B ≤ C) (hb : b < C) (g : Below C w w') : Chk w' B s fr b n D fa :=
  ⟨h.kd.below hB g, Rw.World.ownsMap.same h.own (g.block b hb), h.frg.below hB g⟩
theorem Chk.next {w w' : World} {B : Nat} {s : List Rw.TypeP} {fr : List FragP} {b n : Nat} {D : DataW Value} {fa : Option Addr} (h : Chk w B s fr b n D fa) (hB : B ≤ w.heap.size) (g : Below w.heap.size w w') : Chk w' B s fr b n D fa :=
  h.below hB h.own.lt g
theorem implFirstRight (w : World) (f : Rw.FieldP) (n : Int) (hf : f.ok) (hn : OkI n) (h0 : 0 ≤ f.cap) :
    Calls Tryz.prog 195 #[.agg f.cells.toArray, .int .i64 n] w fun e w' => e = .returned (.bool (!firstBad f n)) ∧ Below w.heap.size w w' := by
  obtain ⟨nm, tp, ls, mu, sz, cp⟩ := f
  obtain ⟨_, _, ⟨hs1, hs2⟩, hc1, hc2⟩ := hf
  obtain ⟨hn1, hn2⟩ := hn
  simp only [Rw.FieldP.cells] at hs1 hs2 hc1 hc2 h0 ⊢
  have HA : Hid (∀ o, Below w.heap.size w (w.alloc o)) := Lib.hid fun o => (Below.refl _ _).alloc (Nat.le_refl _) o
  by_cases p0 : cp = 0
  · subst p0
    obtain ⟨e1, he1⟩ : ∃ p, (n == -1) = p := ⟨_, rfl⟩
    have hf := Lib.hid (show firstBad ⟨nm, tp, ls, mu, sz, 0⟩ n = !e1 by unfold firstBad; simp only [he1]; simp)
    go_enter Tryz.func195, Tryz.ntmps195
    go_wp2_with fail
    go_ret
    exact ⟨ret_bool (by rw [hf.out]; simp), HA.out _⟩
  · have q0 : (cp == 0) = false := by rw [beq_eq_false_iff_ne]; exact p0
    have hf := Lib.hid (show firstBad ⟨nm, tp, ls, mu, sz, cp⟩ n = !(decide (0 ≤ n) && decide (n ≤ cp)) by unfold firstBad; simp only [q0]; simp; omega)
    by_cases p1 : 0 ≤ n
    · have hf2 := Lib.hid (show (!firstBad ⟨nm, tp, ls, mu, sz, cp⟩ n) = decide (n ≤ cp) by rw [hf.out]; simp [p1])
      go_enter Tryz.func195, Tryz.ntmps195
      go_wp2_with fail
      go_ret
      exact ⟨ret_bool hf2.out.symm, HA.out _⟩
    · have p1b : decide (0 ≤ n) = false := decide_eq_false p1
      have hf2 := Lib.hid (show (!firstBad ⟨nm, tp, ls, mu, sz, cp⟩ n) = false by rw [hf.out]; simp [p1])
      go_enter Tryz.func195, Tryz.ntmps195
      go_wp2_with fail
      go_ret
      exact ⟨ret_bool hf2.out.symm, HA.out _⟩
theorem asOneObj (v : Value) (W : World) : (Instr.typeAssert (.iface 91 v) 94 235 true).run Tryz.prog W = .ok (.tuple #[.agg #[.string ⟨#[]⟩, .int .i64 0, .int .i64 0, .slice none 0 0, .slice none 0 0], .bool false]) W := by kernel_rfl
theorem asOneLeaf (v : Value) (W : World) : (Instr.typeAssert (.iface 234 v) 94 235 true).run Tryz.prog W = .ok (.tuple #[.agg #[.string ⟨#[]⟩, .int .i64 0, .int .i64 0, .slice none 0 0, .slice none 0 0], .bool false]) W := by kernel_rfl
theorem asOneOne (v : Value) (W : World) : (Instr.typeAssert (.iface 235 v) 94 235 true).run Tryz.prog W = .ok (.tuple #[v, .bool true]) W := by kernel_rfl
theorem asOneNil (W : World) : (Instr.typeAssert .nilIface 94 235 true).run Tryz.prog W = .ok (.tuple #[.agg #[.string ⟨#[]⟩, .int .i64 0, .int .i64 0, .slice none 0 0, .slice none 0 0], .bool false]) W := by kernel_rfl
theorem implObjects (w : World) (B : Nat) (s : List Rw.TypeP) (fr : List FragP) (b n : Nat) (D : DataW Value) (fa : Option Addr) (fc : Nat) (nm : ByteArray) (hn : OkS nm) (hc : Chk w B s fr b n D fa) (hB : B ≤ w.heap.size) :
    Calls Tryz.prog 134 #[.agg #[.map (some b), .slice fa fr.length fc], .string nm] w fun e w' => e = .returned (.bool (compB s nm)) ∧ Below w.heap.size w w' := by
  have HA : Hid (∀ o, Below w.heap.size w (w.alloc o)) := Lib.hid fun o => (Below.refl _ _).alloc (Nat.le_refl _) o
  have hc1 := hc.next hB (HA.out (.cells #[.map (some b), .slice fa fr.length fc] 150))
  obtain ⟨lv, hrun, h1, h2⟩ := hc1.kd.look hc1.own nm hn
  cases hf : Rw.freshB nm s with
  | true =>
    obtain rfl := h1 hf
    have HC : Hid (compB s nm = false) := Lib.hid (by unfold compB; rw [Rw.typeIn_zero hf]; rfl)
    have a1 := Rw.asNil
    have a2 := asOneNil
    clear h1 h2 hc hc1 hf
    go_enter Tryz.func134, Tryz.ntmps134
    go_wp2_with fail
    go_ret
    exact ⟨ret_bool HC.out.symm, HA.out _⟩
  | false =>
    obtain ⟨hk, a, ca, c, cc, rfl, _⟩ := h2 hf
    have hkc : compB s nm = ((Rw.typeIn nm s).kind == 2 || (Rw.typeIn nm s).kind == 3) := rfl
    clear h1 h2 hc hc1 hf
    generalize (Rw.typeIn nm s).cells a ca c cc = cl at *
    generalize (Rw.typeIn nm s).kind = k at *
    generalize cl.toArray = ca at *
    rcases hk with rfl | rfl | rfl
    · have HC : Hid (compB s nm = false) := Lib.hid (by rw [hkc]; rfl)
      rw [show Rw.kindT 1 = 234 from rfl] at hrun
      have a1 := Rw.asLeaf
      have a2 := asOneLeaf
      clear hkc
      go_enter Tryz.func134, Tryz.ntmps134
      go_wp2_with fail
      go_ret
      exact ⟨ret_bool HC.out.symm, HA.out _⟩
    · have HC : Hid (compB s nm = true) := Lib.hid (by rw [hkc]; rfl)
      rw [show Rw.kindT 2 = 91 from rfl] at hrun
      have a1 := Rw.asObj
      have a2 := asOneObj
      clear hkc
      go_enter Tryz.func134, Tryz.ntmps134
      go_wp2_with fail
      go_ret
      exact ⟨ret_bool HC.out.symm, HA.out _⟩
    · have HC : Hid (compB s nm = true) := Lib.hid (by rw [hkc]; rfl)
      rw [show Rw.kindT 3 = 235 from rfl] at hrun
      have a1 := Rw.asOne
      have a2 := asOneOne
      clear hkc
      go_enter Tryz.func134, Tryz.ntmps134
      go_wp2_with fail
      go_ret
      exact ⟨ret_bool HC.out.symm, HA.out _⟩
end Go.Proofs.YtceabbbmgfeofaaGreatDoor.Selss
