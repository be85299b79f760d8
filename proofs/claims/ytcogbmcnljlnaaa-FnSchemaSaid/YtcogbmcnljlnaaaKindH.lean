/-
  Contracts: the kinds' field, impl.FieldOf; of what was there nothing is changed. Conditions: in memory, texts of at most 2^20 bytes.
-/
import Derived.Test.YtcogbmcnljlnaaaRows
import Derived.Test.YtcogbmcnljlnaaaKindG
import Derived.Test.YtcogbmcnljlnaaaRightP
namespace Go.Proofs.Ytcogbmcnljlnaaa.Rw
open Go.RowKit Words Go.Maps
set_option linter.unusedVariables false
set_option maxRecDepth 100000

/-- Texts of at most 2^20 bytes, lists of at most 2^20. -/
theorem tiny_at {s : List TypeP} (h : schWt s ≤ 1048576) {x : TypeP} (hx : x ∈ s) : x.name.size ≤ 1048576 ∧ x.fields.length ≤ 1048576 ∧ x.members.length ≤ 1048576 ∧ (∀ f ∈ x.fields, f.tiny) ∧ ∀ m ∈ x.members, m.size ≤ 1048576 := by
  unfold schWt at h
  obtain ⟨i, hi⟩ := List.mem_iff_getElem?.1 hx
  have h1 := sumOf_mem (f := TypeP.wt) hi
  have e : TypeP.wt x = x.name.size + (x.fields.length + sumOf FieldP.wt x.fields) + (x.members.length + sumOf ByteArray.size x.members) := rfl
  refine ⟨by omega, by omega, by omega, fun f hf => ?_, fun m hm => ?_⟩
  · obtain ⟨j, hj⟩ := List.mem_iff_getElem?.1 hf
    have h2 := sumOf_mem (f := FieldP.wt) hj
    have e2 : FieldP.wt f = f.name.size + f.typ.size := rfl
    exact ⟨by omega, by omega⟩
  · obtain ⟨j, hj⟩ := List.mem_iff_getElem?.1 hm
    have h2 := sumOf_mem (f := ByteArray.size) hj
    omega
theorem fieldM1 (w : World) (v : Value) (x : TypeP) (a : Option Addr) (ca : Nat) (c : Option Addr) (cc : Nat) (nm : ByteArray) :
    Calls Try.prog 99 #[.agg (x.cells a ca c cc).toArray, .string nm] w fun e w' => e = .returned (.agg zeroField.cells.toArray) ∧ Below w.heap.size w w' := by
  have HA : Hid (∀ o1 o2, Below w.heap.size w ((w.alloc o1).alloc o2)) := Lib.hid fun o1 o2 => ((Below.refl _ _).alloc (Nat.le_refl _) o1).alloc (by simp) o2
  simp only [TypeP.cells, FieldP.cells, zeroField]
  go_enter Try.func99, Try.ntmps99
  go_wp2_with fail
  exact bodyPost_ret (v := .agg #[.string ⟨#[]⟩, .string ⟨#[]⟩, .bool false, .bool false, .int .i64 0, .int .i64 0]) (by simp [results, Try.results99, go_sem]) rfl ⟨rfl, HA.out _ _⟩
theorem fieldM3 (w : World) (v : Value) (x : TypeP) (a : Option Addr) (ca : Nat) (c : Option Addr) (cc : Nat) (nm : ByteArray) :
    Calls Try.prog 117 #[.agg (x.cells a ca c cc).toArray, .string nm] w fun e w' => e = .returned (.agg zeroField.cells.toArray) ∧ Below w.heap.size w w' := by
  have HA : Hid (∀ o1 o2, Below w.heap.size w ((w.alloc o1).alloc o2)) := Lib.hid fun o1 o2 => ((Below.refl _ _).alloc (Nat.le_refl _) o1).alloc (by simp) o2
  simp only [TypeP.cells, FieldP.cells, zeroField]
  go_enter Try.func117, Try.ntmps117
  go_wp2_with fail
  exact bodyPost_ret (v := .agg #[.string ⟨#[]⟩, .string ⟨#[]⟩, .bool false, .bool false, .int .i64 0, .int .i64 0]) (by simp [results, Try.results117, go_sem]) rfl ⟨rfl, HA.out _ _⟩

set_option maxHeartbeats 2000000 in
theorem fieldM2 (w : World) (A B : Nat) (x : TypeP) (a : Option Addr) (ca : Nat) (c : Option Addr) (cc : Nat) (nm : ByteArray) (hn : OkS nm) (hx : TypeAt w A B (.agg (x.cells a ca c cc).toArray) x) (hB : B ≤ w.heap.size) (ht : ∀ f ∈ x.fields, f.tiny) :
    Calls Try.prog 106 #[.agg (x.cells a ca c cc).toArray, .string nm] w fun e w' => e = .returned (.agg (fieldIn nm x.fields).cells.toArray) ∧ Below w.heap.size w w' := by
  obtain ⟨a', ca', c', cc', hve, hk, ⟨h2, hca⟩, h3, hcc⟩ := hx
  obtain ⟨xn, kd, by_, fs, ms⟩ := x
  simp [TypeP.cells] at hve
  obtain ⟨⟨rfl, rfl⟩, rfl, rfl⟩ := hve
  simp only [TypeP.cells] at h2 h3 hca hcc ht ⊢
  have HF := Lib.hid h2
  have hfl := h2.2.1
  have HA : Hid (∀ o1 o2, Below w.heap.size w ((w.alloc o1).alloc o2)) := Lib.hid fun o1 o2 => ((Below.refl _ _).alloc (Nat.le_refl _) o1).alloc (by simp) o2
  have CP : Hid (∀ (w' : World), Below w.heap.size w w' → Calls Try.prog 111 #[.slice a fs.length ca, .string nm] w' fun e w'' => e = .returned (.int .i64 (findF nm fs 0)) ∧ Below w'.heap.size w' w'') := Lib.hid fun w' g => implPlace w' A B a _ ca fs nm hn (HF.out.below fieldLies hB g) (Nat.le_trans hB g.size)
  have HI := findF_in nm fs 0
  have HT := Lib.hid ht
  clear h2 h3 ht
  go_enter Try.func106, Try.ntmps106
  go_wp2_with fail
  refine (CP.out _ (HA.out _ _)).mono ?_
  rintro e w1 ⟨rfl, hb1⟩
  have HB1 := Lib.hid ((HA.out _ _).trans (hb1.mono (HA.out _ _).size))
  have hk1 : w1.heap[w.heap.size]? = some (.cells #[.string xn, .int .i64 kd, .int .i64 by_, .slice a fs.length ca, .slice c ms.length cc] 134 (0, 0)) := by
    rw [hb1.block _ (by simp; omega), Go.Deep.blk_alloc_lt _ _ _ (by simp)]; exact heap_alloc_new w _
  have hz1 : w1.heap[w.heap.size + 1]? = some (.cells #[.string ⟨#[]⟩, .string ⟨#[]⟩, .bool false, .bool false, .int .i64 0, .int .i64 0] 31 (0, 0)) := by
    rw [hb1.block _ (by simp)]
    have := heap_alloc_new (w.alloc (.cells #[.string xn, .int .i64 kd, .int .i64 by_, .slice a fs.length ca, .slice c ms.length cc] 134)) (.cells #[.string ⟨#[]⟩, .string ⟨#[]⟩, .bool false, .bool false, .int .i64 0, .int .i64 0] 31)
    simpa using this
  have HZ1 := Lib.hid hz1
  have ⟨⟨y0, y1, y2, y3, y4⟩, f0, f1, f2, f3, f4⟩ := keep5 hk1
  have ⟨⟨z0, z1, z2, z3, z4, z5⟩, g0, g1, g2, g3, g4, g5⟩ := keep6 hz1
  clear hb1 hk1 hz1
  rcases HI with ⟨hi, hfi⟩ | ⟨i, hi, hg, hnm⟩
  · rw [hi]
    have HFI := Lib.hid hfi
    clear hi hfi
    go_wp2_with fail
    change bodyPost _ _ _ _ _ (putL w1 (w.heap.size + 1) 0 [.string ⟨#[]⟩, .string ⟨#[]⟩, .bool false, .bool false, .int .i64 0, .int .i64 0])
    obtain ⟨hr, _, _⟩ := putL_cells (g := w.heap.size + 1) (o := 0) (l := [.string ⟨#[]⟩, .string ⟨#[]⟩, .bool false, .bool false, .int .i64 0, .int .i64 0]) HZ1.out (by simp)
    have HBF := putL_below (g := w.heap.size + 1) (B := w.heap.size) (by omega) [.string ⟨#[]⟩, .string ⟨#[]⟩, .bool false, .bool false, .int .i64 0, .int .i64 0] 0 HB1.out
    generalize putL w1 (w.heap.size + 1) 0 [.string ⟨#[]⟩, .string ⟨#[]⟩, .bool false, .bool false, .int .i64 0, .int .i64 0] = wz at *
    have ⟨x0, x1, x2, x3, x4, x5⟩ := row6z hr
    exact bodyPost_ret (v := .agg #[.string ⟨#[]⟩, .string ⟨#[]⟩, .bool false, .bool false, .int .i64 0, .int .i64 0]) (by simp [results, Try.results106, go_sem, x0, x1, x2, x3, x4, x5]) rfl ⟨by rw [HFI.out]; rfl, HBF⟩
  · rw [Nat.zero_add] at hi
    rw [hi]
    have hil : i < fs.length := (List.getElem?_eq_some_iff.1 hg).1
    have hli : (i : Int) < (fs.length : Int) := by omega
    obtain ⟨f, fb, off, hd, rfl, hA, hbb, hok, hc⟩ := (HF.out.below fieldLies hB HB1.out).at hil
    obtain rfl : f = fieldIn nm fs := by rw [hg] at hd; exact (Option.some.inj hd).symm
    obtain ⟨c0, c1, c2, c3, c4, c5⟩ := row6 hc
    have CC : Hid (∀ w, Calls Try.prog 112 #[.agg (fieldIn nm fs).cells.toArray] w fun e w' => e = .returned (.agg (fieldIn nm fs).cells.toArray) ∧ Below w.heap.size w w') := Lib.hid fun w => implCopyOf w _ hok (HT.out _ (List.mem_iff_getElem?.2 ⟨i, hg⟩))
    simp only [FieldP.cells] at CC ⊢
    have HX := Lib.hid hnm
    clear hi hg hnm hd hc hok hil
    go_wp2_with fail
    refine (CC.out _).mono ?_
    rintro e w2 ⟨rfl, hb2⟩
    have HB2 := Lib.hid (HB1.out.trans (hb2.mono HB1.out.size))
    have hz2 := (hb2.block (w.heap.size + 1) (lt_of_get HZ1.out)).trans HZ1.out
    have HZ2 := Lib.hid hz2
    clear z0 z1 z2 z3 z4 z5 g0 g1 g2 g3 g4 g5
    have ⟨⟨z0, z1, z2, z3, z4, z5⟩, g0, g1, g2, g3, g4, g5⟩ := keep6 hz2
    clear hb2 hz2
    go_wp2_with fail
    change bodyPost _ _ _ _ _ (putL w2 (w.heap.size + 1) 0 [.string (fieldIn nm fs).name, .string (fieldIn nm fs).typ, .bool (fieldIn nm fs).list, .bool (fieldIn nm fs).must, .int .i64 (fieldIn nm fs).size, .int .i64 (fieldIn nm fs).cap])
    obtain ⟨hr, _, _⟩ := putL_cells (g := w.heap.size + 1) (o := 0) (l := [.string (fieldIn nm fs).name, .string (fieldIn nm fs).typ, .bool (fieldIn nm fs).list, .bool (fieldIn nm fs).must, .int .i64 (fieldIn nm fs).size, .int .i64 (fieldIn nm fs).cap]) HZ2.out (by simp)
    have HBF := putL_below (g := w.heap.size + 1) (B := w.heap.size) (by omega) [.string (fieldIn nm fs).name, .string (fieldIn nm fs).typ, .bool (fieldIn nm fs).list, .bool (fieldIn nm fs).must, .int .i64 (fieldIn nm fs).size, .int .i64 (fieldIn nm fs).cap] 0 HB2.out
    generalize putL w2 (w.heap.size + 1) 0 [.string (fieldIn nm fs).name, .string (fieldIn nm fs).typ, .bool (fieldIn nm fs).list, .bool (fieldIn nm fs).must, .int .i64 (fieldIn nm fs).size, .int .i64 (fieldIn nm fs).cap] = wz at *
    have ⟨x0, x1, x2, x3, x4, x5⟩ := row6z hr
    exact bodyPost_ret (v := .agg #[.string (fieldIn nm fs).name, .string (fieldIn nm fs).typ, .bool (fieldIn nm fs).list, .bool (fieldIn nm fs).must, .int .i64 (fieldIn nm fs).size, .int .i64 (fieldIn nm fs).cap]) (by simp [results, Try.results106, go_sem, x0, x1, x2, x3, x4, x5]) rfl ⟨rfl, HBF⟩
end Go.Proofs.Ytcogbmcnljlnaaa.Rw
