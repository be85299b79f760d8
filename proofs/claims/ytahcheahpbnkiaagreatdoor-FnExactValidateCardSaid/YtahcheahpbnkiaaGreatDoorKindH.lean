/-
  Contracts: impl.kindNamed, copyOf, the kinds' field, FieldOf; of what was there nothing is changed. Conditions: in memory, texts of at most 2^20 bytes.
-/
/-
  Contracts: the kinds' field, impl.FieldOf; of what was there nothing is changed. Conditions: in memory, texts of at most 2^20 bytes.
-/
import Derived.Test.YtahcheahpbnkiaaGreatDoorRows
import Derived.Test.YtahcheahpbnkiaaGreatDoorKindF
import Derived.Test.YtahcheahpbnkiaaGreatDoorClone
import Derived.Test.YtahcheahpbnkiaaGreatDoorFieldP
import Derived.Test.YtahcheahpbnkiaaGreatDoorRightP
namespace Go.Proofs.YtahcheahpbnkiaaGreatDoor.Rw
open Go.RowKit Words Go.Maps
set_option linter.unusedVariables false
set_option maxRecDepth 100000

/-- What a look-up by name tells. -/
def NamedOut (A B : Nat) (s : List TypeP) (nm : ByteArray) (e : Ending) (w' : World) : Prop :=
  ((schemaB s && !freshB nm s) = true ∧ ∃ v, e = .returned (.tuple #[v, .bool true]) ∧ KindV w' A B v (typeIn nm s)) ∨ ((schemaB s && !freshB nm s) = false ∧ e = .returned (.tuple #[.nilIface, .bool false]))
theorem lookNil (nm : ByteArray) (hn : OkS nm) (w : World) : (Instr.lookup 107 (.map none) (.string nm) true).run Tryz.prog w = .ok (.tuple #[.nilIface, .bool false]) w := by
  have := Maps.look_nil (P := Tryz.prog) (w := w) true lawS Tryz.underlying107 (zeroK w) (WideMaps.keyOf_string_mk (s := nm) Tryz.underlying9 (by unfold maxLen; exact hn))
  exact this
theorem implKindNamed (w : World) (A B : Nat) (v : Value) (s : List TypeP) (nm : ByteArray) (hn : OkS nm) (hv : SchemaAt w A B v s) (hB : B ≤ w.heap.size) :
    Calls Tryz.prog 106 #[v, .string nm] w fun e w' => NamedOut A B s nm e w' ∧ Below w.heap.size w w' := by
  have C := Lib.hid (fun o => implKindsOf (w.alloc o) A B v s (hv.below (C := w.heap.size) hB ((Below.refl _ _).alloc (Nat.le_refl _) o)) (Nat.le_trans hB (by simp)))
  have HA : Hid (∀ o1, Below w.heap.size w (w.alloc o1)) := Lib.hid fun o1 => (Below.refl _ _).alloc (Nat.le_refl _) o1
  have HN := Lib.hid hn
  obtain ⟨a, ca, rfl, _, _⟩ := hv
  clear hn
  go_enter Tryz.func106, Tryz.ntmps106
  go_wp2_with fail
  refine (C.out _).mono ?_
  rintro e w1 ⟨ho, hb1⟩
  have HB1 := Lib.hid ((HA.out _).trans (hb1.mono (HA.out _).size))
  clear hb1
  rcases ho with ⟨hk, b, n, D, rfl, hD, hO⟩ | ⟨hk, rfl⟩
  · rw [kindsB_eq] at hk
    obtain ⟨lv, hrun, h1, h2⟩ := hD.look_ok hO nm HN.out
    cases hf : freshB nm s with
    | true =>
      obtain rfl := h1 hf
      rw [hf] at hrun
      have HK : Hid ((schemaB s && !freshB nm s) = false) := Lib.hid (by rw [hf, hk]; rfl)
      clear h1 h2 hD hO hk hf
      simp only [Bool.not_true] at hrun
      go_wp2_with fail
      go_ret2
      exact ⟨.inr ⟨HK.out, rfl⟩, HB1.out⟩
    | false =>
      have HV := Lib.hid (h2 hf)
      rw [hf] at hrun
      have HK : Hid ((schemaB s && !freshB nm s) = true) := Lib.hid (by rw [hf, hk]; rfl)
      clear h1 h2 hD hO hk hf
      simp only [Bool.not_false] at hrun
      go_wp2_with fail
      go_ret2
      exact ⟨.inl ⟨HK.out, lv, rfl, HV.out⟩, HB1.out⟩
  · rw [kindsB_eq] at hk
    have HK : Hid ((schemaB s && !freshB nm s) = false) := Lib.hid (by rw [hk]; rfl)
    have hrun := lookNil nm HN.out w1
    clear hk
    go_wp2_with fail
    go_ret2
    exact ⟨.inr ⟨HK.out, rfl⟩, HB1.out⟩

theorem implCopyOf (w : World) (x : FieldP) (hx : x.ok) (ht : x.tiny) :
    Calls Tryz.prog 299 #[.agg x.cells.toArray] w fun e w' => e = .returned (.agg x.cells.toArray) ∧ Below w.heap.size w w' := by
  obtain ⟨nm, tp, ls, mu, sz, cp⟩ := x
  obtain ⟨_, _, ⟨hs1, hs2⟩, hc1, hc2⟩ := hx
  obtain ⟨t1, t2⟩ := ht
  simp only [FieldP.cells] at t1 t2 hs1 hs2 hc1 hc2 ⊢
  have HA : Hid (∀ o1 o2, Below w.heap.size w ((w.alloc o1).alloc o2)) := Lib.hid fun o1 o2 => ((Below.refl _ _).alloc (Nat.le_refl _) o1).alloc (by simp) o2
  have C1 : Hid (∀ w, Calls Tryz.prog 125 #[.string nm] w fun e w' => e = .returned (.string nm) ∧ Below w.heap.size w w') := Lib.hid fun w => Clones.clone nm w (by omega)
  have C2 : Hid (∀ w, Calls Tryz.prog 125 #[.string tp] w fun e w' => e = .returned (.string tp) ∧ Below w.heap.size w w') := Lib.hid fun w => Clones.clone tp w (by omega)
  go_enter Tryz.func299, Tryz.ntmps299
  go_wp2_with fail
  refine (C1.out _).mono ?_
  rintro e w1 ⟨rfl, hb1⟩
  have HB1 := Lib.hid ((HA.out _ _).trans (hb1.mono (HA.out _ _).size))
  have hk1 : w1.heap[w.heap.size]? = some (.cells #[.string nm, .string tp, .bool ls, .bool mu, .int .i64 sz, .int .i64 cp] 67 (0, 0)) := by
    rw [hb1.block _ (by simp; omega), Go.Deep.blk_alloc_lt _ _ _ (by simp)]; exact heap_alloc_new w _
  have hz1 : w1.heap[w.heap.size + 1]? = some (.cells #[.string ⟨#[]⟩, .string ⟨#[]⟩, .bool false, .bool false, .int .i64 0, .int .i64 0] 67 (0, 0)) := by
    rw [hb1.block _ (by simp)]
    have := heap_alloc_new (w.alloc (.cells #[.string nm, .string tp, .bool ls, .bool mu, .int .i64 sz, .int .i64 cp] 67)) (.cells #[.string ⟨#[]⟩, .string ⟨#[]⟩, .bool false, .bool false, .int .i64 0, .int .i64 0] 67)
    simpa using this
  have ⟨⟨y0, y1, y2, y3, y4, y5⟩, f0, f1, f2, f3, f4, f5⟩ := keep6 hk1
  have HK2 : Hid ((w1.setCell ⟨w.heap.size, 0, none⟩ (.string nm)).heap[w.heap.size]? = some (.cells #[.string nm, .string tp, .bool ls, .bool mu, .int .i64 sz, .int .i64 cp] 67 (0, 0))) := Lib.hid (heap_setCell_same w1 _ 0 _ _ _ hk1)
  have HZ2 : Hid ((w1.setCell ⟨w.heap.size, 0, none⟩ (.string nm)).heap[w.heap.size + 1]? = _) := Lib.hid ((Go.Deep.blk_setCell_other w1 ⟨w.heap.size, 0, none⟩ (.string nm) (w.heap.size + 1) (by simp)).trans hz1)
  have HB2 := Lib.hid (HB1.out.setCell (p := ⟨w.heap.size, 0, none⟩) (by simp) (.string nm))
  clear hb1 hk1 hz1
  go_wp2_with fail
  generalize w1.setCell ⟨w.heap.size, 0, none⟩ (.string nm) = w2 at *
  clear y0 y1 y2 y3 y4 y5 f0 f1 f2 f3 f4 f5
  refine (C2.out _).mono ?_
  rintro e w3 ⟨rfl, hb3⟩
  have HB3 := Lib.hid (HB2.out.trans (hb3.mono HB2.out.size))
  have hk3 := (hb3.block w.heap.size (lt_of_get HK2.out)).trans HK2.out
  have hz3 := (hb3.block (w.heap.size + 1) (lt_of_get HZ2.out)).trans HZ2.out
  have ⟨⟨y0, y1, y2, y3, y4, y5⟩, f0, f1, f2, f3, f4, f5⟩ := keep6 hk3
  have HK4 : Hid ((w3.setCell ⟨w.heap.size, 1, none⟩ (.string tp)).heap[w.heap.size]? = some (.cells #[.string nm, .string tp, .bool ls, .bool mu, .int .i64 sz, .int .i64 cp] 67 (0, 0))) := Lib.hid (heap_setCell_same w3 _ 1 _ _ _ hk3)
  have HZ4 : Hid ((w3.setCell ⟨w.heap.size, 1, none⟩ (.string tp)).heap[w.heap.size + 1]? = _) := Lib.hid ((Go.Deep.blk_setCell_other w3 ⟨w.heap.size, 1, none⟩ (.string tp) (w.heap.size + 1) (by simp)).trans hz3)
  have HB4 := Lib.hid (HB3.out.setCell (p := ⟨w.heap.size, 1, none⟩) (by simp) (.string tp))
  have ⟨⟨z0, z1, z2, z3, z4, z5⟩, g0, g1, g2, g3, g4, g5⟩ := keep6 hz3
  clear hb3 hk3 hz3
  go_wp2_with fail
  change bodyPost _ _ _ _ _ (putL (w3.setCell ⟨w.heap.size, 1, none⟩ (.string tp)) (w.heap.size + 1) 0 [.string nm, .string tp, .bool ls, .bool mu, .int .i64 sz, .int .i64 cp])
  generalize w3.setCell ⟨w.heap.size, 1, none⟩ (.string tp) = w4 at *
  obtain ⟨hr, _, _⟩ := putL_cells (g := w.heap.size + 1) (o := 0) (l := [.string nm, .string tp, .bool ls, .bool mu, .int .i64 sz, .int .i64 cp]) HZ4.out (by simp)
  have HBF := putL_below (g := w.heap.size + 1) (B := w.heap.size) (by omega) [.string nm, .string tp, .bool ls, .bool mu, .int .i64 sz, .int .i64 cp] 0 HB4.out
  generalize putL w4 (w.heap.size + 1) 0 [.string nm, .string tp, .bool ls, .bool mu, .int .i64 sz, .int .i64 cp] = wz at *
  have ⟨x0, x1, x2, x3, x4, x5⟩ := row6z hr
  exact bodyPost_ret (v := .agg #[.string nm, .string tp, .bool ls, .bool mu, .int .i64 sz, .int .i64 cp]) (by simp [results, Tryz.results299, go_sem, x0, x1, x2, x3, x4, x5]) rfl ⟨rfl, HBF⟩
end Go.Proofs.YtahcheahpbnkiaaGreatDoor.Rw

namespace Go.Proofs.YtahcheahpbnkiaaGreatDoor.Rw
open Go.RowKit Words Go.Maps
set_option linter.unusedVariables false
set_option maxRecDepth 100000

/-- Texts of at most 2^20 bytes, lists of at most 2^20. -/
theorem tiny_at {s : List TypeP} (h : schWt s ≤ 1048576) {x : TypeP} (hx : x ∈ s) : x.name.size ≤ 1048576 ∧ x.fields.length ≤ 1048576 ∧ x.members.length ≤ 1048576 ∧ (∀ f ∈ x.fields, f.tiny) ∧ ∀ m ∈ x.members, m.size ≤ 1048576 := by
  unfold schWt at h
  obtain ⟨i, hi⟩ := List.mem_iff_getElem?.1 hx
  have h1 := sumOf_mem (f := TypeP.wt) hi
  have e : TypeP.wt x = x.name.size + (x.fields.length + sumOf FieldP.wt x.fields) + (x.members.length + sumOf ByteArray.size x.members) := rfl
  refine ⟨by omega, by omega, by omega, fun f hf => ?_, fun m hm => ?_⟩
  · obtain ⟨j, hj⟩ := List.mem_iff_getElem?.1 hf
    have h2 := sumOf_mem (f := FieldP.wt) hj
    have e2 : FieldP.wt f = f.name.size + f.typ.size := rfl
    exact ⟨by omega, by omega⟩
  · obtain ⟨j, hj⟩ := List.mem_iff_getElem?.1 hm
    have h2 := sumOf_mem (f := ByteArray.size) hj
    omega
theorem fieldM1 (w : World) (v : Value) (x : TypeP) (a : Option Addr) (ca : Nat) (c : Option Addr) (cc : Nat) (nm : ByteArray) :
    Calls Tryz.prog 318 #[.agg (x.cells a ca c cc).toArray, .string nm] w fun e w' => e = .returned (.agg zeroField.cells.toArray) ∧ Below w.heap.size w w' := by
  have HA : Hid (∀ o1 o2, Below w.heap.size w ((w.alloc o1).alloc o2)) := Lib.hid fun o1 o2 => ((Below.refl _ _).alloc (Nat.le_refl _) o1).alloc (by simp) o2
  simp only [TypeP.cells, FieldP.cells, zeroField]
  go_enter Tryz.func318, Tryz.ntmps318
  go_wp2_with fail
  exact bodyPost_ret (v := .agg #[.string ⟨#[]⟩, .string ⟨#[]⟩, .bool false, .bool false, .int .i64 0, .int .i64 0]) (by simp [results, Tryz.results318, go_sem]) rfl ⟨rfl, HA.out _ _⟩
theorem fieldM3 (w : World) (v : Value) (x : TypeP) (a : Option Addr) (ca : Nat) (c : Option Addr) (cc : Nat) (nm : ByteArray) :
    Calls Tryz.prog 323 #[.agg (x.cells a ca c cc).toArray, .string nm] w fun e w' => e = .returned (.agg zeroField.cells.toArray) ∧ Below w.heap.size w w' := by
  have HA : Hid (∀ o1 o2, Below w.heap.size w ((w.alloc o1).alloc o2)) := Lib.hid fun o1 o2 => ((Below.refl _ _).alloc (Nat.le_refl _) o1).alloc (by simp) o2
  simp only [TypeP.cells, FieldP.cells, zeroField]
  go_enter Tryz.func323, Tryz.ntmps323
  go_wp2_with fail
  exact bodyPost_ret (v := .agg #[.string ⟨#[]⟩, .string ⟨#[]⟩, .bool false, .bool false, .int .i64 0, .int .i64 0]) (by simp [results, Tryz.results323, go_sem]) rfl ⟨rfl, HA.out _ _⟩

set_option maxHeartbeats 2000000 in
theorem fieldM2 (w : World) (A B : Nat) (x : TypeP) (a : Option Addr) (ca : Nat) (c : Option Addr) (cc : Nat) (nm : ByteArray) (hn : OkS nm) (hx : TypeAt w A B (.agg (x.cells a ca c cc).toArray) x) (hB : B ≤ w.heap.size) (ht : ∀ f ∈ x.fields, f.tiny) :
    Calls Tryz.prog 293 #[.agg (x.cells a ca c cc).toArray, .string nm] w fun e w' => e = .returned (.agg (fieldIn nm x.fields).cells.toArray) ∧ Below w.heap.size w w' := by
  obtain ⟨a', ca', c', cc', hve, hk, ⟨h2, hca⟩, h3, hcc⟩ := hx
  obtain ⟨xn, kd, by_, fs, ms⟩ := x
  simp [TypeP.cells] at hve
  obtain ⟨⟨rfl, rfl⟩, rfl, rfl⟩ := hve
  simp only [TypeP.cells] at h2 h3 hca hcc ht ⊢
  have HF := Lib.hid h2
  have hfl := h2.2.1
  have HA : Hid (∀ o1 o2, Below w.heap.size w ((w.alloc o1).alloc o2)) := Lib.hid fun o1 o2 => ((Below.refl _ _).alloc (Nat.le_refl _) o1).alloc (by simp) o2
  have CP : Hid (∀ (w' : World), Below w.heap.size w w' → Calls Tryz.prog 298 #[.slice a fs.length ca, .string nm] w' fun e w'' => e = .returned (.int .i64 (findF nm fs 0)) ∧ Below w'.heap.size w' w'') := Lib.hid fun w' g => implPlace w' A B a _ ca fs nm hn (HF.out.below fieldLies hB g) (Nat.le_trans hB g.size)
  have HI := findF_in nm fs 0
  have HT := Lib.hid ht
  clear h2 h3 ht
  go_enter Tryz.func293, Tryz.ntmps293
  go_wp2_with fail
  refine (CP.out _ (HA.out _ _)).mono ?_
  rintro e w1 ⟨rfl, hb1⟩
  have HB1 := Lib.hid ((HA.out _ _).trans (hb1.mono (HA.out _ _).size))
  have hk1 : w1.heap[w.heap.size]? = some (.cells #[.string xn, .int .i64 kd, .int .i64 by_, .slice a fs.length ca, .slice c ms.length cc] 131 (0, 0)) := by
    rw [hb1.block _ (by simp; omega), Go.Deep.blk_alloc_lt _ _ _ (by simp)]; exact heap_alloc_new w _
  have hz1 : w1.heap[w.heap.size + 1]? = some (.cells #[.string ⟨#[]⟩, .string ⟨#[]⟩, .bool false, .bool false, .int .i64 0, .int .i64 0] 67 (0, 0)) := by
    rw [hb1.block _ (by simp)]
    have := heap_alloc_new (w.alloc (.cells #[.string xn, .int .i64 kd, .int .i64 by_, .slice a fs.length ca, .slice c ms.length cc] 131)) (.cells #[.string ⟨#[]⟩, .string ⟨#[]⟩, .bool false, .bool false, .int .i64 0, .int .i64 0] 67)
    simpa using this
  have HZ1 := Lib.hid hz1
  have ⟨⟨y0, y1, y2, y3, y4⟩, f0, f1, f2, f3, f4⟩ := keep5 hk1
  have ⟨⟨z0, z1, z2, z3, z4, z5⟩, g0, g1, g2, g3, g4, g5⟩ := keep6 hz1
  clear hb1 hk1 hz1
  rcases HI with ⟨hi, hfi⟩ | ⟨i, hi, hg, hnm⟩
  · rw [hi]
    have HFI := Lib.hid hfi
    clear hi hfi
    go_wp2_with fail
    change bodyPost _ _ _ _ _ (putL w1 (w.heap.size + 1) 0 [.string ⟨#[]⟩, .string ⟨#[]⟩, .bool false, .bool false, .int .i64 0, .int .i64 0])
    obtain ⟨hr, _, _⟩ := putL_cells (g := w.heap.size + 1) (o := 0) (l := [.string ⟨#[]⟩, .string ⟨#[]⟩, .bool false, .bool false, .int .i64 0, .int .i64 0]) HZ1.out (by simp)
    have HBF := putL_below (g := w.heap.size + 1) (B := w.heap.size) (by omega) [.string ⟨#[]⟩, .string ⟨#[]⟩, .bool false, .bool false, .int .i64 0, .int .i64 0] 0 HB1.out
    generalize putL w1 (w.heap.size + 1) 0 [.string ⟨#[]⟩, .string ⟨#[]⟩, .bool false, .bool false, .int .i64 0, .int .i64 0] = wz at *
    have ⟨x0, x1, x2, x3, x4, x5⟩ := row6z hr
    exact bodyPost_ret (v := .agg #[.string ⟨#[]⟩, .string ⟨#[]⟩, .bool false, .bool false, .int .i64 0, .int .i64 0]) (by simp [results, Tryz.results293, go_sem, x0, x1, x2, x3, x4, x5]) rfl ⟨by rw [HFI.out]; rfl, HBF⟩
  · rw [Nat.zero_add] at hi
    rw [hi]
    have hil : i < fs.length := (List.getElem?_eq_some_iff.1 hg).1
    have hli : (i : Int) < (fs.length : Int) := by omega
    obtain ⟨f, fb, off, hd, rfl, hA, hbb, hok, hc⟩ := (HF.out.below fieldLies hB HB1.out).at hil
    obtain rfl : f = fieldIn nm fs := by rw [hg] at hd; exact (Option.some.inj hd).symm
    obtain ⟨c0, c1, c2, c3, c4, c5⟩ := row6 hc
    have CC : Hid (∀ w, Calls Tryz.prog 299 #[.agg (fieldIn nm fs).cells.toArray] w fun e w' => e = .returned (.agg (fieldIn nm fs).cells.toArray) ∧ Below w.heap.size w w') := Lib.hid fun w => implCopyOf w _ hok (HT.out _ (List.mem_iff_getElem?.2 ⟨i, hg⟩))
    simp only [FieldP.cells] at CC ⊢
    have HX := Lib.hid hnm
    clear hi hg hnm hd hc hok hil
    go_wp2_with fail
    refine (CC.out _).mono ?_
    rintro e w2 ⟨rfl, hb2⟩
    have HB2 := Lib.hid (HB1.out.trans (hb2.mono HB1.out.size))
    have hz2 := (hb2.block (w.heap.size + 1) (lt_of_get HZ1.out)).trans HZ1.out
    have HZ2 := Lib.hid hz2
    clear z0 z1 z2 z3 z4 z5 g0 g1 g2 g3 g4 g5
    have ⟨⟨z0, z1, z2, z3, z4, z5⟩, g0, g1, g2, g3, g4, g5⟩ := keep6 hz2
    clear hb2 hz2
    go_wp2_with fail
    change bodyPost _ _ _ _ _ (putL w2 (w.heap.size + 1) 0 [.string (fieldIn nm fs).name, .string (fieldIn nm fs).typ, .bool (fieldIn nm fs).list, .bool (fieldIn nm fs).must, .int .i64 (fieldIn nm fs).size, .int .i64 (fieldIn nm fs).cap])
    obtain ⟨hr, _, _⟩ := putL_cells (g := w.heap.size + 1) (o := 0) (l := [.string (fieldIn nm fs).name, .string (fieldIn nm fs).typ, .bool (fieldIn nm fs).list, .bool (fieldIn nm fs).must, .int .i64 (fieldIn nm fs).size, .int .i64 (fieldIn nm fs).cap]) HZ2.out (by simp)
    have HBF := putL_below (g := w.heap.size + 1) (B := w.heap.size) (by omega) [.string (fieldIn nm fs).name, .string (fieldIn nm fs).typ, .bool (fieldIn nm fs).list, .bool (fieldIn nm fs).must, .int .i64 (fieldIn nm fs).size, .int .i64 (fieldIn nm fs).cap] 0 HB2.out
    generalize putL w2 (w.heap.size + 1) 0 [.string (fieldIn nm fs).name, .string (fieldIn nm fs).typ, .bool (fieldIn nm fs).list, .bool (fieldIn nm fs).must, .int .i64 (fieldIn nm fs).size, .int .i64 (fieldIn nm fs).cap] = wz at *
    have ⟨x0, x1, x2, x3, x4, x5⟩ := row6z hr
    exact bodyPost_ret (v := .agg #[.string (fieldIn nm fs).name, .string (fieldIn nm fs).typ, .bool (fieldIn nm fs).list, .bool (fieldIn nm fs).must, .int .i64 (fieldIn nm fs).size, .int .i64 (fieldIn nm fs).cap]) (by simp [results, Tryz.results293, go_sem, x0, x1, x2, x3, x4, x5]) rfl ⟨rfl, HBF⟩
end Go.Proofs.YtahcheahpbnkiaaGreatDoor.Rw
