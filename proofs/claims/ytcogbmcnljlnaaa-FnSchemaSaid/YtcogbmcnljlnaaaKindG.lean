/-
  Contracts: impl.kindNamed, copyOf, the kinds' field, FieldOf; of what was there nothing is changed. Conditions: in memory, texts of at most 2^20 bytes.
-/
import Derived.Test.YtcogbmcnljlnaaaRows
import Derived.Test.YtcogbmcnljlnaaaKindF
import Derived.Test.YtcogbmcnljlnaaaClone
import Derived.Test.YtcogbmcnljlnaaaFieldP
namespace Go.Proofs.Ytcogbmcnljlnaaa.Rw
open Go.RowKit Words Go.Maps
set_option linter.unusedVariables false
set_option maxRecDepth 100000

/-- What a look-up by name tells. -/
def NamedOut (A B : Nat) (s : List TypeP) (nm : ByteArray) (e : Ending) (w' : World) : Prop :=
  ((schemaB s && !freshB nm s) = true ∧ ∃ v, e = .returned (.tuple #[v, .bool true]) ∧ KindV w' A B v (typeIn nm s)) ∨ ((schemaB s && !freshB nm s) = false ∧ e = .returned (.tuple #[.nilIface, .bool false]))
theorem lookNil (nm : ByteArray) (hn : OkS nm) (w : World) : (Instr.lookup 99 (.map none) (.string nm) true).run Try.prog w = .ok (.tuple #[.nilIface, .bool false]) w := by
  have := Maps.look_nil (P := Try.prog) (w := w) true lawS Try.underlying99 (zeroK w) (WideMaps.keyOf_string_mk (s := nm) Try.underlying9 (by unfold maxLen; exact hn))
  exact this
theorem implKindNamed (w : World) (A B : Nat) (v : Value) (s : List TypeP) (nm : ByteArray) (hn : OkS nm) (hv : SchemaAt w A B v s) (hB : B ≤ w.heap.size) :
    Calls Try.prog 31 #[v, .string nm] w fun e w' => NamedOut A B s nm e w' ∧ Below w.heap.size w w' := by
  have C := Lib.hid (fun o => implKindsOf (w.alloc o) A B v s (hv.below (C := w.heap.size) hB ((Below.refl _ _).alloc (Nat.le_refl _) o)) (Nat.le_trans hB (by simp)))
  have HA : Hid (∀ o1, Below w.heap.size w (w.alloc o1)) := Lib.hid fun o1 => (Below.refl _ _).alloc (Nat.le_refl _) o1
  have HN := Lib.hid hn
  obtain ⟨a, ca, rfl, _, _⟩ := hv
  clear hn
  go_enter Try.func31, Try.ntmps31
  go_wp2_with fail
  refine (C.out _).mono ?_
  rintro e w1 ⟨ho, hb1⟩
  have HB1 := Lib.hid ((HA.out _).trans (hb1.mono (HA.out _).size))
  clear hb1
  rcases ho with ⟨hk, b, n, D, rfl, hD, hO⟩ | ⟨hk, rfl⟩
  · rw [kindsB_eq] at hk
    obtain ⟨lv, hrun, h1, h2⟩ := hD.look_ok hO nm HN.out
    cases hf : freshB nm s with
    | true =>
      obtain rfl := h1 hf
      rw [hf] at hrun
      have HK : Hid ((schemaB s && !freshB nm s) = false) := Lib.hid (by rw [hf, hk]; rfl)
      clear h1 h2 hD hO hk hf
      simp only [Bool.not_true] at hrun
      go_wp2_with fail
      go_ret2
      exact ⟨.inr ⟨HK.out, rfl⟩, HB1.out⟩
    | false =>
      have HV := Lib.hid (h2 hf)
      rw [hf] at hrun
      have HK : Hid ((schemaB s && !freshB nm s) = true) := Lib.hid (by rw [hf, hk]; rfl)
      clear h1 h2 hD hO hk hf
      simp only [Bool.not_false] at hrun
      go_wp2_with fail
      go_ret2
      exact ⟨.inl ⟨HK.out, lv, rfl, HV.out⟩, HB1.out⟩
  · rw [kindsB_eq] at hk
    have HK : Hid ((schemaB s && !freshB nm s) = false) := Lib.hid (by rw [hk]; rfl)
    have hrun := lookNil nm HN.out w1
    clear hk
    go_wp2_with fail
    go_ret2
    exact ⟨.inr ⟨HK.out, rfl⟩, HB1.out⟩

theorem implCopyOf (w : World) (x : FieldP) (hx : x.ok) (ht : x.tiny) :
    Calls Try.prog 112 #[.agg x.cells.toArray] w fun e w' => e = .returned (.agg x.cells.toArray) ∧ Below w.heap.size w w' := by
  obtain ⟨nm, tp, ls, mu, sz, cp⟩ := x
  obtain ⟨_, _, ⟨hs1, hs2⟩, hc1, hc2⟩ := hx
  obtain ⟨t1, t2⟩ := ht
  simp only [FieldP.cells] at t1 t2 hs1 hs2 hc1 hc2 ⊢
  have HA : Hid (∀ o1 o2, Below w.heap.size w ((w.alloc o1).alloc o2)) := Lib.hid fun o1 o2 => ((Below.refl _ _).alloc (Nat.le_refl _) o1).alloc (by simp) o2
  have C1 : Hid (∀ w, Calls Try.prog 104 #[.string nm] w fun e w' => e = .returned (.string nm) ∧ Below w.heap.size w w') := Lib.hid fun w => Clones.clone nm w (by omega)
  have C2 : Hid (∀ w, Calls Try.prog 104 #[.string tp] w fun e w' => e = .returned (.string tp) ∧ Below w.heap.size w w') := Lib.hid fun w => Clones.clone tp w (by omega)
  go_enter Try.func112, Try.ntmps112
  go_wp2_with fail
  refine (C1.out _).mono ?_
  rintro e w1 ⟨rfl, hb1⟩
  have HB1 := Lib.hid ((HA.out _ _).trans (hb1.mono (HA.out _ _).size))
  have hk1 : w1.heap[w.heap.size]? = some (.cells #[.string nm, .string tp, .bool ls, .bool mu, .int .i64 sz, .int .i64 cp] 31 (0, 0)) := by
    rw [hb1.block _ (by simp; omega), Go.Deep.blk_alloc_lt _ _ _ (by simp)]; exact heap_alloc_new w _
  have hz1 : w1.heap[w.heap.size + 1]? = some (.cells #[.string ⟨#[]⟩, .string ⟨#[]⟩, .bool false, .bool false, .int .i64 0, .int .i64 0] 31 (0, 0)) := by
    rw [hb1.block _ (by simp)]
    have := heap_alloc_new (w.alloc (.cells #[.string nm, .string tp, .bool ls, .bool mu, .int .i64 sz, .int .i64 cp] 31)) (.cells #[.string ⟨#[]⟩, .string ⟨#[]⟩, .bool false, .bool false, .int .i64 0, .int .i64 0] 31)
    simpa using this
  have ⟨⟨y0, y1, y2, y3, y4, y5⟩, f0, f1, f2, f3, f4, f5⟩ := keep6 hk1
  have HK2 : Hid ((w1.setCell ⟨w.heap.size, 0, none⟩ (.string nm)).heap[w.heap.size]? = some (.cells #[.string nm, .string tp, .bool ls, .bool mu, .int .i64 sz, .int .i64 cp] 31 (0, 0))) := Lib.hid (heap_setCell_same w1 _ 0 _ _ _ hk1)
  have HZ2 : Hid ((w1.setCell ⟨w.heap.size, 0, none⟩ (.string nm)).heap[w.heap.size + 1]? = _) := Lib.hid ((Go.Deep.blk_setCell_other w1 ⟨w.heap.size, 0, none⟩ (.string nm) (w.heap.size + 1) (by simp)).trans hz1)
  have HB2 := Lib.hid (HB1.out.setCell (p := ⟨w.heap.size, 0, none⟩) (by simp) (.string nm))
  clear hb1 hk1 hz1
  go_wp2_with fail
  generalize w1.setCell ⟨w.heap.size, 0, none⟩ (.string nm) = w2 at *
  clear y0 y1 y2 y3 y4 y5 f0 f1 f2 f3 f4 f5
  refine (C2.out _).mono ?_
  rintro e w3 ⟨rfl, hb3⟩
  have HB3 := Lib.hid (HB2.out.trans (hb3.mono HB2.out.size))
  have hk3 := (hb3.block w.heap.size (lt_of_get HK2.out)).trans HK2.out
  have hz3 := (hb3.block (w.heap.size + 1) (lt_of_get HZ2.out)).trans HZ2.out
  have ⟨⟨y0, y1, y2, y3, y4, y5⟩, f0, f1, f2, f3, f4, f5⟩ := keep6 hk3
  have HK4 : Hid ((w3.setCell ⟨w.heap.size, 1, none⟩ (.string tp)).heap[w.heap.size]? = some (.cells #[.string nm, .string tp, .bool ls, .bool mu, .int .i64 sz, .int .i64 cp] 31 (0, 0))) := Lib.hid (heap_setCell_same w3 _ 1 _ _ _ hk3)
  have HZ4 : Hid ((w3.setCell ⟨w.heap.size, 1, none⟩ (.string tp)).heap[w.heap.size + 1]? = _) := Lib.hid ((Go.Deep.blk_setCell_other w3 ⟨w.heap.size, 1, none⟩ (.string tp) (w.heap.size + 1) (by simp)).trans hz3)
  have HB4 := Lib.hid (HB3.out.setCell (p := ⟨w.heap.size, 1, none⟩) (by simp) (.string tp))
  have ⟨⟨z0, z1, z2, z3, z4, z5⟩, g0, g1, g2, g3, g4, g5⟩ := keep6 hz3
  clear hb3 hk3 hz3
  go_wp2_with fail
  change bodyPost _ _ _ _ _ (putL (w3.setCell ⟨w.heap.size, 1, none⟩ (.string tp)) (w.heap.size + 1) 0 [.string nm, .string tp, .bool ls, .bool mu, .int .i64 sz, .int .i64 cp])
  generalize w3.setCell ⟨w.heap.size, 1, none⟩ (.string tp) = w4 at *
  obtain ⟨hr, _, _⟩ := putL_cells (g := w.heap.size + 1) (o := 0) (l := [.string nm, .string tp, .bool ls, .bool mu, .int .i64 sz, .int .i64 cp]) HZ4.out (by simp)
  have HBF := putL_below (g := w.heap.size + 1) (B := w.heap.size) (by omega) [.string nm, .string tp, .bool ls, .bool mu, .int .i64 sz, .int .i64 cp] 0 HB4.out
  generalize putL w4 (w.heap.size + 1) 0 [.string nm, .string tp, .bool ls, .bool mu, .int .i64 sz, .int .i64 cp] = wz at *
  have ⟨x0, x1, x2, x3, x4, x5⟩ := row6z hr
  exact bodyPost_ret (v := .agg #[.string nm, .string tp, .bool ls, .bool mu, .int .i64 sz, .int .i64 cp]) (by simp [results, Try.results112, go_sem, x0, x1, x2, x3, x4, x5]) rfl ⟨rfl, HBF⟩
end Go.Proofs.Ytcogbmcnljlnaaa.Rw
