/-
  Contracts: laws.toNode, toNodeS make nodes like those that came in, in new memory; of what was there nothing is changed. Conditions: in memory, what they weigh is at most 2^20.
-/
import Derived.Test.YtffcfjjlieogkaaRows
import Derived.Test.YtffcfjjlieogkaaNodeM
import Derived.Test.YtffcfjjlieogkaaToTx
namespace Go.Proofs.Ytffcfjjlieogkaa.Rw
open Go.RowKit
set_option linter.unusedVariables false
set_option maxRecDepth 100000

theorem infoNode : (Try.prog.info? 30).map (fun i => (i.zero, i.size, i.bytes)) = some (some (.agg #[.int .i64 0, .string ⟨#[]⟩, .slice none 0 0, .slice none 0 0]), 4, 72) := by kernel_rfl
theorem make_nodes (n : Nat) (h : n ≤ 1048576) : ∃ Y : Array Value, Y.size = n * 4 ∧ ∀ W : World, (Instr.makeSlice 28 (.int .i64 (n : Int)) (.int .i64 (n : Int))).run Try.prog W = .ok (.slice (some ⟨W.heap.size, 0, none⟩) n n) (W.alloc (.cells Y 30)) := by
  obtain ⟨i, hi, hz⟩ := Option.map_eq_some_iff.1 infoNode
  simp only [Prod.mk.injEq] at hz
  obtain ⟨hz, hs, hb⟩ := hz
  refine ⟨madeCells (Value.agg #[.int .i64 0, .string ⟨#[]⟩, .slice none 0 0, .slice none 0 0]).cells (n * 4), size_madeCells _ _, fun W => ?_⟩
  have := run_make (P := Try.prog) (w := W) 28 30 i _ Try.underlying28 hi hz .i64 .i64 (n : Int) (n : Int) (by omega) (Int.le_refl _) (by rw [hb]; omega) (by omega)
  rw [hs, Int.toNat_natCast] at this
  exact this

def ToOne (n : Nat) : Prop := ∀ (w : World) (A B : Nat) (v : Value) (x : NodeP), NodeV n w A B v x → B ≤ w.heap.size → wtN n x ≤ 1048576 →
    Calls Try.prog 7 #[v] w fun e w' => (∃ a c, e = .returned (.agg #[.int .i64 x.kind, .string x.text, .slice a x.keys.length x.keys.length, .slice c x.kids.length x.kids.length]) ∧ NodeVX n w' w.heap.size w'.heap.size (.agg #[.int .i64 x.kind, .string x.text, .slice a x.keys.length x.keys.length, .slice c x.kids.length x.kids.length]) x) ∧ Below w.heap.size w w'
def ToAll (n : Nat) : Prop := ∀ (w : World) (A B : Nat) (a : Option Addr) (len cap : Nat) (l : List NodeP), NodesAt n w A B a len l → B ≤ w.heap.size → len + sumOf (wtN n) l ≤ 1048576 →
    Calls Try.prog 17 #[.slice a len cap] w fun e w' => (∃ a', e = .returned (.slice a' len len) ∧ NodesX n w' w.heap.size w'.heap.size a' len l) ∧ Below w.heap.size w w'
theorem toAll_of (n : Nat) (HN : ToOne n) : ToAll n := by
  intro w A B a len cap l hs hB hwt
  have HS := Lib.hid hs
  have HNH := Lib.hid HN
  obtain ⟨hll, _⟩ := hs
  obtain ⟨Y, hY, hmk⟩ := make_nodes len (by omega)
  subst hll
  have HM : Hid (∀ x ∈ l, wtN n x ≤ 1048576) := Lib.hid fun x hx => by
    obtain ⟨i, hi, rfl⟩ := List.getElem_of_mem hx
    have := sumOf_mem (f := wtN n) (List.getElem?_eq_getElem hi); omega
  have hlm : l.length ≤ 1048576 := by omega
  clear HN hwt
  go_enter Try.func17, Try.ntmps17
  go_wp2_with fail
  go_loopw [4] (fun i wr => ∃ (i' : Nat) (Y : Array Value), i' ≤ l.length ∧ i = .int .i64 i' ∧ Hid (Y.size = l.length * 4) ∧ wr.heap[w.heap.size]? = some (.cells Y 30 (0, 0)) ∧ Hid (LieRX 4 (NodeLieX n) wr (l.take i') (w.heap.size + 1) wr.heap.size w.heap.size 0) ∧ Below w.heap.size w wr) (fun i _ => l.length - (intOf i).toNat)
  case atStart => exact ⟨0, Y, by omega, rfl, Lib.hid hY, heap_alloc_new w _, Lib.hid (by rw [List.take_zero]; show _ ≤ _; simp), (Below.refl _ _).alloc (Nat.le_refl _) _⟩
  case round =>
    obtain ⟨i, Y, hi, rfl, hY, hh, hl, hb⟩ := hrel
    have hg := lt_of_get hh
    have HB := Lib.hid hb
    by_cases hlt : i < l.length
    · have hli : (i : Int) < (l.length : Int) := by omega
      obtain ⟨x, b, off, hd, rfl, hA, hbb, hxl⟩ := (HS.out.below (nodeLies n) (Nat.le_refl _) (hb.mono hB)).at hlt
      obtain ⟨a1, ca, c, cc, hc, hv⟩ := hxl.val
      obtain ⟨c0, c1, c2, c3⟩ := nrow4 hc
      have hxm := HM.out x (List.mem_of_getElem? hd)
      have HX := Lib.hid hv
      have HH := Lib.hid hh
      have HD := Lib.hid hd
      have HXM := Lib.hid hxm
      clear hlt hd hb hc hh hxl hv hxm
      go_wp2_with fail
      refine (HNH.out wr A B _ x HX.out (Nat.le_trans hB HB.out.size) HXM.out).mono ?_
      rintro e w1 ⟨⟨a2, c', rfl, hx1⟩, hb1⟩
      have hh1 := (hb1.block _ hg).trans HH.out
      have hsz : i * 4 + 3 < Y.size := by rw [hY.out]; omega
      have q0 := row_cell hh1 (k := i * 4) (by omega)
      have q1 := row_cell hh1 (k := i * 4 + 1) (by omega)
      have q2 := row_cell hh1 (k := i * 4 + 2) (by omega)
      have q3 := row_cell hh1 (k := i * 4 + 3) (by omega)
      have p0 := frozen_of_row w1 w.heap.size (i * 4) _ _ hh1
      have p1 := frozen_of_row w1 w.heap.size (i * 4 + 1) _ _ hh1
      have p2 := frozen_of_row w1 w.heap.size (i * 4 + 2) _ _ hh1
      have p3 := frozen_of_row w1 w.heap.size (i * 4 + 3) _ _ hh1
      obtain ⟨hr, hk, Z, hZ, hhZ⟩ := putL_cells (l := x.cells a2 x.keys.length c' x.kids.length) (o := i * 4) hh1 (by simp [NodeP.cells]; omega)
      have HZ := Lib.hid (hZ.trans hY.out)
      have HHZ := Lib.hid hhZ
      have hoth := putL_other (x.cells a2 x.keys.length c' x.kids.length) w1 w.heap.size (i * 4)
      have hxx := hx1.block (w' := putL w1 w.heap.size (i * 4) (x.cells a2 x.keys.length c' x.kids.length)) fun q q1 q2 => hoth q (by omega)
      have hlx := hxx.lie hr
      have HL := Lib.hid (LieRX.step (nodeLiesX n) hl.out HD.out (Nat.lt_succ_self _) hb1 hg (putL_size (x.cells a2 x.keys.length c' x.kids.length) w1 w.heap.size (i * 4)) hoth ⟨_, _, hhZ⟩ hk hlx)
      have HBZ := Lib.hid (putL_below (Nat.le_refl _) (x.cells a2 x.keys.length c' x.kids.length) (i * 4) (HB.out.trans (hb1.mono HB.out.size)))
      clear hh1 hb1 hr hk hZ hhZ c0 c1 c2 c3 hl hx1 hxx hlx hoth
      generalize Y[i * 4] = y0 at q0
      generalize Y[i * 4 + 1] = y1 at q1
      generalize Y[i * 4 + 2] = y2 at q2
      generalize Y[i * 4 + 3] = y3 at q3
      clear hsz
      go_wp2_with fail
      go_roundw
      case rel => exact ⟨i + 1, Z, by omega, by go_num, HZ, HHZ.out, HL, HBZ.out⟩
      case measure => simp [intOf]; omega
    · obtain rfl : i = l.length := by omega
      have HF := Lib.hid (RowsX.made (n := 4) (LX := NodeLieX n) (l := l) (by omega) hg (by have := hl.out; rwa [List.take_length] at this))
      clear hlt hb hh hl
      go_wp2_with fail
      go_ret
      exact ⟨⟨_, rfl, HF.out⟩, HB.out⟩
theorem toOne_of (n : Nat) (HN : ToAll n) : ToOne (n + 1) := by
  intro w A B v x hs hB hwt
  obtain ⟨a, ca, c, cc, rfl, hk, ⟨h2, _⟩, h3, _⟩ := hs
  have HOK := Lib.hid hk
  obtain ⟨kd, tx, ks, ns⟩ := x
  obtain ⟨⟨hs1, hs2⟩, hk⟩ := hk
  unfold OkS at hk
  simp only [NodeP.cells, wtN] at hk hs1 hs2 h2 h3 hwt ⊢
  have H2 := Lib.hid h2
  have H3 := Lib.hid h3
  have HNH := Lib.hid HN
  have hm1 : ks.length ≤ 1048576 := by omega
  have hm2 := Lib.hid (show ns.length + sumOf (wtN n) ns ≤ 1048576 by omega)
  clear h2 h3 hwt HN
  have HA : Hid (∀ o1 o2 o3, Below w.heap.size w (((w.alloc o1).alloc o2).alloc o3)) := Lib.hid fun o1 o2 o3 => (((Below.refl _ _).alloc (Nat.le_refl _) o1).alloc (by simp) o2).alloc (by simp; omega) o3
  go_enter Try.func7, Try.ntmps7
  go_wp2_with fail
  refine (toStringS _ A B a _ ca ks (H2.out.below textLies hB (HA.out _ _ _)) (Nat.le_trans hB (HA.out _ _ _).size) hm1).mono ?_
  rintro e w1 ⟨⟨a1, rfl, hs1⟩, hb1⟩
  obtain ⟨k0, k1, k2⟩ := kept3 hb1
  have hz1 := hb1.size
  rw [show ∀ o1 o2 o3, (((w.alloc o1).alloc o2).alloc o3).heap.size = w.heap.size + 3 from fun _ _ _ => by simp] at hz1 hs1
  have HX1 := Lib.hid hs1
  have HB1 := Lib.hid ((HA.out _ _ _).trans (hb1.mono (HA.out _ _ _).size))
  have ⟨⟨c0, c1, c2, c3⟩, _⟩ := keep4 k0
  have ⟨_, g0, g1, g2, g3⟩ := keep4 k2
  have ⟨⟨d0, d1, d2, d3⟩, _⟩ := keep4 k2
  have K1 := Lib.hid k1
  have K2 := Lib.hid k2
  clear hb1 hs1 k0 k1 k2
  go_wp2_with fail
  have hoth : ∀ c, c ≠ w.heap.size + 1 + 1 → (w1.setCell ⟨w.heap.size + 1 + 1, 2, none⟩ (.slice a1 ks.length ks.length)).heap[c]? = w1.heap[c]? := fun c hc => Go.Deep.blk_setCell_other _ ⟨_, _, none⟩ _ c hc
  have K2' := Lib.hid (heap_setCell_same w1 (w.heap.size + 1 + 1) 2 _ _ (.slice a1 ks.length ks.length) K2.out)
  have K1' := Lib.hid ((hoth (w.heap.size + 1) (by omega)).trans K1.out)
  have HX2 := Lib.hid (HX1.out.block (w' := w1.setCell ⟨w.heap.size + 1 + 1, 2, none⟩ (.slice a1 ks.length ks.length)) textLies fun c x1 x2 => hoth c (by omega))
  have HB2 := Lib.hid (HB1.out.setCell (p := ⟨w.heap.size + 1 + 1, 2, none⟩) (by simp; omega) (.slice a1 ks.length ks.length))
  have hz2 : (w1.setCell ⟨w.heap.size + 1 + 1, 2, none⟩ (.slice a1 ks.length ks.length)).heap.size = w1.heap.size := by simp
  clear hoth K1 K2 HX1 HB1 c0 c1 c2 c3 d0 d1 d2 d3 g0 g1 g2 g3
  generalize w1.setCell ⟨w.heap.size + 1 + 1, 2, none⟩ (.slice a1 ks.length ks.length) = w2 at *
  refine (HNH.out _ A B c _ cc ns (H3.out.below (nodeLies n) hB HB2.out) (Nat.le_trans hB HB2.out.size) hm2.out).mono ?_
  rintro e w3 ⟨⟨c1, rfl, hs3⟩, hb3⟩
  have k1 := (hb3.block _ (by omega)).trans K1'.out
  have k2 := (hb3.block _ (by omega)).trans K2'.out
  have HX3 := Lib.hid (HX2.out.below textLies (by omega) hb3)
  have HB3 := Lib.hid (HB2.out.trans (hb3.mono HB2.out.size))
  have hz3 := hb3.size
  have HS3 := Lib.hid hs3
  have ⟨⟨d0, d1, d2, d3⟩, g0, g1, g2, g3⟩ := keep4 k2
  have ⟨⟨r0, r1, r2, r3⟩, p0, p1, p2, p3⟩ := keep4 k1
  have hne : w.heap.size + 1 ≠ w.heap.size + 1 + 1 := by omega
  have K1 := Lib.hid k1
  clear hb3 hs3 k1 k2 K1' K2' HX2 HB2
  go_wp2_with fail
  have hoth : ∀ c, c ≠ w.heap.size + 1 + 1 → (w3.setCell ⟨w.heap.size + 1 + 1, 3, none⟩ (.slice c1 ns.length ns.length)).heap[c]? = w3.heap[c]? := fun c hc => Go.Deep.blk_setCell_other _ ⟨_, _, none⟩ _ c hc
  obtain ⟨hr, _, _⟩ := putL_cells (w := w3.setCell ⟨w.heap.size + 1 + 1, 3, none⟩ (.slice c1 ns.length ns.length)) (g := w.heap.size + 1) (o := 0) (l := [.int .i64 kd, .string tx, .slice a1 ks.length ks.length, .slice c1 ns.length ns.length]) ((hoth _ hne).trans K1.out) (by simp)
  have hot2 := fun c hc => (putL_other [.int .i64 kd, .string tx, .slice a1 ks.length ks.length, .slice c1 ns.length ns.length] (w3.setCell ⟨w.heap.size + 1 + 1, 3, none⟩ (.slice c1 ns.length ns.length)) (w.heap.size + 1) 0 c hc)
  have hsz := putL_size [.int .i64 kd, .string tx, .slice a1 ks.length ks.length, .slice c1 ns.length ns.length] (w3.setCell ⟨w.heap.size + 1 + 1, 3, none⟩ (.slice c1 ns.length ns.length)) (w.heap.size + 1) 0
  rw [show (w3.setCell ⟨w.heap.size + 1 + 1, 3, none⟩ (.slice c1 ns.length ns.length)).heap.size = w3.heap.size by simp] at hsz
  have HBF := putL_below (B := w.heap.size) (by omega) [.int .i64 kd, .string tx, .slice a1 ks.length ks.length, .slice c1 ns.length ns.length] 0 (HB3.out.setCell (p := ⟨w.heap.size + 1 + 1, 3, none⟩) (by simp; omega) (.slice c1 ns.length ns.length)) (g := w.heap.size + 1)
  have HX4 := (HX3.out.block textLies (w' := putL (w3.setCell ⟨w.heap.size + 1 + 1, 3, none⟩ (.slice c1 ns.length ns.length)) (w.heap.size + 1) 0 [.int .i64 kd, .string tx, .slice a1 ks.length ks.length, .slice c1 ns.length ns.length]) fun c x1 x2 => (hot2 c (by omega)).trans (hoth c (by omega)))
  have HS4 := (HS3.out.block (nodeLiesX n) (w' := putL (w3.setCell ⟨w.heap.size + 1 + 1, 3, none⟩ (.slice c1 ns.length ns.length)) (w.heap.size + 1) 0 [.int .i64 kd, .string tx, .slice a1 ks.length ks.length, .slice c1 ns.length ns.length]) fun c x1 x2 => (hot2 c (by omega)).trans (hoth c (by omega)))
  change bodyPost _ _ _ _ _ (putL (w3.setCell ⟨w.heap.size + 1 + 1, 3, none⟩ (.slice c1 ns.length ns.length)) (w.heap.size + 1) 0 [.int .i64 kd, .string tx, .slice a1 ks.length ks.length, .slice c1 ns.length ns.length])
  clear hot2 hoth
  generalize putL (w3.setCell ⟨w.heap.size + 1 + 1, 3, none⟩ (.slice c1 ns.length ns.length)) (w.heap.size + 1) 0 [.int .i64 kd, .string tx, .slice a1 ks.length ks.length, .slice c1 ns.length ns.length] = wz at *
  have ⟨e0, e1, e2, e3⟩ := nrow4z hr
  refine bodyPost_ret (v := .agg #[.int .i64 kd, .string tx, .slice a1 ks.length ks.length, .slice c1 ns.length ns.length]) (by simp [results, Try.results7, go_sem, e0, e1, e2, e3]) rfl ⟨⟨a1, c1, rfl, a1, ks.length, c1, ns.length, w1.heap.size, rfl, HOK.out, ⟨HX4.wide (by omega) (Nat.le_refl _), Nat.le_refl _⟩, HS4.wide (by omega) (by omega), Nat.le_refl _⟩, HBF⟩
theorem toNodes : ∀ n, ToOne n ∧ ToAll n
  | 0 => have h : ToOne 0 := fun _ _ _ _ _ h => h.elim
    ⟨h, toAll_of 0 h⟩
  | n + 1 => have h := toOne_of n (toNodes n).2
    ⟨h, toAll_of (n + 1) h⟩
theorem toNode {n : Nat} : ToOne n := (toNodes n).1
end Go.Proofs.Ytffcfjjlieogkaa.Rw
