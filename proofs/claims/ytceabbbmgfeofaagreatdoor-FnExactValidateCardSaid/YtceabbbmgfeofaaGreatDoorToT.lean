/-
  Contracts: laws.toType, toTypeS, toSchema make things like those that came in, in new memory; of what was there nothing is changed. Conditions: in memory, no list of more than 2^20.
-/
import Derived.Test.YtceabbbmgfeofaaGreatDoorRows
import Derived.Test.YtceabbbmgfeofaaGreatDoorInfoS
import Derived.Test.YtceabbbmgfeofaaGreatDoorSch
namespace Go.Proofs.YtceabbbmgfeofaaGreatDoor.Rw
open Go.RowKit
set_option linter.unusedVariables false
set_option maxRecDepth 100000
theorem toStringS (w : World) (A B : Nat) (a : Option Addr) (len cap : Nat) (l : List ByteArray) (hs : TextsAt w A B a len l) (hB : B ≤ w.heap.size) (hlen : len ≤ 1048576) :
    Calls Tryz.prog 168 #[.slice a len cap] w fun e w' => (∃ a', e = .returned (.slice a' len len) ∧ TextsX w' w.heap.size w'.heap.size a' len l) ∧ Below w.heap.size w w' := by
  have HS := Lib.hid hs
  have hll := Lib.hid hs.1
  obtain ⟨Y, hY, hmk⟩ := make_strs len hlen
  clear hs
  go_enter Tryz.func168, Tryz.ntmps168
  go_wp2_with fail
  go_loopw [4] (fun i wr => ∃ (i' : Nat) (Y : Array Value), i' ≤ len ∧ i = .int .i64 i' ∧ Hid (Y.size = len) ∧ wr.heap[w.heap.size]? = some (.cells Y 9 (0, 0)) ∧ Hid (∀ j y, j < i' → l[j]? = some y → OkS y ∧ Y[j]? = some (.string y)) ∧ Below w.heap.size w wr) (fun i _ => len - (intOf i).toNat)
  case atStart => exact ⟨0, Y, by omega, rfl, Lib.hid (by omega), heap_alloc_new w _, Lib.hid (fun j y h => by omega), (Below.refl _ _).alloc (Nat.le_refl _) _⟩
  case round =>
    obtain ⟨i, Y, hi, rfl, hY, hh, hl, hb⟩ := hrel
    have hg := lt_of_get hh
    have HB := Lib.hid hb
    by_cases hlt : i < len
    · have hli : (i : Int) < (len : Int) := by omega
      obtain ⟨x, b, off, hd, rfl, hA, hbb, hok, hc⟩ := (HS.out.below textLies (Nat.le_refl _) (hb.mono hB)).at hlt
      rw [Nat.mul_one] at hc
      have hsz : i < Y.size := by rw [hY.out]; exact hlt
      have q0 := row_cell hh (k := i) hsz
      have p0 := frozen_of_row wr w.heap.size i _ _ hh
      have HH : Hid ((wr.setCell ⟨w.heap.size, i, none⟩ (.string x)).heap[w.heap.size]? = some (.cells (Y.setIfInBounds i (.string x)) 9 (0, 0))) := Lib.hid (heap_setCell_same wr _ i _ _ _ hh)
      have HL : Hid (∀ j y, j < i + 1 → l[j]? = some y → OkS y ∧ (Y.setIfInBounds i (.string x))[j]? = some (.string y)) := Lib.hid fun j y hj hy => by
        by_cases e : j = i
        · subst e
          obtain rfl : x = y := by rw [hd] at hy; cases hy; rfl
          exact ⟨hok, by simp [hsz]⟩
        · rw [Array.getElem?_setIfInBounds_ne (by omega)]; exact hl.out j y (by omega) hy
      have HBZ := Lib.hid (HB.out.setCell (p := ⟨w.heap.size, i, none⟩) (Nat.le_refl _) (.string x))
      have HZ : Hid ((Y.setIfInBounds i (.string x)).size = len) := Lib.hid (by rw [Array.size_setIfInBounds]; exact hY.out)
      clear hh hlt hd hb hok hl
      generalize Y[i] = y0 at q0
      go_wp2_with fail
      go_roundw
      case rel => exact ⟨i + 1, Y.setIfInBounds i (.string x), by omega, by go_num, HZ, HH.out, HL, HBZ.out⟩
      case measure => simp [intOf]; omega
    · obtain rfl : i = len := by omega
      have hfin : TextsX wr w.heap.size wr.heap.size (some ⟨w.heap.size, 0, none⟩) i l := by
        refine ⟨hll.out, by omega, by omega, .inr ⟨_, _, rfl, Nat.le_refl _, hg, LieRX.flat ⟨_, _, hh⟩ hg (Nat.le_of_lt hg) fun j x hx => ?_⟩⟩
        have hj := (List.getElem?_eq_some_iff.1 hx).1
        have := hl.out j x (by rw [← hll.out]; exact hj) hx
        refine ⟨this.1, ?_⟩
        rw [Nat.zero_add, Nat.mul_one]; exact cell_of hh this.2
      have HF := Lib.hid hfin
      clear hlt hb hh hl hfin
      go_wp2_with fail
      go_ret
      exact ⟨⟨_, rfl, HF.out⟩, HB.out⟩
theorem toField (w : World) (x : FieldP) (hx : x.ok) :
    Calls Tryz.prog 192 #[.agg x.cells.toArray] w fun e w' => e = .returned (.agg x.cells.toArray) ∧ Below w.heap.size w w' := by
  obtain ⟨nm, tp, ls, mu, sz, cp⟩ := x
  obtain ⟨hk, hn, ⟨hs1, hs2⟩, hc1, hc2⟩ := hx
  unfold OkS at hk hn
  simp only [FieldP.cells] at hk hn hs1 hs2 hc1 hc2 ⊢
  have HA : Hid (∀ o1 o2 o3, Below w.heap.size w (((w.alloc o1).alloc o2).alloc o3)) := Lib.hid fun o1 o2 o3 => (((Below.refl _ _).alloc (Nat.le_refl _) o1).alloc (by simp) o2).alloc (by simp; omega) o3
  go_enter Tryz.func192, Tryz.ntmps192
  go_wp2_with fail
  exact bodyPost_ret (v := .agg #[.string nm, .string tp, .bool ls, .bool mu, .int .i64 sz, .int .i64 cp]) (by simp [results, Tryz.results192, go_sem]) rfl ⟨rfl, HA.out _ _ _⟩
theorem toFieldS (w : World) (A B : Nat) (a : Option Addr) (len cap : Nat) (l : List FieldP) (hs : FieldsAt w A B a len l) (hB : B ≤ w.heap.size) (hlen : len ≤ 1048576) :
    Calls Tryz.prog 167 #[.slice a len cap] w fun e w' => (∃ a', e = .returned (.slice a' len len) ∧ FieldsX w' w.heap.size w'.heap.size a' len l) ∧ Below w.heap.size w w' := by
  have HS := Lib.hid hs
  obtain ⟨hll, _⟩ := hs
  obtain ⟨Y, hY, hmk⟩ := make_fields len hlen
  subst hll
  go_enter Tryz.func167, Tryz.ntmps167
  go_wp2_with fail
  go_loopw [4] (fun i wr => ∃ (i' : Nat) (Y : Array Value), i' ≤ l.length ∧ i = .int .i64 i' ∧ Hid (Y.size = l.length * 6) ∧ wr.heap[w.heap.size]? = some (.cells Y 50 (0, 0)) ∧ Hid (LieRX 6 FieldLie wr (l.take i') (w.heap.size + 1) wr.heap.size w.heap.size 0) ∧ Below w.heap.size w wr) (fun i _ => l.length - (intOf i).toNat)
  case atStart => exact ⟨0, Y, by omega, rfl, Lib.hid hY, heap_alloc_new w _, Lib.hid (by rw [List.take_zero]; show _ ≤ _; simp), (Below.refl _ _).alloc (Nat.le_refl _) _⟩
  case round =>
    obtain ⟨i, Y, hi, rfl, hY, hh, hl, hb⟩ := hrel
    have hg := lt_of_get hh
    have HB := Lib.hid hb
    by_cases hlt : i < l.length
    · have hli : (i : Int) < (l.length : Int) := by omega
      obtain ⟨x, b, off, hd, rfl, hA, hbb, hok, hc⟩ := (HS.out.below fieldLies (Nat.le_refl _) (hb.mono hB)).at hlt
      obtain ⟨c0, c1, c2, c3, c4, c5⟩ := row6 hc
      have HC : Hid (∀ w, Calls Tryz.prog 192 #[.agg #[.string x.name, .string x.typ, .bool x.list, .bool x.must, .int .i64 x.size, .int .i64 x.cap]] w fun e w' => e = .returned (.agg #[.string x.name, .string x.typ, .bool x.list, .bool x.must, .int .i64 x.size, .int .i64 x.cap]) ∧ Below w.heap.size w w') := Lib.hid fun w => toField w x hok
      have HH := Lib.hid hh
      have HD := Lib.hid hd
      have HOK := Lib.hid hok
      clear hlt hd hb hc hok hh
      go_wp2_with fail
      refine (HC.out _).mono ?_
      rintro e w1 ⟨rfl, hb1⟩
      have hh1 := (hb1.block _ hg).trans HH.out
      have hsz : i * 6 + 5 < Y.size := by rw [hY.out]; omega
      have q0 := row_cell hh1 (k := i * 6) (by omega)
      have q1 := row_cell hh1 (k := i * 6 + 1) (by omega)
      have q2 := row_cell hh1 (k := i * 6 + 2) (by omega)
      have q3 := row_cell hh1 (k := i * 6 + 3) (by omega)
      have q4 := row_cell hh1 (k := i * 6 + 4) (by omega)
      have q5 := row_cell hh1 (k := i * 6 + 5) (by omega)
      have p0 := frozen_of_row w1 w.heap.size (i * 6) _ _ hh1
      have p1 := frozen_of_row w1 w.heap.size (i * 6 + 1) _ _ hh1
      have p2 := frozen_of_row w1 w.heap.size (i * 6 + 2) _ _ hh1
      have p3 := frozen_of_row w1 w.heap.size (i * 6 + 3) _ _ hh1
      have p4 := frozen_of_row w1 w.heap.size (i * 6 + 4) _ _ hh1
      have p5 := frozen_of_row w1 w.heap.size (i * 6 + 5) _ _ hh1
      obtain ⟨hr, hk, Z, hZ, hhZ⟩ := putL_cells (l := x.cells) (o := i * 6) hh1 (by simp [FieldP.cells]; omega)
      have HZ := Lib.hid (hZ.trans hY.out)
      have HHZ := Lib.hid hhZ
      have HL := Lib.hid (LieRX.step fieldLies hl.out HD.out (Nat.lt_succ_self _) hb1 hg (putL_size x.cells w1 w.heap.size (i * 6)) (fun c hc => putL_other x.cells w1 w.heap.size (i * 6) c hc) ⟨_, _, hhZ⟩ hk ⟨HOK.out, hr⟩)
      have HBZ := Lib.hid (putL_below (Nat.le_refl _) x.cells (i * 6) (HB.out.trans (hb1.mono HB.out.size)))
      clear hh1 hb1 hr hk hZ hhZ c0 c1 c2 c3 c4 c5 hl
      generalize Y[i * 6] = y0 at q0
      generalize Y[i * 6 + 1] = y1 at q1
      generalize Y[i * 6 + 2] = y2 at q2
      generalize Y[i * 6 + 3] = y3 at q3
      generalize Y[i * 6 + 4] = y4 at q4
      generalize Y[i * 6 + 5] = y5 at q5
      clear hsz
      go_wp2_with fail
      go_roundw
      case rel => exact ⟨i + 1, Z, by omega, by go_num, HZ, HHZ.out, HL, HBZ.out⟩
      case measure => simp [intOf]; omega
    · obtain rfl : i = l.length := by omega
      have HF := Lib.hid (RowsX.made (n := 6) (LX := FieldLie) (l := l) (by omega) hg (by have := hl.out; rwa [List.take_length] at this))
      clear hlt hb hh hl
      go_wp2_with fail
      go_ret
      exact ⟨⟨_, rfl, HF.out⟩, HB.out⟩
theorem toType (w : World) (A B : Nat) (v : Value) (x : TypeP) (hs : TypeAt w A B v x) (hB : B ≤ w.heap.size) (hf : x.fields.length ≤ 1048576) (hm : x.members.length ≤ 1048576) :
    Calls Tryz.prog 120 #[v] w fun e w' => (∃ a c, e = .returned (.agg (x.cells a x.fields.length c x.members.length).toArray) ∧ TypeX w' w.heap.size w'.heap.size (.agg (x.cells a x.fields.length c x.members.length).toArray) x) ∧ Below w.heap.size w w' := by
  obtain ⟨a, ca, c, cc, rfl, hk, ⟨h2, _⟩, h3, _⟩ := hs
  have HOK := Lib.hid hk
  obtain ⟨nm, kd, by_, fs, ms⟩ := x
  obtain ⟨hk, ⟨hs1, hs2⟩, hs3, hs4⟩ := hk
  unfold OkS at hk
  simp only [TypeP.cells] at hk hs1 hs2 hs3 hs4 h2 h3 hf hm ⊢
  have H2 := Lib.hid h2
  have H3 := Lib.hid h3
  clear h2 h3
  have HA : Hid (∀ o1 o2 o3, Below w.heap.size w (((w.alloc o1).alloc o2).alloc o3)) := Lib.hid fun o1 o2 o3 => (((Below.refl _ _).alloc (Nat.le_refl _) o1).alloc (by simp) o2).alloc (by simp; omega) o3
  go_enter Tryz.func120, Tryz.ntmps120
  go_wp2_with fail
  refine (toFieldS _ A B a _ ca fs (H2.out.below fieldLies hB (HA.out _ _ _)) (Nat.le_trans hB (HA.out _ _ _).size) hf).mono ?_
  rintro e w1 ⟨⟨a1, rfl, hs1⟩, hb1⟩
  obtain ⟨k0, k1, k2⟩ := kept3 hb1
  have hz1 := hb1.size
  rw [show ∀ o1 o2 o3, (((w.alloc o1).alloc o2).alloc o3).heap.size = w.heap.size + 3 from fun _ _ _ => by simp] at hz1 hs1
  have HX1 := Lib.hid hs1
  have HB1 := Lib.hid ((HA.out _ _ _).trans (hb1.mono (HA.out _ _ _).size))
  have ⟨⟨c0, c1, c2, c3, c4⟩, _⟩ := keep5 k0
  have ⟨_, g0, g1, g2, g3, g4⟩ := keep5 k2
  have ⟨⟨d0, d1, d2, d3, d4⟩, _⟩ := keep5 k2
  have K1 := Lib.hid k1
  have K2 := Lib.hid k2
  clear hb1 hs1 k0 k1 k2
  go_wp2_with fail
  have hoth : ∀ c, c ≠ w.heap.size + 1 + 1 → (w1.setCell ⟨w.heap.size + 1 + 1, 3, none⟩ (.slice a1 fs.length fs.length)).heap[c]? = w1.heap[c]? := fun c hc => Go.Deep.blk_setCell_other _ ⟨_, _, none⟩ _ c hc
  have K2' := Lib.hid (heap_setCell_same w1 (w.heap.size + 1 + 1) 3 _ _ (.slice a1 fs.length fs.length) K2.out)
  have K1' := Lib.hid ((hoth (w.heap.size + 1) (by omega)).trans K1.out)
  have HX2 := Lib.hid (HX1.out.block (w' := w1.setCell ⟨w.heap.size + 1 + 1, 3, none⟩ (.slice a1 fs.length fs.length)) fieldLies fun c x1 x2 => hoth c (by omega))
  have HB2 := Lib.hid (HB1.out.setCell (p := ⟨w.heap.size + 1 + 1, 3, none⟩) (by simp; omega) (.slice a1 fs.length fs.length))
  have hz2 : (w1.setCell ⟨w.heap.size + 1 + 1, 3, none⟩ (.slice a1 fs.length fs.length)).heap.size = w1.heap.size := by simp
  clear hoth K1 K2 HX1 HB1 c0 c1 c2 c3 c4 d0 d1 d2 d3 d4 g0 g1 g2 g3 g4
  generalize w1.setCell ⟨w.heap.size + 1 + 1, 3, none⟩ (.slice a1 fs.length fs.length) = w2 at *
  refine (toStringS _ A B c _ cc ms (H3.out.below textLies hB HB2.out) (Nat.le_trans hB HB2.out.size) hm).mono ?_
  rintro e w3 ⟨⟨c1, rfl, hs3⟩, hb3⟩
  have k1 := (hb3.block _ (by omega)).trans K1'.out
  have k2 := (hb3.block _ (by omega)).trans K2'.out
  have HX3 := Lib.hid (HX2.out.below fieldLies (by omega) hb3)
  have HB3 := Lib.hid (HB2.out.trans (hb3.mono HB2.out.size))
  have hz3 := hb3.size
  have HS3 := Lib.hid hs3
  have ⟨⟨d0, d1, d2, d3, d4⟩, g0, g1, g2, g3, g4⟩ := keep5 k2
  have ⟨⟨r0, r1, r2, r3, r4⟩, p0, p1, p2, p3, p4⟩ := keep5 k1
  have hne : w.heap.size + 1 ≠ w.heap.size + 1 + 1 := by omega
  have K1 := Lib.hid k1
  clear hb3 hs3 k1 k2 K1' K2' HX2 HB2
  go_wp2_with fail
  have hoth : ∀ c, c ≠ w.heap.size + 1 + 1 → (w3.setCell ⟨w.heap.size + 1 + 1, 4, none⟩ (.slice c1 ms.length ms.length)).heap[c]? = w3.heap[c]? := fun c hc => Go.Deep.blk_setCell_other _ ⟨_, _, none⟩ _ c hc
  obtain ⟨hr, _, _⟩ := putL_cells (w := w3.setCell ⟨w.heap.size + 1 + 1, 4, none⟩ (.slice c1 ms.length ms.length)) (g := w.heap.size + 1) (o := 0) (l := [.string nm, .int .i64 kd, .int .i64 by_, .slice a1 fs.length fs.length, .slice c1 ms.length ms.length]) ((hoth _ hne).trans K1.out) (by simp)
  have hsz := putL_size [.string nm, .int .i64 kd, .int .i64 by_, .slice a1 fs.length fs.length, .slice c1 ms.length ms.length] (w3.setCell ⟨w.heap.size + 1 + 1, 4, none⟩ (.slice c1 ms.length ms.length)) (w.heap.size + 1) 0
  rw [show (w3.setCell ⟨w.heap.size + 1 + 1, 4, none⟩ (.slice c1 ms.length ms.length)).heap.size = w3.heap.size by simp] at hsz
  have hot2 := fun c hc => (putL_other [.string nm, .int .i64 kd, .int .i64 by_, .slice a1 fs.length fs.length, .slice c1 ms.length ms.length] (w3.setCell ⟨w.heap.size + 1 + 1, 4, none⟩ (.slice c1 ms.length ms.length)) (w.heap.size + 1) 0 c hc)
  have HBF := putL_below (B := w.heap.size) (by omega) [.string nm, .int .i64 kd, .int .i64 by_, .slice a1 fs.length fs.length, .slice c1 ms.length ms.length] 0 (HB3.out.setCell (p := ⟨w.heap.size + 1 + 1, 4, none⟩) (by simp; omega) (.slice c1 ms.length ms.length)) (g := w.heap.size + 1)
  have HX4 := (HX3.out.block fieldLies (w' := putL (w3.setCell ⟨w.heap.size + 1 + 1, 4, none⟩ (.slice c1 ms.length ms.length)) (w.heap.size + 1) 0 [.string nm, .int .i64 kd, .int .i64 by_, .slice a1 fs.length fs.length, .slice c1 ms.length ms.length]) fun c x1 x2 => (hot2 c (by omega)).trans (hoth c (by omega)))
  have HS4 := (HS3.out.block textLies (w' := putL (w3.setCell ⟨w.heap.size + 1 + 1, 4, none⟩ (.slice c1 ms.length ms.length)) (w.heap.size + 1) 0 [.string nm, .int .i64 kd, .int .i64 by_, .slice a1 fs.length fs.length, .slice c1 ms.length ms.length]) fun c x1 x2 => (hot2 c (by omega)).trans (hoth c (by omega)))
  change bodyPost _ _ _ _ _ (putL (w3.setCell ⟨w.heap.size + 1 + 1, 4, none⟩ (.slice c1 ms.length ms.length)) (w.heap.size + 1) 0 [.string nm, .int .i64 kd, .int .i64 by_, .slice a1 fs.length fs.length, .slice c1 ms.length ms.length])
  clear hot2 hoth
  generalize putL (w3.setCell ⟨w.heap.size + 1 + 1, 4, none⟩ (.slice c1 ms.length ms.length)) (w.heap.size + 1) 0 [.string nm, .int .i64 kd, .int .i64 by_, .slice a1 fs.length fs.length, .slice c1 ms.length ms.length] = wz at *
  have ⟨e0, e1, e2, e3, e4⟩ := row5z hr
  refine bodyPost_ret (v := .agg #[.string nm, .int .i64 kd, .int .i64 by_, .slice a1 fs.length fs.length, .slice c1 ms.length ms.length]) (by simp [results, Tryz.results120, go_sem, e0, e1, e2, e3, e4]) rfl ⟨⟨a1, c1, rfl, a1, fs.length, c1, ms.length, w1.heap.size, rfl, HOK.out, ⟨HX4.wide (by omega) (Nat.le_refl _), Nat.le_refl _⟩, HS4.wide (by omega) (by omega), Nat.le_refl _⟩, HBF⟩
theorem infoType : (Tryz.prog.info? 48).map (fun i => (i.zero, i.size, i.bytes)) = some (some (.agg #[.string ⟨#[]⟩, .int .i64 0, .int .i64 0, .slice none 0 0, .slice none 0 0]), 5, 80) := by kernel_rfl
theorem make_types (n : Nat) (h : n ≤ 1048576) : ∃ Y : Array Value, Y.size = n * 5 ∧ ∀ W : World, (Instr.makeSlice 23 (.int .i64 (n : Int)) (.int .i64 (n : Int))).run Tryz.prog W = .ok (.slice (some ⟨W.heap.size, 0, none⟩) n n) (W.alloc (.cells Y 48)) := by
  obtain ⟨i, hi, hz⟩ := Option.map_eq_some_iff.1 infoType
  simp only [Prod.mk.injEq] at hz
  obtain ⟨hz, hs, hb⟩ := hz
  refine ⟨madeCells (Value.agg #[.string ⟨#[]⟩, .int .i64 0, .int .i64 0, .slice none 0 0, .slice none 0 0]).cells (n * 5), size_madeCells _ _, fun W => ?_⟩
  have := run_make (P := Tryz.prog) (w := W) 23 48 i _ Tryz.underlying23 hi hz .i64 .i64 (n : Int) (n : Int) (by omega) (Int.le_refl _) (by rw [hb]; omega) (by omega)
  rw [hs, Int.toNat_natCast] at this
  exact this
theorem toTypeS (w : World) (A B : Nat) (a : Option Addr) (len cap : Nat) (l : List TypeP) (hs : TypesAt w A B a len l) (hB : B ≤ w.heap.size) (hlen : len ≤ 1048576) (hm : ∀ x ∈ l, x.fields.length ≤ 1048576 ∧ x.members.length ≤ 1048576) :
    Calls Tryz.prog 70 #[.slice a len cap] w fun e w' => (∃ a', e = .returned (.slice a' len len) ∧ TypesX w' w.heap.size w'.heap.size a' len l) ∧ Below w.heap.size w w' := by
  have HS := Lib.hid hs
  have HM := Lib.hid hm
  obtain ⟨hll, _⟩ := hs
  obtain ⟨Y, hY, hmk⟩ := make_types len hlen
  subst hll
  clear hm
  go_enter Tryz.func70, Tryz.ntmps70
  go_wp2_with fail
  go_loopw [4] (fun i wr => ∃ (i' : Nat) (Y : Array Value), i' ≤ l.length ∧ i = .int .i64 i' ∧ Hid (Y.size = l.length * 5) ∧ wr.heap[w.heap.size]? = some (.cells Y 48 (0, 0)) ∧ Hid (LieRX 5 TypeLieX wr (l.take i') (w.heap.size + 1) wr.heap.size w.heap.size 0) ∧ Below w.heap.size w wr) (fun i _ => l.length - (intOf i).toNat)
  case atStart => exact ⟨0, Y, by omega, rfl, Lib.hid hY, heap_alloc_new w _, Lib.hid (by rw [List.take_zero]; show _ ≤ _; simp), (Below.refl _ _).alloc (Nat.le_refl _) _⟩
  case round =>
    obtain ⟨i, Y, hi, rfl, hY, hh, hl, hb⟩ := hrel
    have hg := lt_of_get hh
    have HB := Lib.hid hb
    by_cases hlt : i < l.length
    · have hli : (i : Int) < (l.length : Int) := by omega
      obtain ⟨x, b, off, hd, rfl, hA, hbb, hok, a1, ca, c, cc, hc, h2, h3⟩ := (HS.out.below typeLies (Nat.le_refl _) (hb.mono hB)).at hlt
      obtain ⟨c0, c1, c2, c3, c4⟩ := row5 hc
      have hxm := HM.out x (List.mem_of_getElem? hd)
      have HX : Hid (TypeAt wr A B (.agg #[.string x.name, .int .i64 x.kind, .int .i64 x.bytes, .slice a1 x.fields.length ca, .slice c x.members.length cc]) x) := Lib.hid ⟨a1, ca, c, cc, rfl, hok, h2, h3⟩
      have HH := Lib.hid hh
      have HD := Lib.hid hd
      have HOK := Lib.hid hok
      have HXM := Lib.hid hxm
      clear hlt hd hb hc hok hh h2 h3 hxm
      go_wp2_with fail
      refine (toType wr A B _ x HX.out (Nat.le_trans hB HB.out.size) HXM.out.1 HXM.out.2).mono ?_
      rintro e w1 ⟨⟨a2, c', rfl, hx1⟩, hb1⟩
      have hh1 := (hb1.block _ hg).trans HH.out
      have hsz : i * 5 + 4 < Y.size := by rw [hY.out]; omega
      have q0 := row_cell hh1 (k := i * 5) (by omega)
      have q1 := row_cell hh1 (k := i * 5 + 1) (by omega)
      have q2 := row_cell hh1 (k := i * 5 + 2) (by omega)
      have q3 := row_cell hh1 (k := i * 5 + 3) (by omega)
      have q4 := row_cell hh1 (k := i * 5 + 4) (by omega)
      have p0 := frozen_of_row w1 w.heap.size (i * 5) _ _ hh1
      have p1 := frozen_of_row w1 w.heap.size (i * 5 + 1) _ _ hh1
      have p2 := frozen_of_row w1 w.heap.size (i * 5 + 2) _ _ hh1
      have p3 := frozen_of_row w1 w.heap.size (i * 5 + 3) _ _ hh1
      have p4 := frozen_of_row w1 w.heap.size (i * 5 + 4) _ _ hh1
      obtain ⟨hr, hk, Z, hZ, hhZ⟩ := putL_cells (l := x.cells a2 x.fields.length c' x.members.length) (o := i * 5) hh1 (by simp [TypeP.cells]; omega)
      have HZ := Lib.hid (hZ.trans hY.out)
      have HHZ := Lib.hid hhZ
      have hoth := putL_other (x.cells a2 x.fields.length c' x.members.length) w1 w.heap.size (i * 5)
      have hxx : TypeX (putL w1 w.heap.size (i * 5) (x.cells a2 x.fields.length c' x.members.length)) wr.heap.size w1.heap.size (.agg (x.cells a2 x.fields.length c' x.members.length).toArray) x := hx1.block fun q q1 q2 => hoth q (by omega)
      have hlx : TypeLieX (putL w1 w.heap.size (i * 5) (x.cells a2 x.fields.length c' x.members.length)) wr.heap.size w1.heap.size w.heap.size (i * 5) x := by
        obtain ⟨a3, ca3, c3, cc3, M, e3, ok3, f3, m3⟩ := hxx
        simp [TypeP.cells] at e3
        obtain ⟨⟨rfl, rfl⟩, rfl, rfl⟩ := e3
        exact ⟨ok3, _, _, _, _, M, hr, f3, m3⟩
      have HL := Lib.hid (LieRX.step typeLiesX hl.out HD.out (Nat.lt_succ_self _) hb1 hg (putL_size (x.cells a2 x.fields.length c' x.members.length) w1 w.heap.size (i * 5)) hoth ⟨_, _, hhZ⟩ hk hlx)
      have HBZ := Lib.hid (putL_below (Nat.le_refl _) (x.cells a2 x.fields.length c' x.members.length) (i * 5) (HB.out.trans (hb1.mono HB.out.size)))
      clear hh1 hb1 hr hk hZ hhZ c0 c1 c2 c3 c4 hl hx1 hxx hlx hoth
      generalize Y[i * 5] = y0 at q0
      generalize Y[i * 5 + 1] = y1 at q1
      generalize Y[i * 5 + 2] = y2 at q2
      generalize Y[i * 5 + 3] = y3 at q3
      generalize Y[i * 5 + 4] = y4 at q4
      clear hsz
      simp only [TypeP.cells]
      go_wp2_with fail
      go_roundw
      case rel => exact ⟨i + 1, Z, by omega, by go_num, HZ, HHZ.out, HL, HBZ.out⟩
      case measure => simp [intOf]; omega
    · obtain rfl : i = l.length := by omega
      have HF := Lib.hid (RowsX.made (n := 5) (LX := TypeLieX) (l := l) (by omega) hg (by have := hl.out; rwa [List.take_length] at this))
      clear hlt hb hh hl
      go_wp2_with fail
      go_ret
      exact ⟨⟨_, rfl, HF.out⟩, HB.out⟩
theorem toSchema (w : World) (A B : Nat) (v : Value) (s : List TypeP) (hs : SchemaAt w A B v s) (hB : B ≤ w.heap.size) (hwt : schWt s ≤ 1048576) :
    Calls Tryz.prog 28 #[v] w fun e w' => (∃ a, e = .returned (.agg #[.slice a s.length s.length]) ∧ SchemaX w' w.heap.size w'.heap.size (.agg #[.slice a s.length s.length]) s) ∧ Below w.heap.size w w' := by
  obtain ⟨a, ca, rfl, h2, _⟩ := hs
  have H2 := Lib.hid h2
  unfold schWt at hwt
  have HM : Hid (∀ x ∈ s, x.fields.length ≤ 1048576 ∧ x.members.length ≤ 1048576) := Lib.hid fun x hx => by
    obtain ⟨i, hi⟩ := List.mem_iff_getElem?.1 hx
    have := sumOf_mem (f := TypeP.wt) hi
    have e : TypeP.wt x = x.name.size + (x.fields.length + sumOf FieldP.wt x.fields) + (x.members.length + sumOf ByteArray.size x.members) := rfl
    constructor <;> omega
  clear h2
  have HA : Hid (∀ o1 o2 o3, Below w.heap.size w (((w.alloc o1).alloc o2).alloc o3)) := Lib.hid fun o1 o2 o3 => (((Below.refl _ _).alloc (Nat.le_refl _) o1).alloc (by simp) o2).alloc (by simp; omega) o3
  go_enter Tryz.func28, Tryz.ntmps28
  go_wp2_with fail
  refine (toTypeS _ A B a _ ca s (H2.out.below typeLies hB (HA.out _ _ _)) (Nat.le_trans hB (HA.out _ _ _).size) (by omega) HM.out).mono ?_
  rintro e w1 ⟨⟨a1, rfl, hs1⟩, hb1⟩
  obtain ⟨k0, k1, k2⟩ := kept3 hb1
  have hz1 := hb1.size
  rw [show ∀ o1 o2 o3, (((w.alloc o1).alloc o2).alloc o3).heap.size = w.heap.size + 3 from fun _ _ _ => by simp] at hz1 hs1
  have HX1 := Lib.hid hs1
  have HB1 := Lib.hid ((HA.out _ _ _).trans (hb1.mono (HA.out _ _ _).size))
  have ⟨c0, g0⟩ := keep1 k1
  have ⟨d0, p0⟩ := keep1 k2
  have K1 := Lib.hid k1
  have hne : w.heap.size + 1 ≠ w.heap.size + 1 + 1 := by omega
  clear hb1 hs1 k0 k1 k2
  go_wp2_with fail
  have hoth : ∀ c, c ≠ w.heap.size + 1 + 1 → (w1.setCell ⟨w.heap.size + 1 + 1, 0, none⟩ (.slice a1 s.length s.length)).heap[c]? = w1.heap[c]? := fun c hc => Go.Deep.blk_setCell_other _ ⟨_, _, none⟩ _ c hc
  have hot2 : ∀ c, c ≠ w.heap.size + 1 → ((w1.setCell ⟨w.heap.size + 1 + 1, 0, none⟩ (.slice a1 s.length s.length)).setCell ⟨w.heap.size + 1, 0, none⟩ (.slice a1 s.length s.length)).heap[c]? = (w1.setCell ⟨w.heap.size + 1 + 1, 0, none⟩ (.slice a1 s.length s.length)).heap[c]? := fun c hc => Go.Deep.blk_setCell_other _ ⟨_, _, none⟩ _ c hc
  have hh := heap_setCell_same (w1.setCell ⟨w.heap.size + 1 + 1, 0, none⟩ (.slice a1 s.length s.length)) (w.heap.size + 1) 0 _ _ (.slice a1 s.length s.length) ((hoth _ hne).trans K1.out)
  have HB2 := (HB1.out.setCell (p := ⟨w.heap.size + 1 + 1, 0, none⟩) (by simp; omega) (.slice a1 s.length s.length)).setCell (p := ⟨w.heap.size + 1, 0, none⟩) (by simp) (.slice a1 s.length s.length)
  have HX2 := HX1.out.block (w' := (w1.setCell ⟨w.heap.size + 1 + 1, 0, none⟩ (.slice a1 s.length s.length)).setCell ⟨w.heap.size + 1, 0, none⟩ (.slice a1 s.length s.length)) typeLiesX fun c x1 x2 => (hot2 c (by omega)).trans (hoth c (by omega))
  have hsz : ((w1.setCell ⟨w.heap.size + 1 + 1, 0, none⟩ (.slice a1 s.length s.length)).setCell ⟨w.heap.size + 1, 0, none⟩ (.slice a1 s.length s.length)).heap.size = w1.heap.size := by simp
  clear hoth hot2
  generalize (w1.setCell ⟨w.heap.size + 1 + 1, 0, none⟩ (.slice a1 s.length s.length)).setCell ⟨w.heap.size + 1, 0, none⟩ (.slice a1 s.length s.length) = wz at *
  have ⟨e0, _⟩ := keep1 (v0 := .slice a1 s.length s.length) hh
  exact bodyPost_ret (v := .agg #[.slice a1 s.length s.length]) (by simp [results, Tryz.results28, go_sem, e0]) rfl ⟨⟨a1, rfl, a1, s.length, rfl, HX2.wide (by omega) (by omega), Nat.le_refl _⟩, HB2⟩
end Go.Proofs.YtceabbbmgfeofaaGreatDoor.Rw
