/-
  Contracts: laws.toStringS, toField, toFieldS make lists like those that came in, in new memory; of what was there nothing is changed. Conditions: in memory, no list of more than 2^20.
-/
import Derived.Test.YtahcheahpbnkiaaGreatDoorRows
import Derived.Test.YtahcheahpbnkiaaGreatDoorSch
namespace Go.Proofs.YtahcheahpbnkiaaGreatDoor.Rw
open Go.RowKit
set_option linter.unusedVariables false
set_option maxRecDepth 100000

theorem infoStr : (Tryz.prog.info? 9).map (fun i => (i.zero, i.size, i.bytes)) = some (some (.string ⟨#[]⟩), 1, 16) := by kernel_rfl
theorem infoField : (Tryz.prog.info? 67).map (fun i => (i.zero, i.size, i.bytes)) = some (some (.agg #[.string ⟨#[]⟩, .string ⟨#[]⟩, .bool false, .bool false, .int .i64 0, .int .i64 0]), 6, 56) := by kernel_rfl
theorem make_strs (n : Nat) (h : n ≤ 1048576) : ∃ Y : Array Value, Y.size = n * 1 ∧ ∀ W : World, (Instr.makeSlice 57 (.int .i64 (n : Int)) (.int .i64 (n : Int))).run Tryz.prog W = .ok (.slice (some ⟨W.heap.size, 0, none⟩) n n) (W.alloc (.cells Y 9)) := by
  obtain ⟨i, hi, hz⟩ := Option.map_eq_some_iff.1 infoStr
  simp only [Prod.mk.injEq] at hz
  obtain ⟨hz, hs, hb⟩ := hz
  refine ⟨madeCells (Value.string ⟨#[]⟩).cells (n * 1), size_madeCells _ _, fun W => ?_⟩
  have := run_make (P := Tryz.prog) (w := W) 57 9 i _ Tryz.underlying57 hi hz .i64 .i64 (n : Int) (n : Int) (by omega) (Int.le_refl _) (by rw [hb]; omega) (by omega)
  rw [hs, Int.toNat_natCast] at this
  exact this
theorem make_fields (n : Nat) (h : n ≤ 1048576) : ∃ Y : Array Value, Y.size = n * 6 ∧ ∀ W : World, (Instr.makeSlice 63 (.int .i64 (n : Int)) (.int .i64 (n : Int))).run Tryz.prog W = .ok (.slice (some ⟨W.heap.size, 0, none⟩) n n) (W.alloc (.cells Y 67)) := by
  obtain ⟨i, hi, hz⟩ := Option.map_eq_some_iff.1 infoField
  simp only [Prod.mk.injEq] at hz
  obtain ⟨hz, hs, hb⟩ := hz
  refine ⟨madeCells (Value.agg #[.string ⟨#[]⟩, .string ⟨#[]⟩, .bool false, .bool false, .int .i64 0, .int .i64 0]).cells (n * 6), size_madeCells _ _, fun W => ?_⟩
  have := run_make (P := Tryz.prog) (w := W) 63 67 i _ Tryz.underlying63 hi hz .i64 .i64 (n : Int) (n : Int) (by omega) (Int.le_refl _) (by rw [hb]; omega) (by omega)
  rw [hs, Int.toNat_natCast] at this
  exact this

theorem toStringS (w : World) (A B : Nat) (a : Option Addr) (len cap : Nat) (l : List ByteArray) (hs : TextsAt w A B a len l) (hB : B ≤ w.heap.size) (hlen : len ≤ 1048576) :
    Calls Tryz.prog 204 #[.slice a len cap] w fun e w' => (∃ a', e = .returned (.slice a' len len) ∧ TextsX w' w.heap.size w'.heap.size a' len l) ∧ Below w.heap.size w w' := by
  have HS := Lib.hid hs
  have hll := Lib.hid hs.1
  obtain ⟨Y, hY, hmk⟩ := make_strs len hlen
  clear hs
  go_enter Tryz.func204, Tryz.ntmps204
  go_wp2_with fail
  go_loopw [4] (fun i wr => ∃ (i' : Nat) (Y : Array Value), i' ≤ len ∧ i = .int .i64 i' ∧ Hid (Y.size = len) ∧ wr.heap[w.heap.size]? = some (.cells Y 9 (0, 0)) ∧ Hid (∀ j y, j < i' → l[j]? = some y → OkS y ∧ Y[j]? = some (.string y)) ∧ Below w.heap.size w wr) (fun i _ => len - (intOf i).toNat)
  case atStart => exact ⟨0, Y, by omega, rfl, Lib.hid (by omega), heap_alloc_new w _, Lib.hid (fun j y h => by omega), (Below.refl _ _).alloc (Nat.le_refl _) _⟩
  case round =>
    obtain ⟨i, Y, hi, rfl, hY, hh, hl, hb⟩ := hrel
    have hg := lt_of_get hh
    have HB := Lib.hid hb
    by_cases hlt : i < len
    · have hli : (i : Int) < (len : Int) := by omega
      obtain ⟨x, b, off, hd, rfl, hA, hbb, hok, hc⟩ := (HS.out.below textLies (Nat.le_refl _) (hb.mono hB)).at hlt
      rw [Nat.mul_one] at hc
      have hsz : i < Y.size := by rw [hY.out]; exact hlt
      have q0 := row_cell hh (k := i) hsz
      have p0 := frozen_of_row wr w.heap.size i _ _ hh
      have HH : Hid ((wr.setCell ⟨w.heap.size, i, none⟩ (.string x)).heap[w.heap.size]? = some (.cells (Y.setIfInBounds i (.string x)) 9 (0, 0))) := Lib.hid (heap_setCell_same wr _ i _ _ _ hh)
      have HL : Hid (∀ j y, j < i + 1 → l[j]? = some y → OkS y ∧ (Y.setIfInBounds i (.string x))[j]? = some (.string y)) := Lib.hid fun j y hj hy => by
        by_cases e : j = i
        · subst e
          obtain rfl : x = y := by rw [hd] at hy; cases hy; rfl
          exact ⟨hok, by simp [hsz]⟩
        · rw [Array.getElem?_setIfInBounds_ne (by omega)]; exact hl.out j y (by omega) hy
      have HBZ := Lib.hid (HB.out.setCell (p := ⟨w.heap.size, i, none⟩) (Nat.le_refl _) (.string x))
      have HZ : Hid ((Y.setIfInBounds i (.string x)).size = len) := Lib.hid (by rw [Array.size_setIfInBounds]; exact hY.out)
      clear hh hlt hd hb hok hl
      generalize Y[i] = y0 at q0
      go_wp2_with fail
      go_roundw
      case rel => exact ⟨i + 1, Y.setIfInBounds i (.string x), by omega, by go_num, HZ, HH.out, HL, HBZ.out⟩
      case measure => simp [intOf]; omega
    · obtain rfl : i = len := by omega
      have hfin : TextsX wr w.heap.size wr.heap.size (some ⟨w.heap.size, 0, none⟩) i l := by
        refine ⟨hll.out, by omega, by omega, .inr ⟨_, _, rfl, Nat.le_refl _, hg, LieRX.flat ⟨_, _, hh⟩ hg (Nat.le_of_lt hg) fun j x hx => ?_⟩⟩
        have hj := (List.getElem?_eq_some_iff.1 hx).1
        have := hl.out j x (by rw [← hll.out]; exact hj) hx
        refine ⟨this.1, ?_⟩
        rw [Nat.zero_add, Nat.mul_one]; exact cell_of hh this.2
      have HF := Lib.hid hfin
      clear hlt hb hh hl hfin
      go_wp2_with fail
      go_ret
      exact ⟨⟨_, rfl, HF.out⟩, HB.out⟩

theorem toField (w : World) (x : FieldP) (hx : x.ok) :
    Calls Tryz.prog 229 #[.agg x.cells.toArray] w fun e w' => e = .returned (.agg x.cells.toArray) ∧ Below w.heap.size w w' := by
  obtain ⟨nm, tp, ls, mu, sz, cp⟩ := x
  obtain ⟨hk, hn, ⟨hs1, hs2⟩, hc1, hc2⟩ := hx
  unfold OkS at hk hn
  simp only [FieldP.cells] at hk hn hs1 hs2 hc1 hc2 ⊢
  have HA : Hid (∀ o1 o2 o3, Below w.heap.size w (((w.alloc o1).alloc o2).alloc o3)) := Lib.hid fun o1 o2 o3 => (((Below.refl _ _).alloc (Nat.le_refl _) o1).alloc (by simp) o2).alloc (by simp; omega) o3
  go_enter Tryz.func229, Tryz.ntmps229
  go_wp2_with fail
  exact bodyPost_ret (v := .agg #[.string nm, .string tp, .bool ls, .bool mu, .int .i64 sz, .int .i64 cp]) (by simp [results, Tryz.results229, go_sem]) rfl ⟨rfl, HA.out _ _ _⟩

theorem toFieldS (w : World) (A B : Nat) (a : Option Addr) (len cap : Nat) (l : List FieldP) (hs : FieldsAt w A B a len l) (hB : B ≤ w.heap.size) (hlen : len ≤ 1048576) :
    Calls Tryz.prog 203 #[.slice a len cap] w fun e w' => (∃ a', e = .returned (.slice a' len len) ∧ FieldsX w' w.heap.size w'.heap.size a' len l) ∧ Below w.heap.size w w' := by
  have HS := Lib.hid hs
  obtain ⟨hll, _⟩ := hs
  obtain ⟨Y, hY, hmk⟩ := make_fields len hlen
  subst hll
  go_enter Tryz.func203, Tryz.ntmps203
  go_wp2_with fail
  go_loopw [4] (fun i wr => ∃ (i' : Nat) (Y : Array Value), i' ≤ l.length ∧ i = .int .i64 i' ∧ Hid (Y.size = l.length * 6) ∧ wr.heap[w.heap.size]? = some (.cells Y 67 (0, 0)) ∧ Hid (LieRX 6 FieldLie wr (l.take i') (w.heap.size + 1) wr.heap.size w.heap.size 0) ∧ Below w.heap.size w wr) (fun i _ => l.length - (intOf i).toNat)
  case atStart => exact ⟨0, Y, by omega, rfl, Lib.hid hY, heap_alloc_new w _, Lib.hid (by rw [List.take_zero]; show _ ≤ _; simp), (Below.refl _ _).alloc (Nat.le_refl _) _⟩
  case round =>
    obtain ⟨i, Y, hi, rfl, hY, hh, hl, hb⟩ := hrel
    have hg := lt_of_get hh
    have HB := Lib.hid hb
    by_cases hlt : i < l.length
    · have hli : (i : Int) < (l.length : Int) := by omega
      obtain ⟨x, b, off, hd, rfl, hA, hbb, hok, hc⟩ := (HS.out.below fieldLies (Nat.le_refl _) (hb.mono hB)).at hlt
      obtain ⟨c0, c1, c2, c3, c4, c5⟩ := row6 hc
      have HC : Hid (∀ w, Calls Tryz.prog 229 #[.agg #[.string x.name, .string x.typ, .bool x.list, .bool x.must, .int .i64 x.size, .int .i64 x.cap]] w fun e w' => e = .returned (.agg #[.string x.name, .string x.typ, .bool x.list, .bool x.must, .int .i64 x.size, .int .i64 x.cap]) ∧ Below w.heap.size w w') := Lib.hid fun w => toField w x hok
      have HH := Lib.hid hh
      have HD := Lib.hid hd
      have HOK := Lib.hid hok
      clear hlt hd hb hc hok hh
      go_wp2_with fail
      refine (HC.out _).mono ?_
      rintro e w1 ⟨rfl, hb1⟩
      have hh1 := (hb1.block _ hg).trans HH.out
      have hsz : i * 6 + 5 < Y.size := by rw [hY.out]; omega
      have q0 := row_cell hh1 (k := i * 6) (by omega)
      have q1 := row_cell hh1 (k := i * 6 + 1) (by omega)
      have q2 := row_cell hh1 (k := i * 6 + 2) (by omega)
      have q3 := row_cell hh1 (k := i * 6 + 3) (by omega)
      have q4 := row_cell hh1 (k := i * 6 + 4) (by omega)
      have q5 := row_cell hh1 (k := i * 6 + 5) (by omega)
      have p0 := frozen_of_row w1 w.heap.size (i * 6) _ _ hh1
      have p1 := frozen_of_row w1 w.heap.size (i * 6 + 1) _ _ hh1
      have p2 := frozen_of_row w1 w.heap.size (i * 6 + 2) _ _ hh1
      have p3 := frozen_of_row w1 w.heap.size (i * 6 + 3) _ _ hh1
      have p4 := frozen_of_row w1 w.heap.size (i * 6 + 4) _ _ hh1
      have p5 := frozen_of_row w1 w.heap.size (i * 6 + 5) _ _ hh1
      obtain ⟨hr, hk, Z, hZ, hhZ⟩ := putL_cells (l := x.cells) (o := i * 6) hh1 (by simp [FieldP.cells]; omega)
      have HZ := Lib.hid (hZ.trans hY.out)
      have HHZ := Lib.hid hhZ
      have HL := Lib.hid (LieRX.step fieldLies hl.out HD.out (Nat.lt_succ_self _) hb1 hg (putL_size x.cells w1 w.heap.size (i * 6)) (fun c hc => putL_other x.cells w1 w.heap.size (i * 6) c hc) ⟨_, _, hhZ⟩ hk ⟨HOK.out, hr⟩)
      have HBZ := Lib.hid (putL_below (Nat.le_refl _) x.cells (i * 6) (HB.out.trans (hb1.mono HB.out.size)))
      clear hh1 hb1 hr hk hZ hhZ c0 c1 c2 c3 c4 c5 hl
      generalize Y[i * 6] = y0 at q0
      generalize Y[i * 6 + 1] = y1 at q1
      generalize Y[i * 6 + 2] = y2 at q2
      generalize Y[i * 6 + 3] = y3 at q3
      generalize Y[i * 6 + 4] = y4 at q4
      generalize Y[i * 6 + 5] = y5 at q5
      clear hsz
      go_wp2_with fail
      go_roundw
      case rel => exact ⟨i + 1, Z, by omega, by go_num, HZ, HHZ.out, HL, HBZ.out⟩
      case measure => simp [intOf]; omega
    · obtain rfl : i = l.length := by omega
      have HF := Lib.hid (RowsX.made (n := 6) (LX := FieldLie) (l := l) (by omega) hg (by have := hl.out; rwa [List.take_length] at this))
      clear hlt hb hh hl
      go_wp2_with fail
      go_ret
      exact ⟨⟨_, rfl, HF.out⟩, HB.out⟩
end Go.Proofs.YtahcheahpbnkiaaGreatDoor.Rw
