/-
  Contracts: laws.toField, toFieldS make lists like those that came in, in new memory; of what was there nothing is changed. Conditions: in memory, no list of more than 2^20.
-/
import Derived.Test.YtfcpihoegfbofaaRows
import Derived.Test.YtfcpihoegfbofaaSch
import Derived.Test.YtfcpihoegfbofaaToTx
import Derived.Test.YtfcpihoegfbofaaInfoS
namespace Go.Proofs.Ytfcpihoegfbofaa.Rw
open Go.RowKit
set_option linter.unusedVariables false
set_option maxRecDepth 100000

theorem toField (w : World) (x : FieldP) (hx : x.ok) :
    Calls Try.prog 43 #[.agg x.cells.toArray] w fun e w' => e = .returned (.agg x.cells.toArray) ∧ Below w.heap.size w w' := by
  obtain ⟨nm, tp, ls, mu, sz, cp⟩ := x
  obtain ⟨hk, hn, ⟨hs1, hs2⟩, hc1, hc2⟩ := hx
  unfold OkS at hk hn
  simp only [FieldP.cells] at hk hn hs1 hs2 hc1 hc2 ⊢
  have HA : Hid (∀ o1 o2 o3, Below w.heap.size w (((w.alloc o1).alloc o2).alloc o3)) := Lib.hid fun o1 o2 o3 => (((Below.refl _ _).alloc (Nat.le_refl _) o1).alloc (by simp) o2).alloc (by simp; omega) o3
  go_enter Try.func43, Try.ntmps43
  go_wp2_with fail
  exact bodyPost_ret (v := .agg #[.string nm, .string tp, .bool ls, .bool mu, .int .i64 sz, .int .i64 cp]) (by simp [results, Try.results43, go_sem]) rfl ⟨rfl, HA.out _ _ _⟩

theorem toFieldS (w : World) (A B : Nat) (a : Option Addr) (len cap : Nat) (l : List FieldP) (hs : FieldsAt w A B a len l) (hB : B ≤ w.heap.size) (hlen : len ≤ 1048576) :
    Calls Try.prog 34 #[.slice a len cap] w fun e w' => (∃ a', e = .returned (.slice a' len len) ∧ FieldsX w' w.heap.size w'.heap.size a' len l) ∧ Below w.heap.size w w' := by
  have HS := Lib.hid hs
  obtain ⟨hll, _⟩ := hs
  obtain ⟨Y, hY, hmk⟩ := make_fields len hlen
  subst hll
  go_enter Try.func34, Try.ntmps34
  go_wp2_with fail
  go_loopw [4] (fun i wr => ∃ (i' : Nat) (Y : Array Value), i' ≤ l.length ∧ i = .int .i64 i' ∧ Hid (Y.size = l.length * 6) ∧ wr.heap[w.heap.size]? = some (.cells Y 44 (0, 0)) ∧ Hid (LieRX 6 FieldLie wr (l.take i') (w.heap.size + 1) wr.heap.size w.heap.size 0) ∧ Below w.heap.size w wr) (fun i _ => l.length - (intOf i).toNat)
  case atStart => exact ⟨0, Y, by omega, rfl, Lib.hid hY, heap_alloc_new w _, Lib.hid (by rw [List.take_zero]; show _ ≤ _; simp), (Below.refl _ _).alloc (Nat.le_refl _) _⟩
  case round =>
    obtain ⟨i, Y, hi, rfl, hY, hh, hl, hb⟩ := hrel
    have hg := lt_of_get hh
    have HB := Lib.hid hb
    by_cases hlt : i < l.length
    · have hli : (i : Int) < (l.length : Int) := by omega
      obtain ⟨x, b, off, hd, rfl, hA, hbb, hok, hc⟩ := (HS.out.below fieldLies (Nat.le_refl _) (hb.mono hB)).at hlt
      obtain ⟨c0, c1, c2, c3, c4, c5⟩ := row6 hc
      have HC : Hid (∀ w, Calls Try.prog 43 #[.agg #[.string x.name, .string x.typ, .bool x.list, .bool x.must, .int .i64 x.size, .int .i64 x.cap]] w fun e w' => e = .returned (.agg #[.string x.name, .string x.typ, .bool x.list, .bool x.must, .int .i64 x.size, .int .i64 x.cap]) ∧ Below w.heap.size w w') := Lib.hid fun w => toField w x hok
      have HH := Lib.hid hh
      have HD := Lib.hid hd
      have HOK := Lib.hid hok
      clear hlt hd hb hc hok hh
      go_wp2_with fail
      refine (HC.out _).mono ?_
      rintro e w1 ⟨rfl, hb1⟩
      have hh1 := (hb1.block _ hg).trans HH.out
      have hsz : i * 6 + 5 < Y.size := by rw [hY.out]; omega
      have q0 := row_cell hh1 (k := i * 6) (by omega)
      have q1 := row_cell hh1 (k := i * 6 + 1) (by omega)
      have q2 := row_cell hh1 (k := i * 6 + 2) (by omega)
      have q3 := row_cell hh1 (k := i * 6 + 3) (by omega)
      have q4 := row_cell hh1 (k := i * 6 + 4) (by omega)
      have q5 := row_cell hh1 (k := i * 6 + 5) (by omega)
      have p0 := frozen_of_row w1 w.heap.size (i * 6) _ _ hh1
      have p1 := frozen_of_row w1 w.heap.size (i * 6 + 1) _ _ hh1
      have p2 := frozen_of_row w1 w.heap.size (i * 6 + 2) _ _ hh1
      have p3 := frozen_of_row w1 w.heap.size (i * 6 + 3) _ _ hh1
      have p4 := frozen_of_row w1 w.heap.size (i * 6 + 4) _ _ hh1
      have p5 := frozen_of_row w1 w.heap.size (i * 6 + 5) _ _ hh1
      obtain ⟨hr, hk, Z, hZ, hhZ⟩ := putL_cells (l := x.cells) (o := i * 6) hh1 (by simp [FieldP.cells]; omega)
      have HZ := Lib.hid (hZ.trans hY.out)
      have HHZ := Lib.hid hhZ
      have HL := Lib.hid (LieRX.step fieldLies hl.out HD.out (Nat.lt_succ_self _) hb1 hg (putL_size x.cells w1 w.heap.size (i * 6)) (fun c hc => putL_other x.cells w1 w.heap.size (i * 6) c hc) ⟨_, _, hhZ⟩ hk ⟨HOK.out, hr⟩)
      have HBZ := Lib.hid (putL_below (Nat.le_refl _) x.cells (i * 6) (HB.out.trans (hb1.mono HB.out.size)))
      clear hh1 hb1 hr hk hZ hhZ c0 c1 c2 c3 c4 c5 hl
      generalize Y[i * 6] = y0 at q0
      generalize Y[i * 6 + 1] = y1 at q1
      generalize Y[i * 6 + 2] = y2 at q2
      generalize Y[i * 6 + 3] = y3 at q3
      generalize Y[i * 6 + 4] = y4 at q4
      generalize Y[i * 6 + 5] = y5 at q5
      clear hsz
      go_wp2_with fail
      go_roundw
      case rel => exact ⟨i + 1, Z, by omega, by go_num, HZ, HHZ.out, HL, HBZ.out⟩
      case measure => simp [intOf]; omega
    · obtain rfl : i = l.length := by omega
      have HF := Lib.hid (RowsX.made (n := 6) (LX := FieldLie) (l := l) (by omega) hg (by have := hl.out; rwa [List.take_length] at this))
      clear hlt hb hh hl
      go_wp2_with fail
      go_ret
      exact ⟨⟨_, rfl, HF.out⟩, HB.out⟩
end Go.Proofs.Ytfcpihoegfbofaa.Rw
