/-
  Contract: laws.toStringS makes a list like the one that came in, in new memory; of what was there nothing is changed. Conditions: in memory, no list of more than 2^20.
-/
import Derived.Test.YtfcpihoegfbofaaRows
import Derived.Test.YtfcpihoegfbofaaInfoT
namespace Go.Proofs.Ytfcpihoegfbofaa.Rw
open Go.RowKit
set_option linter.unusedVariables false
set_option maxRecDepth 100000

theorem toStringS (w : World) (A B : Nat) (a : Option Addr) (len cap : Nat) (l : List ByteArray) (hs : TextsAt w A B a len l) (hB : B ≤ w.heap.size) (hlen : len ≤ 1048576) :
    Calls Try.prog 35 #[.slice a len cap] w fun e w' => (∃ a', e = .returned (.slice a' len len) ∧ TextsX w' w.heap.size w'.heap.size a' len l) ∧ Below w.heap.size w w' := by
  have HS := Lib.hid hs
  have hll := Lib.hid hs.1
  obtain ⟨Y, hY, hmk⟩ := make_strs len hlen
  clear hs
  go_enter Try.func35, Try.ntmps35
  go_wp2_with fail
  go_loopw [4] (fun i wr => ∃ (i' : Nat) (Y : Array Value), i' ≤ len ∧ i = .int .i64 i' ∧ Hid (Y.size = len) ∧ wr.heap[w.heap.size]? = some (.cells Y 9 (0, 0)) ∧ Hid (∀ j y, j < i' → l[j]? = some y → OkS y ∧ Y[j]? = some (.string y)) ∧ Below w.heap.size w wr) (fun i _ => len - (intOf i).toNat)
  case atStart => exact ⟨0, Y, by omega, rfl, Lib.hid (by omega), heap_alloc_new w _, Lib.hid (fun j y h => by omega), (Below.refl _ _).alloc (Nat.le_refl _) _⟩
  case round =>
    obtain ⟨i, Y, hi, rfl, hY, hh, hl, hb⟩ := hrel
    have hg := lt_of_get hh
    have HB := Lib.hid hb
    by_cases hlt : i < len
    · have hli : (i : Int) < (len : Int) := by omega
      obtain ⟨x, b, off, hd, rfl, hA, hbb, hok, hc⟩ := (HS.out.below textLies (Nat.le_refl _) (hb.mono hB)).at hlt
      rw [Nat.mul_one] at hc
      have hsz : i < Y.size := by rw [hY.out]; exact hlt
      have q0 := row_cell hh (k := i) hsz
      have p0 := frozen_of_row wr w.heap.size i _ _ hh
      have HH : Hid ((wr.setCell ⟨w.heap.size, i, none⟩ (.string x)).heap[w.heap.size]? = some (.cells (Y.setIfInBounds i (.string x)) 9 (0, 0))) := Lib.hid (heap_setCell_same wr _ i _ _ _ hh)
      have HL : Hid (∀ j y, j < i + 1 → l[j]? = some y → OkS y ∧ (Y.setIfInBounds i (.string x))[j]? = some (.string y)) := Lib.hid fun j y hj hy => by
        by_cases e : j = i
        · subst e
          obtain rfl : x = y := by rw [hd] at hy; cases hy; rfl
          exact ⟨hok, by simp [hsz]⟩
        · rw [Array.getElem?_setIfInBounds_ne (by omega)]; exact hl.out j y (by omega) hy
      have HBZ := Lib.hid (HB.out.setCell (p := ⟨w.heap.size, i, none⟩) (Nat.le_refl _) (.string x))
      have HZ : Hid ((Y.setIfInBounds i (.string x)).size = len) := Lib.hid (by rw [Array.size_setIfInBounds]; exact hY.out)
      clear hh hlt hd hb hok hl
      generalize Y[i] = y0 at q0
      go_wp2_with fail
      go_roundw
      case rel => exact ⟨i + 1, Y.setIfInBounds i (.string x), by omega, by go_num, HZ, HH.out, HL, HBZ.out⟩
      case measure => simp [intOf]; omega
    · obtain rfl : i = len := by omega
      have hfin : TextsX wr w.heap.size wr.heap.size (some ⟨w.heap.size, 0, none⟩) i l := by
        refine ⟨hll.out, by omega, by omega, .inr ⟨_, _, rfl, Nat.le_refl _, hg, LieRX.flat ⟨_, _, hh⟩ hg (Nat.le_of_lt hg) fun j x hx => ?_⟩⟩
        have hj := (List.getElem?_eq_some_iff.1 hx).1
        have := hl.out j x (by rw [← hll.out]; exact hj) hx
        refine ⟨this.1, ?_⟩
        rw [Nat.zero_add, Nat.mul_one]; exact cell_of hh this.2
      have HF := Lib.hid hfin
      clear hlt hb hh hl hfin
      go_wp2_with fail
      go_ret
      exact ⟨⟨_, rfl, HF.out⟩, HB.out⟩

end Go.Proofs.Ytfcpihoegfbofaa.Rw
