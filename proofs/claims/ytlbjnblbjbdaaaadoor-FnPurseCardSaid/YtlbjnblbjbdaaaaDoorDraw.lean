/-
  Contracts: the draws of the laws (l01Source and its methods): what they answer lies within its limits; of what was there only the source is changed. Conditions: as each theorem says.
-/
import Derived.Test.YtlbjnblbjbdaaaaDoorRows
import Derived.Test.YtlbjnblbjbdaaaaDoorBytes
import Derived.RegionTactic
import Derived.BigRegion
import Derived.Laws.BitsAllLaws
namespace Go.Proofs.YtlbjnblbjbdaaaaDoor.Draws
open Go.RowKit Texts Bytes
set_option linter.unusedVariables false

/-- w' is w with new blocks, and writes to block p alone. -/
structure Only (p : Nat) (w w' : World) : Prop where
  os : w'.os = w.os
  tape : w'.tape = w.tape
  output : w'.output = w.output
  size : w.heap.size ≤ w'.heap.size
  block : ∀ k, k < w.heap.size → k ≠ p → w'.heap[k]? = w.heap[k]?
theorem Only.refl (p : Nat) (w : World) : Only p w w := ⟨rfl, rfl, rfl, Nat.le_refl _, fun _ _ _ => rfl⟩
theorem Only.trans {p : Nat} {a b c : World} (h : Only p a b) (g : Only p b c) : Only p a c :=
  ⟨g.os.trans h.os, g.tape.trans h.tape, g.output.trans h.output, Nat.le_trans h.size g.size, fun k hk hp => (g.block k (Nat.lt_of_lt_of_le hk h.size) hp).trans (h.block k hk hp)⟩
theorem Only.drew {p : Nat} {a b : World} (h : Only p a b) : Only p a b.drew := ⟨h.os, h.tape, h.output, h.size, h.block⟩
theorem Only.setCell {p : Nat} {a b : World} (h : Only p a b) (i : Nat) (v : Value) : Only p a (b.setCell ⟨p, i, none⟩ v) :=
  ⟨h.os, h.tape, h.output, by simpa using h.size, fun k hk hp => (Below.heap_setCell b ⟨p, i, none⟩ v k hp).trans (h.block k hk hp)⟩
theorem Only.of_below {p : Nat} {a b c : World} (h : Only p a b) {B : Nat} (hB : a.heap.size ≤ B) (g : Below B b c) : Only p a c :=
  ⟨g.os.trans h.os, g.tape.trans h.tape, g.output.trans h.output, Nat.le_trans h.size g.size, fun k hk hp => (g.block k (Nat.lt_of_lt_of_le hk hB)).trans (h.block k hk hp)⟩
theorem Only.below {p : Nat} {a b : World} (h : Only p a b) {B : Nat} (hp : B ≤ p) (hB : B ≤ a.heap.size) : Below B a b :=
  ⟨h.os, h.tape, h.output, h.size, fun k hk => h.block k (by omega) (by omega)⟩
theorem OwnB.only {w w' : World} {base p : Nat} {v : Value} {l : List UInt8} (h : OwnB w base v l) (g : Only p w w') (hp : p < base) : OwnB w' base v l := by
  obtain ⟨hl, ⟨hv, hn⟩ | ⟨gb, cap, cur, hv, hb, hg, hc, hm, hs, ht⟩⟩ := h
  · exact ⟨hl, .inl ⟨hv, hn⟩⟩
  · have hlt : gb < w.heap.size := by
      rcases Nat.lt_or_ge gb w.heap.size with h | h
      · exact h
      · rw [Array.getElem?_eq_none h] at hg; cases hg
    exact ⟨hl, .inr ⟨gb, cap, cur, hv, hb, (g.block gb hlt (by omega)).trans hg, hc, hm, hs, ht⟩⟩

/-- A source at block p, over the bytes that came in. -/
structure Src (w : World) (p : Nat) (a : Option Addr) (len cap : Nat) : Prop where
  ex : ∃ (k : Nat) (m z : Int), k ≤ len ∧ w.heap[p]? = some (.cells #[.slice a len cap, .int .i64 k, .int .u64 m, .int .i64 z] 64 (0, 0))
  row : ∀ i, i < len → ∃ b off x, a = some ⟨b, off, none⟩ ∧ b < p ∧ 0 ≤ x ∧ x ≤ 255 ∧ w.cell? ⟨b, off + i, none⟩ = some (.int .u8 x)
  small : len ≤ 140737488351232
  lt : p < w.heap.size
theorem Src.below {w w' : World} {p len cap : Nat} {a : Option Addr} (h : Src w p a len cap) {B : Nat} (hB : p < B) (g : Below B w w') : Src w' p a len cap := by
  refine ⟨?_, fun i hi => ?_, h.small, Nat.lt_of_lt_of_le h.lt g.size⟩
  · obtain ⟨k, m, z, hk, hh⟩ := h.ex
    exact ⟨k, m, z, hk, (g.block p hB).trans hh⟩
  · obtain ⟨b, off, x, ha, hb, h0, h1, hc⟩ := h.row i hi
    exact ⟨b, off, x, ha, hb, h0, h1, (g.cell (p := ⟨b, off + i, none⟩) (by show b < B; omega)).trans hc⟩
theorem Src.mk' {w w' : World} {p len cap : Nat} {a : Option Addr} (h : Src w p a len cap) (g : Only p w w') {k : Nat} {m z : Int} (hk : k ≤ len)
    (hh : w'.heap[p]? = some (.cells #[.slice a len cap, .int .i64 k, .int .u64 m, .int .i64 z] 64 (0, 0))) : Src w' p a len cap := by
  refine ⟨⟨k, m, z, hk, hh⟩, fun i hi => ?_, h.small, Nat.lt_of_lt_of_le h.lt g.size⟩
  obtain ⟨b, off, x, ha, hb, h0, h1, hc⟩ := h.row i hi
  exact ⟨b, off, x, ha, hb, h0, h1, ((g.below (B := p) (Nat.le_refl _) (Nat.le_of_lt h.lt)).cell (p := ⟨b, off + i, none⟩) hb).trans hc⟩
theorem mixes (m : Int) : ∃ M1 M2 M3 : Int, bits BinOp.xor IntKind.u64 m (IntKind.u64.wrap (m * 8192)) = M1 ∧ bits BinOp.xor IntKind.u64 M1 (M1 / 128) = M2 ∧ bits BinOp.xor IntKind.u64 M2 (IntKind.u64.wrap (M2 * 131072)) = M3 ∧
    0 ≤ M1 ∧ 0 ≤ M2 ∧ 0 ≤ M3 ∧ M3 / 1048576 ≤ 17592186044415 := by
  have h : ∀ a b : Int, 0 ≤ bits BinOp.xor IntKind.u64 a b ∧ bits BinOp.xor IntKind.u64 a b / 1048576 ≤ 17592186044415 := fun a b => by
    obtain ⟨z, hz⟩ : ∃ z : Int, bits BinOp.xor IntKind.u64 a b = IntKind.u64.wrap z := ⟨_, rfl⟩
    rw [hz, IntKind.wrap_u64]; omega
  exact ⟨_, _, _, rfl, rfl, rfl, (h _ _).1, (h _ _).1, (h _ _).1, (h _ _).2⟩
theorem two_sets {W : World} {a : Addr} {u : Value} (h : W.cell? a = some u) (x y : Value) : ((W.setCell a x).setCell a y).cell? a = some y :=
  World.cell?_setCell_same' _ _ _ (by rw [World.cell?_setCell_same' _ _ _ (by rw [h]; rfl)]; rfl)
theorem three_sets {W : World} {a : Addr} {u : Value} (h : W.cell? a = some u) (x y z : Value) : (((W.setCell a x).setCell a y).setCell a z).cell? a = some z :=
  World.cell?_setCell_same' _ _ _ (by rw [two_sets h x y]; rfl)

set_option maxHeartbeats 4000000 in
theorem src_n (w : World) (p len cap : Nat) (a : Option Addr) (h : Src w p a len cap) (most : Int) (hm : most ≤ 9223372036854775807) :
    Calls Tryd.prog 20 #[.pointer (some ⟨p, 0, none⟩), .int .i64 most] w fun e w' => (∃ r, e = .returned (.int .i64 r) ∧ 0 ≤ r ∧ (r < most ∨ r = 0)) ∧ Src w' p a len cap ∧ Only p w w' := by
  by_cases h1 : most ≤ 1
  · have HS := Lib.hid h
    clear h
    go_enter Tryd.func20, Tryd.ntmps20
    go_wp2_with fail
    go_ret
    exact ⟨⟨0, rfl, Int.le_refl _, .inr rfl⟩, HS.out, Only.refl _ _⟩
  have h1' : 1 < most := by omega
  clear h1
  obtain ⟨k, m, z, hk, hh⟩ := h.ex
  have c0 : w.cell? ⟨p, 0, none⟩ = some (.slice a len cap) := row_cell hh (k := 0) (by simp)
  have c1 : w.cell? ⟨p, 1, none⟩ = some (.int .i64 k) := row_cell hh (k := 1) (by simp)
  have c2 : w.cell? ⟨p, 2, none⟩ = some (.int .u64 m) := row_cell hh (k := 2) (by simp)
  have f1 := frozen_of_row w p 1 _ _ hh
  have f2 := frozen_of_row w p 2 _ _ hh
  have hsm := h.small
  have HS := Lib.hid h
  have HH := Lib.hid hh
  clear hh
  by_cases hlt : k < len
  · obtain ⟨b, off, x, rfl, hb, hx0, hx1, hc⟩ := h.row k hlt
    have hbp : b ≠ p := by omega
    clear h
    have e2 : (w.setCell ⟨p, 1, none⟩ (.int .i64 ((k : Int) + 1))).cell? ⟨p, 2, none⟩ = some (.int .u64 m) := by
      rw [World.cell?_setCell_other _ _ _ _ (by simp)]; exact c2
    have e3 := heap_setCell_same w p 1 _ _ (.int .i64 ((k : Int) + 1)) HH.out
    obtain ⟨M1, M2, M3, hM1, hM2, hM3, g1, g2, g3, g4⟩ := mixes m
    have d3 := two_sets (W := (w.setCell ⟨p, 1, none⟩ (.int .i64 ((k : Int) + 1)))) (a := ⟨p, 2, none⟩) e2 (.int .u64 M1) (.int .u64 M2)
    have d4 := three_sets (W := (w.setCell ⟨p, 1, none⟩ (.int .i64 ((k : Int) + 1)))) (a := ⟨p, 2, none⟩) e2 (.int .u64 M1) (.int .u64 M2) (.int .u64 M3)
    have hend : ((((w.setCell ⟨p, 1, none⟩ (.int .i64 ((k : Int) + 1))).setCell ⟨p, 2, none⟩ (.int .u64 M1)).setCell ⟨p, 2, none⟩ (.int .u64 M2)).setCell ⟨p, 2, none⟩ (.int .u64 M3)).heap[p]? =
        some (.cells #[.slice (some ⟨b, off, none⟩) len cap, .int .i64 ((k : Int) + 1), .int .u64 M3, .int .i64 z] 64 (0, 0)) := by
      rw [heap_setCell_same _ _ _ _ _ _ (heap_setCell_same _ _ _ _ _ _ (heap_setCell_same _ _ _ _ _ _ e3))]; simp
    have HE := Lib.hid hend
    have hmod0 : 0 ≤ (x + M3 / 1048576) % most := Int.emod_nonneg _ (by omega)
    have hmod1 : (x + M3 / 1048576) % most < most := Int.emod_lt_of_pos _ (by omega)
    clear hend e2 e3
    go_enter Tryd.func20, Tryd.ntmps20
    go_wp2_with fail
    go_region
    go_wp2_with fail
    go_region
    go_wp2_with fail
    go_region
    go_wp2_with fail
    go_region
    go_wp2_with fail
    go_region
    go_wp2_with fail
    go_ret
    have ho : ∀ y1 y2 y3 y4, Only p w ((((w.setCell ⟨p, 1, none⟩ y1).setCell ⟨p, 2, none⟩ y2).setCell ⟨p, 2, none⟩ y3).setCell ⟨p, 2, none⟩ y4) := fun _ _ _ _ => ((((Only.refl p w).setCell 1 _).setCell 2 _).setCell 2 _).setCell 2 _
    exact ⟨⟨_, rfl, hmod0, .inl hmod1⟩, HS.out.mk' (k := k + 1) (ho _ _ _ _).drew.drew.drew.drew.drew (by omega) HE.out, (ho _ _ _ _).drew.drew.drew.drew.drew⟩
  · have hge : len ≤ k := by omega
    clear h hlt
    obtain ⟨M1, M2, M3, hM1, hM2, hM3, g1, g2, g3, g4⟩ := mixes m
    have d3 := two_sets (W := w) (a := ⟨p, 2, none⟩) c2 (.int .u64 M1) (.int .u64 M2)
    have d4 := three_sets (W := w) (a := ⟨p, 2, none⟩) c2 (.int .u64 M1) (.int .u64 M2) (.int .u64 M3)
    have hend : (((w.setCell ⟨p, 2, none⟩ (.int .u64 M1)).setCell ⟨p, 2, none⟩ (.int .u64 M2)).setCell ⟨p, 2, none⟩ (.int .u64 M3)).heap[p]? =
        some (.cells #[.slice a len cap, .int .i64 k, .int .u64 M3, .int .i64 z] 64 (0, 0)) := by
      rw [heap_setCell_same _ _ _ _ _ _ (heap_setCell_same _ _ _ _ _ _ (heap_setCell_same _ _ _ _ _ _ HH.out))]; simp
    have HE := Lib.hid hend
    have hmod0 : 0 ≤ (M3 / 1048576) % most := Int.emod_nonneg _ (by omega)
    have hmod1 : (M3 / 1048576) % most < most := Int.emod_lt_of_pos _ (by omega)
    clear hend
    go_enter Tryd.func20, Tryd.ntmps20
    go_wp2_with fail
    go_region
    go_wp2_with fail
    go_region
    go_wp2_with fail
    go_region
    go_wp2_with fail
    go_region
    go_wp2_with fail
    go_ret
    have ho : ∀ y2 y3 y4, Only p w (((w.setCell ⟨p, 2, none⟩ y2).setCell ⟨p, 2, none⟩ y3).setCell ⟨p, 2, none⟩ y4) := fun _ _ _ => (((Only.refl p w).setCell 2 _).setCell 2 _).setCell 2 _
    exact ⟨⟨_, rfl, hmod0, .inl hmod1⟩, HS.out.mk' (k := k) (ho _ _ _).drew.drew.drew.drew (by omega) HE.out, (ho _ _ _).drew.drew.drew.drew⟩
end Go.Proofs.YtlbjnblbjbdaaaaDoor.Draws
