/-
  Contracts: l01Source, edge. Conditions: as each theorem says.
-/
import Derived.Test.YtlbjnblbjbdaaaaDoorRows
import Derived.Test.YtlbjnblbjbdaaaaDoorDraw
import Derived.OpenShut
namespace Go.Proofs.YtlbjnblbjbdaaaaDoor.Draws
open Go.RowKit Texts Bytes
set_option linter.unusedVariables false

/-- A slice of bytes that came in: it is nil; or it leads to a row of 'cap' cells, the numbers 'zs', each a byte. -/
def IsRow (k : IntKind) (w : World) (a : Option Addr) (len cap : Nat) (zs : List Int) : Prop :=
  (a = none ∧ len = 0 ∧ cap = 0 ∧ zs = []) ∨
  ∃ x, a = some x ∧ len ≤ cap ∧ cap ≤ maxLen ∧ zs.length = cap ∧ (∀ i, i < zs.length → w.cell? (x.add i) = some (.int k (zs.getD i 0))) ∧ ∀ n ∈ zs, (Lit.int k n).wf = true
/-- The bytes of a slice, as the walks want them. -/
def BytesAt (w : World) (B : Nat) (a : Option Addr) (len : Nat) : Prop :=
  ∀ i, i < len → ∃ b off x, a = some ⟨b, off, none⟩ ∧ b < B ∧ 0 ≤ x ∧ x ≤ 255 ∧ w.cell? ⟨b, off + i, none⟩ = some (.int .u8 x)
theorem BytesAt.of_row {w : World} {a : Option Addr} {len cap : Nat} {zs : List Int} (h : IsRow .u8 w a len cap zs) : BytesAt w w.heap.size a len := by
  intro i hi
  rcases h with ⟨_, h0, _⟩ | ⟨⟨b, off, spot⟩, ha, hl, hm, hz, hc, hw⟩
  · omega
  · have hs : spot = none := by
      have h0 := hc 0 (by omega)
      simpa [Addr.add] using World.cell?_spot h0
    subst hs
    have hci := hc i (by omega)
    have ea : (⟨b, off, none⟩ : Addr).add i = ⟨b, off + i, none⟩ := by unfold Addr.add; split <;> simp_all
    rw [ea] at hci
    have hwi := bounds_u8 (hw (zs.getD i 0) (by
      rw [List.getD_eq_getElem?_getD, List.getElem?_eq_getElem (by omega)]; exact List.getElem_mem _))
    have hb : b < w.heap.size := by
      rcases Nat.lt_or_ge b w.heap.size with k | k
      · exact k
      · unfold World.cell? at hci; rw [Array.getElem?_eq_none k] at hci; simp at hci
    exact ⟨b, off, _, ha, hb, hwi.1, hwi.2, hci⟩
theorem BytesAt.below {w w' : World} {B len : Nat} {a : Option Addr} (h : BytesAt w B a len) (g : Below B w w') : BytesAt w' B a len := fun i hi => by
  obtain ⟨b, off, x, ha, hb, h0, h1, hc⟩ := h i hi
  exact ⟨b, off, x, ha, hb, h0, h1, (g.cell (p := ⟨b, off + i, none⟩) hb).trans hc⟩

theorem BytesAt.mono {w : World} {B B' len : Nat} {a : Option Addr} (h : BytesAt w B a len) (hB : B ≤ B') : BytesAt w B' a len := fun i hi => by
  obtain ⟨b, off, x, ha, hb, h0, h1, hc⟩ := h i hi
  exact ⟨b, off, x, ha, by omega, h0, h1, hc⟩

set_option maxHeartbeats 2000000 in
theorem source (w : World) (len cap : Nat) (a : Option Addr) (h : BytesAt w w.heap.size a len) (hsm : len ≤ 140737488351232) :
    Calls Tryd.prog 19 #[.slice a len cap] w fun e w' => e = .returned (.pointer (some ⟨w.heap.size, 0, none⟩)) ∧ Src w' w.heap.size a len cap ∧ Below w.heap.size w w' := by
  have HB := Lib.hid h
  clear h
  go_enter Tryd.func19, Tryd.ntmps19
  go_wp2_with fail
  go_loopw [4] (fun i wr => ∃ (k : Nat) (m : Int), k ≤ len ∧ k ≤ 64 ∧ i = .int .i64 k ∧ wr.heap[w.heap.size]? = some (.cells #[.slice a len cap, .int .i64 0, .int .u64 m, .int .i64 0] 64 (0, 0)) ∧ Below w.heap.size w wr) (fun i _ => 64 - (intOf i).toNat)
  case atStart => exact ⟨0, _, by omega, by omega, rfl, heap_alloc_new w _, (Below.refl _ _).alloc (Nat.le_refl _) _⟩
  case round =>
    obtain ⟨k, m, hk, hk64, rfl, hh, hbel⟩ := hrel
    have c2 : wr.cell? ⟨w.heap.size, 2, none⟩ = some (.int .u64 m) := row_cell hh (k := 2) (by simp)
    have c3 : wr.cell? ⟨w.heap.size, 3, none⟩ = some (.int .i64 0) := row_cell hh (k := 3) (by simp)
    have f2 := frozen_of_row wr w.heap.size 2 _ _ hh
    have f3 := frozen_of_row wr w.heap.size 3 _ _ hh
    have HH := Lib.hid hh
    have HBL := Lib.hid hbel
    have hz := Lib.hid hbel.size
    clear hh hbel
    by_cases hlt : k < len ∧ k < 64
    · obtain ⟨b, off, x, rfl, hb, hx0, hx1, hc⟩ := (HB.out.below HBL.out) k hlt.1
      have hl1 := hlt.1
      have hl2 : (k : Int) < 64 := by omega
      have hbp : b ≠ w.heap.size := by omega
      clear hlt
      go_wp2_with fail
      go_region
      go_wp2_with fail
      have hh2 : (wr.setCell ⟨w.heap.size, 2, none⟩ (.int .u64 (IntKind.u64.wrap (bits BinOp.xor IntKind.u64 m x * 1099511628211)))).heap[w.heap.size]? = some (.cells #[.slice (some ⟨b, off, none⟩) len cap, .int .i64 0, .int .u64 (IntKind.u64.wrap (bits BinOp.xor IntKind.u64 m x * 1099511628211)), .int .i64 0] 64 (0, 0)) := by
        rw [heap_setCell_same wr w.heap.size 2 _ _ _ HH.out]; simp
      have HH2 := Lib.hid hh2
      clear hh2
      go_roundw
      case rel => exact ⟨k + 1, _, by omega, by omega, by go_num, HH2.out, (HBL.out.setCell (Nat.le_refl _) _).drew⟩
      case measure => simp [intOf]; omega
    · have hcase : k = len ∨ (k < len ∧ k = 64) := by omega
      have fin : ∀ (z : Int) (w' : World), Below w.heap.size w w' → w'.heap[w.heap.size]? = some (.cells #[.slice a len cap, .int .i64 0, .int .u64 m, .int .i64 z] 64 (0, 0)) → Src w' w.heap.size a len cap := fun z w' hb hh' => by
        refine ⟨⟨0, m, z, by omega, hh'⟩, HB.out.below hb, hsm, ?_⟩
        rcases Nat.lt_or_ge w.heap.size w'.heap.size with h | h
        · exact h
        · rw [Array.getElem?_eq_none h] at hh'; cases hh'
      have FIN := Lib.hid fin
      have hs1 : ∀ z : Int, (wr.setCell ⟨w.heap.size, 3, none⟩ (.int .i64 z)).heap[w.heap.size]? = some (.cells #[.slice a len cap, .int .i64 0, .int .u64 m, .int .i64 z] 64 (0, 0)) := fun z => by
        rw [heap_setCell_same wr w.heap.size 3 _ _ (.int .i64 z) HH.out]; simp
      have hs2 : ∀ y z : Int, ((wr.setCell ⟨w.heap.size, 3, none⟩ (.int .i64 y)).setCell ⟨w.heap.size, 3, none⟩ (.int .i64 z)).heap[w.heap.size]? = some (.cells #[.slice a len cap, .int .i64 0, .int .u64 m, .int .i64 z] 64 (0, 0)) := fun y z => by
        rw [heap_setCell_same _ w.heap.size 3 _ _ (.int .i64 z) (hs1 y)]; simp
      have HS1 := Lib.hid hs1
      have HS2 := Lib.hid hs2
      clear fin hs1 hs2 hlt
      by_cases hbig : 12 < (len : Int) / 20
      · rcases hcase with rfl | ⟨hl, hk'⟩
        · omega
        · have hge : (64 : Int) ≤ (k : Int) := by omega
          have hli : (k : Int) < (len : Int) := by omega
          clear hk'
          go_wp2_with fail
          go_ret
          exact ⟨rfl, FIN.out _ _ ((HBL.out.setCell (Nat.le_refl _) _).setCell (Nat.le_refl _) _) (HS2.out _ _), (HBL.out.setCell (Nat.le_refl _) _).setCell (Nat.le_refl _) _⟩
      · have hsmall : (len : Int) / 20 ≤ 12 := by omega
        clear hbig
        rcases hcase with rfl | ⟨hl, hk'⟩
        · go_wp2_with fail
          go_ret
          exact ⟨rfl, FIN.out _ _ (HBL.out.setCell (Nat.le_refl _) _) (HS1.out _), HBL.out.setCell (Nat.le_refl _) _⟩
        · have hge : (64 : Int) ≤ (k : Int) := by omega
          have hli : (k : Int) < (len : Int) := by omega
          clear hk'
          go_wp2_with fail
          go_ret
          exact ⟨rfl, FIN.out _ _ (HBL.out.setCell (Nat.le_refl _) _) (HS1.out _), HBL.out.setCell (Nat.le_refl _) _⟩

end Go.Proofs.YtlbjnblbjbdaaaaDoor.Draws
