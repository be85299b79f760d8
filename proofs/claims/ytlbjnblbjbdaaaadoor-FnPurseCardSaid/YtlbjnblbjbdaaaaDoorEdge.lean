/-
  Contract: the draw edge. Conditions: as each theorem says.
-/
import Derived.Test.YtlbjnblbjbdaaaaDoorRows
import Derived.Test.YtlbjnblbjbdaaaaDoorDrawSrc
namespace Go.Proofs.YtlbjnblbjbdaaaaDoor.Draws
open Go.RowKit Texts Bytes
set_option linter.unusedVariables false

/-- The fourteen numbers that 'edge' chooses from. -/
def edges : List Int := [0, 1, -1, 2, 1000, 1001, 2147483648, 2147483647, -2147483648, 4611686018427387904, 9223372036854775807, -9223372036854775808, 1000000, 1000001]
theorem edge_in : ∀ v ∈ edges, -9223372036854775808 ≤ v ∧ v ≤ 9223372036854775807 := by decide
theorem src_edge (w : World) (p len cap : Nat) (a : Option Addr) (h : Src w p a len cap) :
    Calls Tryd.prog 22 #[.pointer (some ⟨p, 0, none⟩)] w fun e w' => (∃ v : Int, e = .returned (.int .i64 v) ∧ -9223372036854775808 ≤ v ∧ v ≤ 9223372036854775807) ∧ Src w' p a len cap ∧ Only p w w' := by
  have hplt := h.lt
  have HS := Lib.hid h
  clear h
  go_enter Tryd.func22, Tryd.ntmps22
  go_wp2_with fail
  have hbW : Below w.heap.size w (w.alloc (.cells (edges.map (Value.int .i64)).toArray 2)) := (Below.refl _ _).alloc (Nat.le_refl _) _
  refine (src_n _ p len cap a (HS.out.below hplt hbW) 14 (by omega)).mono ?_
  rintro e w1 ⟨⟨r, rfl, hr0, hr1⟩, hs1, ho1⟩
  have hblk : w1.heap[w.heap.size]? = some (.cells (edges.map (Value.int .i64)).toArray 2 (0, 0)) := (ho1.block w.heap.size (by simp) (by omega)).trans (heap_alloc_new w _)
  obtain ⟨m, rfl⟩ := Int.eq_ofNat_of_zero_le hr0
  have hm : m < edges.length := by simp [edges]; omega
  have hc : w1.cell? ⟨w.heap.size, m, none⟩ = some (.int .i64 edges[m]) := by
    rw [row_cell hblk (k := m) (by simpa using hm)]; simp
  have hv := edge_in edges[m] (List.getElem_mem hm)
  have hm14 : m < 14 := hm
  generalize edges[m] = v at hc hv
  have HS1 := Lib.hid hs1
  have HO := Lib.hid (((Only.refl p w).of_below (Nat.le_refl _) hbW).trans ho1)
  clear hs1 ho1 hblk hbW hm hr1
  go_wp2_with fail
  go_ret
  exact ⟨⟨v, rfl, hv⟩, HS1.out, HO.out⟩
end Go.Proofs.YtlbjnblbjbdaaaaDoor.Draws
