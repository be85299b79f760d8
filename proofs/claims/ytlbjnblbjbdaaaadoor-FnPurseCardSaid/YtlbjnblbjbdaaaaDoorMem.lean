/-
  Rows of bytes: what 'make' lays, what 'string' reads; of what was there nothing is changed. Conditions: sizes within 2^47.
-/
import Derived.Test.YtlbjnblbjbdaaaaDoorRows
import Derived.WalkKit
import Derived.Outline
import Derived.Lib.Hide
import Derived.Lib.Strings
import Derived.Lib.BufferWrite
import Derived.Lib.UnsafeStr
import Derived.Laws.MakeOwn
import Derived.Laws.IdiomStrings
import Derived.Lib.SlBytesRow
import Derived.Deep.OwnRows
namespace Go.Proofs.YtlbjnblbjbdaaaaDoor.Texts
open Go.RowKit
set_option linter.unusedVariables false

theorem info5 : (Tryd.prog.info? 5).map (fun i => (i.zero, i.size, i.bytes)) = some (some (.int .u8 0), 1, 1) := by kernel_rfl
theorem size5 : (Tryd.prog.info? 5).map (·.size) = some 1 := by kernel_rfl
theorem cells5 : Tryd.prog.cellsOf 5 = 1 := by kernel_rfl

/-- The row that 'make([]byte, n)' lays. -/
def zeros (n : Nat) : Array Value := madeCells #[.int .u8 0] n
theorem zeros_size (n : Nat) : (zeros n).size = n := by simp [zeros, size_madeCells]
theorem make_bytes (n : Nat) (h : n ≤ 281474976710656) (W : World) :
    (Instr.makeSlice 22 (.int .i64 (n : Int)) (.int .i64 (n : Int))).run Tryd.prog W = .ok (.slice (some ⟨W.heap.size, 0, none⟩) n n) (W.alloc (.cells (zeros n) 5)) :=
  run_make_row' (P := Tryd.prog) 22 5 (.int .u8 0) 1 Tryd.underlying22 info5 rfl .i64 .i64 n (by omega) (by omega) W

theorem empty_of_size {b : ByteArray} (h : b.size = 0) : b = ByteArray.empty := by
  apply ByteArray.ext
  exact Array.eq_empty_of_size_eq_zero h
theorem below_row (w : World) (M Y : Array Value) (t : TypeId) : Below w.heap.size w ((w.alloc (.cells M t)).setRow w.heap.size Y) :=
  ((Below.refl _ w).alloc (Nat.le_refl _) _).trans ⟨rfl, rfl, rfl, by simp, fun k hk => setRow_other _ _ _ _ (by omega)⟩
theorem below_row2 (w : World) (M Y Z : Array Value) (t : TypeId) : Below w.heap.size w (((w.alloc (.cells M t)).setRow w.heap.size Y).setRow w.heap.size Z) :=
  (below_row w M Y t).trans ⟨rfl, rfl, rfl, by simp, fun k hk => setRow_other _ _ _ _ (by omega)⟩
theorem row_heap (w : World) (M Y : Array Value) (t : TypeId) : ((w.alloc (.cells M t)).setRow w.heap.size Y).heap[w.heap.size]? = some (.cells Y t (0, 0)) :=
  setRow_heap _ _ M _ t (0, 0) (heap_alloc_new w _)
theorem row2_heap (w : World) (M Y Z : Array Value) (t : TypeId) : (((w.alloc (.cells M t)).setRow w.heap.size Y).setRow w.heap.size Z).heap[w.heap.size]? = some (.cells Z t (0, 0)) :=
  setRow_heap _ _ Y _ t (0, 0) (row_heap w M Y t)
/-- 'string(b)' over a whole row of bytes. -/
theorem string_of_row {W : World} {g n : Nat} {Y : Array Value} {T : TypeId} {l : List UInt8} (h : W.heap[g]? = some (.cells Y T (0, 0))) (hY : Y.toList = Lib.byteCells l) (hn : l.length = n) (cap : Nat) :
    (convert 22 9 (.slice (some ⟨g, 0, none⟩) n cap)).run Tryd.prog W = .ok (.string ⟨l.toArray⟩) W := by
  subst hn
  refine run_convert_bytes_back (P := Tryd.prog) W 22 9 5 ⟨g, 0, none⟩ cap l Tryd.underlying22 Tryd.underlying5 Tryd.underlying9 (fun j hj => ?_)
  exact Lib.cells_of_row h Y.size j _ (by rw [List.take_of_length_le (by rw [Array.length_toList]; exact Nat.le_refl _), hY]; simp [Lib.byteCells, hj])
theorem str_eq (s : ByteArray) : (⟨s.data.toList.toArray⟩ : ByteArray) = s := by simp

end Go.Proofs.YtlbjnblbjbdaaaaDoor.Texts
