/-
  Contracts: strings.Clone answers its text; of what was there nothing is changed. Conditions: sizes within 2^47.
-/
import Derived.Test.YtceabbbmgfeofaaGreatDoorRows
import Derived.WalkKit
import Derived.Outline
import Derived.Lib.Hide
import Derived.Lib.Strings
import Derived.Lib.BufferWrite
import Derived.Lib.UnsafeStr
import Derived.Laws.MakeOwn
import Derived.Laws.IdiomStrings
import Derived.Lib.SlBytesRow
import Derived.Deep.OwnRows
namespace Go.Proofs.YtceabbbmgfeofaaGreatDoor.Texts
open Go.RowKit
set_option linter.unusedVariables false
theorem info5 : (Tryz.prog.info? 5).map (fun i => (i.zero, i.size, i.bytes)) = some (some (.int .u8 0), 1, 1) := by kernel_rfl
theorem size5 : (Tryz.prog.info? 5).map (·.size) = some 1 := by kernel_rfl
theorem cells5 : Tryz.prog.cellsOf 5 = 1 := by kernel_rfl
/-- The row that 'make([]byte, n)' lays. -/
def zeros (n : Nat) : Array Value := madeCells #[.int .u8 0] n
theorem zeros_size (n : Nat) : (zeros n).size = n := by simp [zeros, size_madeCells]
theorem make_bytes (n : Nat) (h : n ≤ 281474976710656) (W : World) :
    (Instr.makeSlice 22 (.int .i64 (n : Int)) (.int .i64 (n : Int))).run Tryz.prog W = .ok (.slice (some ⟨W.heap.size, 0, none⟩) n n) (W.alloc (.cells (zeros n) 5)) :=
  run_make_row' (P := Tryz.prog) 22 5 (.int .u8 0) 1 Tryz.underlying22 info5 rfl .i64 .i64 n (by omega) (by omega) W
theorem empty_of_size {b : ByteArray} (h : b.size = 0) : b = ByteArray.empty := by
  apply ByteArray.ext
  exact Array.eq_empty_of_size_eq_zero h
theorem below_row (w : World) (M Y : Array Value) (t : TypeId) : Below w.heap.size w ((w.alloc (.cells M t)).setRow w.heap.size Y) :=
  ((Below.refl _ w).alloc (Nat.le_refl _) _).trans ⟨rfl, rfl, rfl, by simp, fun k hk => setRow_other _ _ _ _ (by omega)⟩
theorem below_row2 (w : World) (M Y Z : Array Value) (t : TypeId) : Below w.heap.size w (((w.alloc (.cells M t)).setRow w.heap.size Y).setRow w.heap.size Z) :=
  (below_row w M Y t).trans ⟨rfl, rfl, rfl, by simp, fun k hk => setRow_other _ _ _ _ (by omega)⟩
theorem row_heap (w : World) (M Y : Array Value) (t : TypeId) : ((w.alloc (.cells M t)).setRow w.heap.size Y).heap[w.heap.size]? = some (.cells Y t (0, 0)) :=
  setRow_heap _ _ M _ t (0, 0) (heap_alloc_new w _)
theorem row2_heap (w : World) (M Y Z : Array Value) (t : TypeId) : (((w.alloc (.cells M t)).setRow w.heap.size Y).setRow w.heap.size Z).heap[w.heap.size]? = some (.cells Z t (0, 0)) :=
  setRow_heap _ _ Y _ t (0, 0) (row_heap w M Y t)
/-- 'string(b)' over a whole row of bytes. -/
theorem string_of_row {W : World} {g n : Nat} {Y : Array Value} {T : TypeId} {l : List UInt8} (h : W.heap[g]? = some (.cells Y T (0, 0))) (hY : Y.toList = Lib.byteCells l) (hn : l.length = n) (cap : Nat) :
    (convert 22 9 (.slice (some ⟨g, 0, none⟩) n cap)).run Tryz.prog W = .ok (.string ⟨l.toArray⟩) W := by
  subst hn
  refine run_convert_bytes_back (P := Tryz.prog) W 22 9 5 ⟨g, 0, none⟩ cap l Tryz.underlying22 Tryz.underlying5 Tryz.underlying9 (fun j hj => ?_)
  exact Lib.cells_of_row h Y.size j _ (by rw [List.take_of_length_le (by rw [Array.length_toList]; exact Nat.le_refl _), hY]; simp [Lib.byteCells, hj])
theorem str_eq (s : ByteArray) : (⟨s.data.toList.toArray⟩ : ByteArray) = s := by simp
end Go.Proofs.YtceabbbmgfeofaaGreatDoor.Texts
namespace Go.Proofs.YtceabbbmgfeofaaGreatDoor.Clones
open Go.RowKit Texts
set_option linter.unusedVariables false
theorem shape_of_row {W : World} {g : Nat} {Y : Array Value} {t : TypeId} (h : W.heap[g]? = some (.cells Y t (0, 0))) : W.shape? g = some (t, Y.size) := by
  unfold World.shape?; rw [h]
theorem ne_nil {s : ByteArray} (h : ¬ s.size = 0) : s.data.toList ≠ [] := by
  intro e
  have := congrArg List.length e
  exact h (by rw [Array.length_toList] at this; exact this)
theorem liteClone (s : ByteArray) (w : World) (hs : s.size ≤ 140737488351232) :
    Calls Tryz.prog 133 #[.string s] w fun e w' => e = .returned (.string s) ∧ Below w.heap.size w w' := by
  by_cases h0 : s.size = 0
  · obtain rfl := empty_of_size h0
    clear h0
    go_enter Tryz.func133, Tryz.ntmps133
    go_wp2_with fail
    go_ret
    exact ⟨rfl, Below.refl _ _⟩
  · have h1 : 0 < s.size := by omega
    have hz : ((s.size : Int) == 0) = false := beq_eq_false_iff_ne.2 (by omega)
    have hne := ne_nil h0
    clear h0
    have hmk := make_bytes s.size (by omega)
    obtain ⟨M, hM⟩ : ∃ M, M = zeros s.size := ⟨_, rfl⟩
    have hMs : M.size = s.size := by rw [hM, zeros_size]
    rw [← hM] at hmk
    clear hM
    have hcp := Lib.run_copy_row_string (P := Tryz.prog) (w.alloc (.cells M 5)) 22 9 3 5 w.heap.size 0 s.size s.size s M 5 Tryz.underlying22 size5 (heap_alloc_new w _) (by omega) (by omega)
    obtain ⟨Y, hY⟩ : ∃ Y, Y = (M.toList.take 0 ++ Lib.byteCells s.data.toList ++ M.toList.drop (0 + s.size)).toArray := ⟨_, rfl⟩
    rw [← hY] at hcp
    have hYl : Y.toList = Lib.byteCells s.data.toList := by
      rw [hY, List.toList_toArray, List.take_zero, List.nil_append, List.drop_of_length_le (by rw [Array.length_toList]; omega), List.append_nil]
    have hYs : Y.size = s.size := by rw [← Array.length_toList, hYl, Lib.byteCells_length]; simp
    have hUS := Lib.run_unsafeString_row (P := Tryz.prog) ((w.alloc (.cells M 5)).setRow w.heap.size Y) 279 3 9 5 Tryz.underlying279 cells5 w.heap.size Y.size (shape_of_row (row_heap w M Y _)) s.data.toList hne (by rw [hYs]; simp) (by simp; omega)
      (fun j x hx => Lib.cells_of_row (row_heap w M Y _) Y.size j _ (by rw [List.take_of_length_le (by rw [Array.length_toList]; exact Nat.le_refl _), hYl]; simp [Lib.byteCells, hx]))
    have hlen : s.data.toList.length = s.size := by simp
    rw [hlen, str_eq] at hUS
    have HYs := Lib.hid hYs
    have HMs := Lib.hid hMs
    clear hY hYl hYs hMs hlen hne
    go_enter Tryz.func133, Tryz.ntmps133
    go_wp2_with fail
    go_ret
    exact ⟨rfl, Lib.below_freeze (below_row w M Y _) (p := ⟨w.heap.size, 0, none⟩) (Nat.le_refl _) _⟩
theorem clone (s : ByteArray) (w : World) (hs : s.size ≤ 140737488351232) :
    Calls Tryz.prog 82 #[.string s] w fun e w' => e = .returned (.string s) ∧ Below w.heap.size w w' := by
  go_enter Tryz.func82, Tryz.ntmps82
  go_wp2_with (go_at_call 133; refine (liteClone s _ hs).mono ?_; rintro e w' ⟨rfl, hb⟩)
  go_ret
  exact ⟨rfl, hb⟩
end Go.Proofs.YtceabbbmgfeofaaGreatDoor.Clones
