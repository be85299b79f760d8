/-
  Contracts: strings.Clone answers its text; of what was there nothing is changed. Conditions: sizes within 2^47.
-/
import Derived.Test.YthdncjdopejkkaaDoorRows
import Derived.Test.YthdncjdopejkkaaDoorMem
namespace Go.Proofs.YthdncjdopejkkaaDoor.Clones
open Go.RowKit Texts
set_option linter.unusedVariables false

theorem shape_of_row {W : World} {g : Nat} {Y : Array Value} {t : TypeId} (h : W.heap[g]? = some (.cells Y t (0, 0))) : W.shape? g = some (t, Y.size) := by
  unfold World.shape?; rw [h]

theorem ne_nil {s : ByteArray} (h : ¬ s.size = 0) : s.data.toList ≠ [] := by
  intro e
  have := congrArg List.length e
  exact h (by rw [Array.length_toList] at this; exact this)
theorem liteClone (s : ByteArray) (w : World) (hs : s.size ≤ 140737488351232) :
    Calls Tryd.prog 54 #[.string s] w fun e w' => e = .returned (.string s) ∧ Below w.heap.size w w' := by
  by_cases h0 : s.size = 0
  · obtain rfl := empty_of_size h0
    clear h0
    go_enter Tryd.func54, Tryd.ntmps54
    go_wp2_with fail
    go_ret
    exact ⟨rfl, Below.refl _ _⟩
  · have h1 : 0 < s.size := by omega
    have hz : ((s.size : Int) == 0) = false := beq_eq_false_iff_ne.2 (by omega)
    have hne := ne_nil h0
    clear h0
    have hmk := make_bytes s.size (by omega)
    obtain ⟨M, hM⟩ : ∃ M, M = zeros s.size := ⟨_, rfl⟩
    have hMs : M.size = s.size := by rw [hM, zeros_size]
    rw [← hM] at hmk
    clear hM
    have hcp := Lib.run_copy_row_string (P := Tryd.prog) (w.alloc (.cells M 5)) 137 9 3 5 w.heap.size 0 s.size s.size s M 5 Tryd.underlying137 size5 (heap_alloc_new w _) (by omega) (by omega)
    obtain ⟨Y, hY⟩ : ∃ Y, Y = (M.toList.take 0 ++ Lib.byteCells s.data.toList ++ M.toList.drop (0 + s.size)).toArray := ⟨_, rfl⟩
    rw [← hY] at hcp
    have hYl : Y.toList = Lib.byteCells s.data.toList := by
      rw [hY, List.toList_toArray, List.take_zero, List.nil_append, List.drop_of_length_le (by rw [Array.length_toList]; omega), List.append_nil]
    have hYs : Y.size = s.size := by rw [← Array.length_toList, hYl, Lib.byteCells_length]; simp
    have hUS := Lib.run_unsafeString_row (P := Tryd.prog) ((w.alloc (.cells M 5)).setRow w.heap.size Y) 138 3 9 5 Tryd.underlying138 cells5 w.heap.size Y.size (shape_of_row (row_heap w M Y _)) s.data.toList hne (by rw [hYs]; simp) (by simp; omega)
      (fun j x hx => Lib.cells_of_row (row_heap w M Y _) Y.size j _ (by rw [List.take_of_length_le (by rw [Array.length_toList]; exact Nat.le_refl _), hYl]; simp [Lib.byteCells, hx]))
    have hlen : s.data.toList.length = s.size := by simp
    rw [hlen, str_eq] at hUS
    have HYs := Lib.hid hYs
    have HMs := Lib.hid hMs
    clear hY hYl hYs hMs hlen hne
    go_enter Tryd.func54, Tryd.ntmps54
    go_wp2_with fail
    go_ret
    exact ⟨rfl, Lib.below_freeze (below_row w M Y _) (p := ⟨w.heap.size, 0, none⟩) (Nat.le_refl _) _⟩

theorem clone (s : ByteArray) (w : World) (hs : s.size ≤ 140737488351232) :
    Calls Tryd.prog 37 #[.string s] w fun e w' => e = .returned (.string s) ∧ Below w.heap.size w w' := by
  go_enter Tryd.func37, Tryd.ntmps37
  go_wp2_with (go_at_call 54; refine (liteClone s _ hs).mono ?_; rintro e w' ⟨rfl, hb⟩)
  go_ret
  exact ⟨rfl, hb⟩
end Go.Proofs.YthdncjdopejkkaaDoor.Clones
