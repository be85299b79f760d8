/-
  Contracts: strings.Clone answers its text, impl.joined the two texts one behind the other; of what was there nothing is changed. Conditions: sizes within 2^47.
-/
import Derived.Test.YtlncdkeooacebaaDoorMem
namespace Go.Proofs.YtlncdkeooacebaaDoor.Texts
open Go.RowKit
set_option linter.unusedVariables false

theorem joined_any (a b : ByteArray) (w : World) (ha : a.size + b.size ≤ 140737488351232) :
    Calls Tryd.prog 38 #[.string a, .string b] w fun e w' => e = .returned (.string (a ++ b)) ∧ Below w.heap.size w w' := by
  by_cases hb : b.size = 0
  · obtain rfl := empty_of_size hb
    clear hb
    have ha' : a.size ≤ 140737488351232 := by omega
    clear ha
    have hmk := make_bytes a.size (by omega)
    obtain ⟨M, hM⟩ : ∃ M, M = zeros a.size := ⟨_, rfl⟩
    have hMs : M.size = a.size := by rw [hM, zeros_size]
    rw [← hM] at hmk
    clear hM
    have hcp := Lib.run_copy_row_string (P := Tryd.prog) (w.alloc (.cells M 5)) 22 9 3 5 w.heap.size 0 a.size a.size a M 5 Tryd.underlying22 size5 (heap_alloc_new w _) (by omega) (by omega)
    obtain ⟨Y, hY⟩ : ∃ Y, Y = (M.toList.take 0 ++ Lib.byteCells a.data.toList ++ M.toList.drop (0 + a.size)).toArray := ⟨_, rfl⟩
    rw [← hY] at hcp
    have hYl : Y.toList = Lib.byteCells a.data.toList := by
      rw [hY, List.toList_toArray, List.take_zero, List.nil_append, List.drop_of_length_le (by rw [Array.length_toList]; omega), List.append_nil]
    have hst := string_of_row (row_heap w M Y 5) hYl (by simp : a.data.toList.length = a.size) a.size
    rw [str_eq] at hst
    have hce := fun W d l c => Lib.run_copy_empty_string (P := Tryd.prog) W 22 9 3 5 d l c ByteArray.empty Tryd.underlying22 (by rw [size5]; rfl) rfl
    have HYl := Lib.hid hYl
    clear hY hYl
    go_enter Tryd.func38, Tryd.ntmps38
    go_wp2_with fail
    go_ret
    exact ⟨by simp, below_row w M Y _⟩
  · have hb' : 0 < b.size := by omega
    have hbe : ¬ b = ByteArray.empty := by rintro rfl; exact hb rfl
    clear hb
    have hmk := make_bytes (a.size + b.size) (by omega)
    have esz : ((a.size + b.size : Nat) : Int) = (a.size : Int) + (b.size : Int) := by omega
    rw [esz] at hmk
    obtain ⟨M, hM⟩ : ∃ M, M = zeros (a.size + b.size) := ⟨_, rfl⟩
    have hMs : M.size = a.size + b.size := by rw [hM, zeros_size]
    rw [← hM] at hmk
    clear hM esz
    have hcp := Lib.run_copy_row_string (P := Tryd.prog) (w.alloc (.cells M 5)) 22 9 3 5 w.heap.size 0 (a.size + b.size) (a.size + b.size) a M 5 Tryd.underlying22 size5 (heap_alloc_new w _) (by omega) (by omega)
    obtain ⟨Y, hY⟩ : ∃ Y, Y = (M.toList.take 0 ++ Lib.byteCells a.data.toList ++ M.toList.drop (0 + a.size)).toArray := ⟨_, rfl⟩
    rw [← hY] at hcp
    have hYl : Y.toList = Lib.byteCells a.data.toList ++ M.toList.drop a.size := by
      rw [hY, List.toList_toArray, List.take_zero, List.nil_append, Nat.zero_add]
    have hla : (Lib.byteCells a.data.toList).length = a.size := by rw [Lib.byteCells_length]; simp
    have hYs : Y.size = a.size + b.size := by
      rw [← Array.length_toList, hYl, List.length_append, hla, List.length_drop, Array.length_toList]; omega
    clear hY
    have hcp2 := Lib.run_copy_row_string (P := Tryd.prog) ((w.alloc (.cells M 5)).setRow w.heap.size Y) 22 9 3 5 w.heap.size a.size b.size b.size b Y 5 Tryd.underlying22 size5 (row_heap w M Y _) (by omega) (by omega)
    obtain ⟨Z, hZ⟩ : ∃ Z, Z = (Y.toList.take a.size ++ Lib.byteCells b.data.toList ++ Y.toList.drop (a.size + b.size)).toArray := ⟨_, rfl⟩
    rw [← hZ] at hcp2
    have hZl : Z.toList = Lib.byteCells (a ++ b).data.toList := by
      rw [hZ, List.toList_toArray, List.drop_of_length_le (by rw [Array.length_toList]; omega), List.append_nil, hYl, List.take_append_of_le_length (by omega), List.take_of_length_le (by omega), ← Lib.byteCells_append]
      simp
    have hst := string_of_row (row2_heap w M Y Z 5) hZl (by simp : (a ++ b).data.toList.length = a.size + b.size) (a.size + b.size)
    rw [str_eq] at hst
    clear hZ hYl hla hZl
    have HYs := Lib.hid hYs
    have HMs := Lib.hid hMs
    clear hYs hMs
    go_enter Tryd.func38, Tryd.ntmps38
    go_wp2_with fail
    go_ret
    exact ⟨rfl, below_row2 w M Y Z _⟩

theorem shape_of_row {W : World} {g : Nat} {Y : Array Value} {t : TypeId} (h : W.heap[g]? = some (.cells Y t (0, 0))) : W.shape? g = some (t, Y.size) := by
  unfold World.shape?; rw [h]

theorem ne_nil {s : ByteArray} (h : ¬ s.size = 0) : s.data.toList ≠ [] := by
  intro e
  have := congrArg List.length e
  exact h (by rw [Array.length_toList] at this; exact this)
theorem liteClone (s : ByteArray) (w : World) (hs : s.size ≤ 140737488351232) :
    Calls Tryd.prog 92 #[.string s] w fun e w' => e = .returned (.string s) ∧ Below w.heap.size w w' := by
  by_cases h0 : s.size = 0
  · obtain rfl := empty_of_size h0
    clear h0
    go_enter Tryd.func92, Tryd.ntmps92
    go_wp2_with fail
    go_ret
    exact ⟨rfl, Below.refl _ _⟩
  · have h1 : 0 < s.size := by omega
    have hz : ((s.size : Int) == 0) = false := beq_eq_false_iff_ne.2 (by omega)
    have hne := ne_nil h0
    clear h0
    have hmk := make_bytes s.size (by omega)
    obtain ⟨M, hM⟩ : ∃ M, M = zeros s.size := ⟨_, rfl⟩
    have hMs : M.size = s.size := by rw [hM, zeros_size]
    rw [← hM] at hmk
    clear hM
    have hcp := Lib.run_copy_row_string (P := Tryd.prog) (w.alloc (.cells M 5)) 22 9 3 5 w.heap.size 0 s.size s.size s M 5 Tryd.underlying22 size5 (heap_alloc_new w _) (by omega) (by omega)
    obtain ⟨Y, hY⟩ : ∃ Y, Y = (M.toList.take 0 ++ Lib.byteCells s.data.toList ++ M.toList.drop (0 + s.size)).toArray := ⟨_, rfl⟩
    rw [← hY] at hcp
    have hYl : Y.toList = Lib.byteCells s.data.toList := by
      rw [hY, List.toList_toArray, List.take_zero, List.nil_append, List.drop_of_length_le (by rw [Array.length_toList]; omega), List.append_nil]
    have hYs : Y.size = s.size := by rw [← Array.length_toList, hYl, Lib.byteCells_length]; simp
    have hUS := Lib.run_unsafeString_row (P := Tryd.prog) ((w.alloc (.cells M 5)).setRow w.heap.size Y) 191 3 9 5 Tryd.underlying191 cells5 w.heap.size Y.size (shape_of_row (row_heap w M Y _)) s.data.toList hne (by rw [hYs]; simp) (by simp; omega)
      (fun j x hx => Lib.cells_of_row (row_heap w M Y _) Y.size j _ (by rw [List.take_of_length_le (by rw [Array.length_toList]; exact Nat.le_refl _), hYl]; simp [Lib.byteCells, hx]))
    have hlen : s.data.toList.length = s.size := by simp
    rw [hlen, str_eq] at hUS
    have HYs := Lib.hid hYs
    have HMs := Lib.hid hMs
    clear hY hYl hYs hMs hlen hne
    go_enter Tryd.func92, Tryd.ntmps92
    go_wp2_with fail
    go_ret
    exact ⟨rfl, Lib.below_freeze (below_row w M Y _) (p := ⟨w.heap.size, 0, none⟩) (Nat.le_refl _) _⟩

theorem clone (s : ByteArray) (w : World) (hs : s.size ≤ 140737488351232) :
    Calls Tryd.prog 59 #[.string s] w fun e w' => e = .returned (.string s) ∧ Below w.heap.size w w' := by
  go_enter Tryd.func59, Tryd.ntmps59
  go_wp2_with (go_at_call 92; refine (liteClone s _ hs).mono ?_; rintro e w' ⟨rfl, hb⟩)
  go_ret
  exact ⟨rfl, hb⟩
end Go.Proofs.YtlncdkeooacebaaDoor.Texts
