/-
  Rows of fields and of texts of the call's own, grown by append: at the operation, and at a step of a region that draws; what they are in memory; no program's function. Conditions: as each theorem says.
-/
import Derived.Test.YtceabbbmgfeofaaGreatDoorRows
import Derived.Test.YtceabbbmgfeofaaGreatDoorRow
import Derived.Test.YtceabbbmgfeofaaGreatDoorSch
import Derived.Deep.AppendLies
namespace Go.Proofs.YtceabbbmgfeofaaGreatDoor.Rw
open Go.RowKit
set_option linter.unusedVariables false
set_option maxRecDepth 100000
theorem infoStr : (Tryz.prog.info? 9).map (fun i => (i.zero, i.size, i.bytes)) = some (some (.string ⟨#[]⟩), 1, 16) := by kernel_rfl
theorem make_strs (n : Nat) (h : n ≤ 1048576) : ∃ Y : Array Value, Y.size = n * 1 ∧ ∀ W : World, (Instr.makeSlice 40 (.int .i64 (n : Int)) (.int .i64 (n : Int))).run Tryz.prog W = .ok (.slice (some ⟨W.heap.size, 0, none⟩) n n) (W.alloc (.cells Y 9)) := by
  obtain ⟨i, hi, hz⟩ := Option.map_eq_some_iff.1 infoStr
  simp only [Prod.mk.injEq] at hz
  obtain ⟨hz, hs, hb⟩ := hz
  refine ⟨madeCells (Value.string ⟨#[]⟩).cells (n * 1), size_madeCells _ _, fun W => ?_⟩
  have := run_make (P := Tryz.prog) (w := W) 40 9 i _ Tryz.underlying40 hi hz .i64 .i64 (n : Int) (n : Int) (by omega) (Int.le_refl _) (by rw [hb]; omega) (by omega)
  rw [hs, Int.toNat_natCast] at this
  exact this
theorem infoField : (Tryz.prog.info? 50).map (fun i => (i.zero, i.size, i.bytes)) = some (some (.agg #[.string ⟨#[]⟩, .string ⟨#[]⟩, .bool false, .bool false, .int .i64 0, .int .i64 0]), 6, 56) := by kernel_rfl
theorem make_fields (n : Nat) (h : n ≤ 1048576) : ∃ Y : Array Value, Y.size = n * 6 ∧ ∀ W : World, (Instr.makeSlice 46 (.int .i64 (n : Int)) (.int .i64 (n : Int))).run Tryz.prog W = .ok (.slice (some ⟨W.heap.size, 0, none⟩) n n) (W.alloc (.cells Y 50)) := by
  obtain ⟨i, hi, hz⟩ := Option.map_eq_some_iff.1 infoField
  simp only [Prod.mk.injEq] at hz
  obtain ⟨hz, hs, hb⟩ := hz
  refine ⟨madeCells (Value.agg #[.string ⟨#[]⟩, .string ⟨#[]⟩, .bool false, .bool false, .int .i64 0, .int .i64 0]).cells (n * 6), size_madeCells _ _, fun W => ?_⟩
  have := run_make (P := Tryz.prog) (w := W) 46 50 i _ Tryz.underlying46 hi hz .i64 .i64 (n : Int) (n : Int) (by omega) (Int.le_refl _) (by rw [hb]; omega) (by omega)
  rw [hs, Int.toNat_natCast] at this
  exact this
def OwnFs (w : World) (base : Nat) (v : Value) (L : List FieldP) : Prop := w.ownsRow base 50 6 v L.length (L.flatMap FieldP.cells)
def OwnTs (w : World) (base : Nat) (v : Value) (l : List ByteArray) : Prop := w.ownsRow base 9 1 v l.length (l.map Value.string)
theorem OwnFs.nil (w : World) (base : Nat) : OwnFs w base (.slice none 0 0) [] := World.ownsRow_nil w base _ _
theorem OwnTs.nil (w : World) (base : Nat) : OwnTs w base (.slice none 0 0) [] := World.ownsRow_nil w base _ _
theorem owns_below {w w' : World} {base n B : Nat} {E : TypeId} {size : Nat} {v : Value} {xs : List Value} (h : w.ownsRow base E size v n xs) (g : ∀ c, base ≤ c → c < w.heap.size → w'.heap[c]? = w.heap[c]?) : w'.ownsRow base E size v n xs := by
  obtain ⟨hl, ⟨hv, hn⟩ | ⟨gb, cap, cur, hv, hb, hg, hc, hm, hs, ht⟩⟩ := h
  · exact ⟨hl, .inl ⟨hv, hn⟩⟩
  · exact ⟨hl, .inr ⟨gb, cap, cur, hv, hb, (g gb hb (lt_of_get hg)).trans hg, hc, hm, hs, ht⟩⟩
theorem OwnFs.frame {w w' : World} {base : Nat} {v : Value} {L : List FieldP} (h : OwnFs w base v L) (g : ∀ c, base ≤ c → c < w.heap.size → w'.heap[c]? = w.heap[c]?) : OwnFs w' base v L := owns_below (B := base) h g
theorem OwnTs.frame {w w' : World} {base : Nat} {v : Value} {l : List ByteArray} (h : OwnTs w base v l) (g : ∀ c, base ≤ c → c < w.heap.size → w'.heap[c]? = w.heap[c]?) : OwnTs w' base v l := owns_below (B := base) h g
theorem OwnFs.below {w w' : World} {base : Nat} {v : Value} {L : List FieldP} (h : OwnFs w base v L) (g : Below w.heap.size w w') : OwnFs w' base v L := h.frame fun c _ hc => g.block c hc
theorem OwnTs.below {w w' : World} {base : Nat} {v : Value} {l : List ByteArray} (h : OwnTs w base v l) (g : Below w.heap.size w w') : OwnTs w' base v l := h.frame fun c _ hc => g.block c hc
theorem OwnFs.fieldsX {w : World} {base : Nat} {v : Value} {L : List FieldP} (h : OwnFs w base v L) (hok : ∀ x ∈ L, x.ok) (hL : L.length ≤ 1048576) (hbase : base ≤ w.heap.size) : ∃ a cap, v = .slice a L.length cap ∧ L.length ≤ cap ∧ FieldsX w base w.heap.size a L.length L := by
  obtain ⟨hl, ⟨rfl, hn⟩ | ⟨gb, cap, cur, rfl, hb, hg, hc, hm, hs, ht⟩⟩ := h
  · obtain rfl : L = [] := List.eq_nil_of_length_eq_zero hn
    exact ⟨none, 0, rfl, Nat.le_refl _, RowsX.nil hbase⟩
  · have hlt := lt_of_get hg
    refine ⟨_, _, rfl, hc, rfl, by omega, hbase, .inr ⟨gb, 0, rfl, hb, hlt, LieRX.flat ⟨_, _, hg⟩ hlt hbase fun j y hj => ⟨hok y (List.mem_iff_getElem?.2 ⟨j, hj⟩), fun q u hq => ?_⟩⟩⟩
    have hjl := (List.getElem?_eq_some_iff.1 hj).1
    have hql : q < 6 := by have := (List.getElem?_eq_some_iff.1 hq).1; simpa [FieldP.cells] using this
    have key : ∀ (L : List FieldP) (j : Nat) (y : FieldP), L[j]? = some y → (L.flatMap FieldP.cells)[j * 6 + q]? = y.cells[q]? := by
      intro L
      induction L with
      | nil => intro j y h; simp at h
      | cons x L ih =>
        intro j y h
        cases j with
        | zero =>
          cases h
          rw [List.flatMap_cons, Nat.zero_mul, Nat.zero_add, List.getElem?_append_left (by simp [FieldP.cells]; omega)]
        | succ j =>
          rw [List.flatMap_cons, List.getElem?_append_right (by simp [FieldP.cells]; omega)]
          have e : (j + 1) * 6 + q - x.cells.length = j * 6 + q := by simp [FieldP.cells]; omega
          rw [e]; exact ih j y (by simpa using h)
    have h1 := key L j y hj
    rw [hq, ← ht, List.getElem?_take_of_lt (by omega)] at h1
    have h2 : cur[j * 6 + q]? = some u := by rw [← h1]; simp
    rw [Nat.zero_add]; exact cell_of hg h2
theorem OwnTs.textsX {w : World} {base : Nat} {v : Value} {l : List ByteArray} (h : OwnTs w base v l) (hok : ∀ x ∈ l, OkS x) (hL : l.length ≤ 1048576) (hbase : base ≤ w.heap.size) : ∃ a cap, v = .slice a l.length cap ∧ l.length ≤ cap ∧ TextsX w base w.heap.size a l.length l := by
  obtain ⟨hl, ⟨rfl, hn⟩ | ⟨gb, cap, cur, rfl, hb, hg, hc, hm, hs, ht⟩⟩ := h
  · obtain rfl : l = [] := List.eq_nil_of_length_eq_zero hn
    exact ⟨none, 0, rfl, Nat.le_refl _, RowsX.nil hbase⟩
  · have hlt := lt_of_get hg
    refine ⟨_, _, rfl, hc, rfl, by omega, hbase, .inr ⟨gb, 0, rfl, hb, hlt, LieRX.flat ⟨_, _, hg⟩ hlt hbase fun j y hj => ⟨hok y (List.mem_iff_getElem?.2 ⟨j, hj⟩), ?_⟩⟩⟩
    have hjl := (List.getElem?_eq_some_iff.1 hj).1
    have h1 : (l.map Value.string)[j]? = some (.string y) := by rw [List.getElem?_map, hj]; rfl
    rw [← ht, List.getElem?_take_of_lt (by omega)] at h1
    have h2 : cur[j]? = some (.string y) := by rw [← h1]; simp
    rw [Nat.zero_add, Nat.mul_one]; exact cell_of hg h2
section
variable {w : World} {ops : Array Oper} {o : Oper} {a : Act}
theorem app_text {rest : List Oper} {Q : Exit → Act → World → Prop} (hgd : o.guard = none) (s x : Operand)
    (ho : o.op = .call { callee := .builtin .append, args := #[s, x], argTypes := #[40, 40] })
    (base : Nat) (v : Value) (l : List ByteArray) (hs : a.eval s = v) (hown : OwnTs w base v l)
    (B c : Nat) (hx : a.eval x = .slice (some ⟨B, 0, none⟩) 1 c) (y : ByteArray) (hc : w.cell? ⟨B, 0, none⟩ = some (.string y))
    (hsize : l.length + 1 ≤ 1048576) (hbase : base ≤ w.heap.size)
    (h : ∀ a' cap w', OwnTs w' base (.slice a' (l.length + 1) cap) (l ++ [y]) → Below base w w' → wpList Tryz.prog ops Q rest (a.put o.dst (.slice a' (l.length + 1) cap)) w') : wpList Tryz.prog ops Q (o :: rest) a w := by
  obtain ⟨i0, hi, hz0, hz1, hz2⟩ := info_parts infoStr
  refine wpList_append_lies w hgd s x 40 ho base 9 i0 _ 1 16 Tryz.underlying40 hi hz0 hz1 hz2 rfl (by decide) v l.length (l.map Value.string) hs hown ⟨B, 0, none⟩ 1 c [.string y] hx rfl
    (fun j u hj => by
      have e : j = 0 := by have := (List.getElem?_eq_some_iff.1 hj).1; simp at this; exact this
      subst e; cases hj
      rw [add_plain]; exact hc) (fun u hu => ?_) (by omega) (by unfold maxLen; omega) (by omega) hbase _ rfl ?_
  · simp at hu; subst hu; rfl
  · intro g cap w' hown' hgrow _ _
    exact h _ cap w' (by unfold OwnTs; rw [List.length_append, List.map_append]; exact hown') ((Below.refl base w).grown hgrow hbase (fun k hk => (World.ownsRow.lt hown k hk).1))
theorem step_app_field {K : Act → World → Prop} {Q : Exit → Act → World → Prop} {E : Prop} (hgd : o.guard = none) (s x : Operand)
    (ho : o.op = .call { callee := .builtin .append, args := #[s, x], argTypes := #[46, 46] })
    (base : Nat) (v : Value) (L : List FieldP) (hs : a.eval s = v) (hown : OwnFs w base v L)
    (B c : Nat) (hx : a.eval x = .slice (some ⟨B, 0, none⟩) 1 c) (y : FieldP) (hc : w.heap[B]? = some (.cells y.cells.toArray 50 (0, 0)))
    (hsize : L.length + 1 ≤ 1048576) (hbase : base ≤ w.heap.size)
    (h : ∀ a' cap w', OwnFs w' base (.slice a' (L.length + 1) cap) (L ++ [y]) → Below base w w' → K (a.put o.dst (.slice a' (L.length + 1) cap)) w') : if Region.wanted o (yielded ops a.tmps) = true then Oper.wp Tryz.prog o a w K Q else E := by
  obtain ⟨i0, hi, hz0, hz1, hz2⟩ := info_parts infoField
  refine step_append_lies w hgd s x 46 ho base 50 i0 _ 6 56 Tryz.underlying46 hi hz0 hz1 hz2 rfl (by decide) v L.length (L.flatMap FieldP.cells) hs hown ⟨B, 0, none⟩ 1 c y.cells hx rfl
    (fun j u hj => World.news_of_block hc j u (by simpa using hj)) (fun u hu => ?_) (by omega) (by unfold maxLen; omega) (by omega) hbase _ rfl ?_
  · simp [FieldP.cells] at hu
    rcases hu with rfl | rfl | rfl | rfl | rfl | rfl <;> rfl
  · intro g cap w' hown' hgrow _ _
    refine h _ cap w' ?_ ((Below.refl base w).grown hgrow hbase (fun k hk => (World.ownsRow.lt hown k hk).1))
    unfold OwnFs
    rw [List.length_append, List.flatMap_append]; simpa using hown'
theorem app_field {rest : List Oper} {Q : Exit → Act → World → Prop} (hgd : o.guard = none) (s x : Operand)
    (ho : o.op = .call { callee := .builtin .append, args := #[s, x], argTypes := #[46, 46] })
    (base : Nat) (v : Value) (L : List FieldP) (hs : a.eval s = v) (hown : OwnFs w base v L)
    (B c : Nat) (hx : a.eval x = .slice (some ⟨B, 0, none⟩) 1 c) (y : FieldP) (hc : w.heap[B]? = some (.cells y.cells.toArray 50 (0, 0)))
    (hsize : L.length + 1 ≤ 1048576) (hbase : base ≤ w.heap.size)
    (h : ∀ a' cap w', OwnFs w' base (.slice a' (L.length + 1) cap) (L ++ [y]) → Below base w w' → wpList Tryz.prog ops Q rest (a.put o.dst (.slice a' (L.length + 1) cap)) w') : wpList Tryz.prog ops Q (o :: rest) a w := by
  obtain ⟨i0, hi, hz0, hz1, hz2⟩ := info_parts infoField
  refine wpList_append_lies w hgd s x 46 ho base 50 i0 _ 6 56 Tryz.underlying46 hi hz0 hz1 hz2 rfl (by decide) v L.length (L.flatMap FieldP.cells) hs hown ⟨B, 0, none⟩ 1 c y.cells hx rfl
    (fun j u hj => World.news_of_block hc j u (by simpa using hj)) (fun u hu => ?_) (by omega) (by unfold maxLen; omega) (by omega) hbase _ rfl ?_
  · simp [FieldP.cells] at hu
    rcases hu with rfl | rfl | rfl | rfl | rfl | rfl <;> rfl
  · intro g cap w' hown' hgrow _ _
    refine h _ cap w' ?_ ((Below.refl base w).grown hgrow hbase (fun k hk => (World.ownsRow.lt hown k hk).1))
    unfold OwnFs
    rw [List.length_append, List.flatMap_append]; simpa using hown'
end
end Go.Proofs.YtceabbbmgfeofaaGreatDoor.Rw
