/-
  What TypeOf and MembersOf tell of a schema, plainly: sizes; no program. Conditions: as each theorem says.
-/
import Derived.Test.YtceabbbmgfeofaaGreatDoorRows
import Derived.Test.YtceabbbmgfeofaaGreatDoorInfoS
import Derived.Deep.AppendLies
import Derived.Test.YtceabbbmgfeofaaGreatDoorFieldP
import Derived.Test.YtceabbbmgfeofaaGreatDoorRightP
namespace Go.Proofs.YtceabbbmgfeofaaGreatDoor.Rw
open Go.RowKit
set_option linter.unusedVariables false
set_option maxRecDepth 100000
def OwnFs (w : World) (base : Nat) (v : Value) (L : List FieldP) : Prop := w.ownsRow base 50 6 v L.length (L.flatMap FieldP.cells)
def OwnTs (w : World) (base : Nat) (v : Value) (l : List ByteArray) : Prop := w.ownsRow base 9 1 v l.length (l.map Value.string)
theorem OwnFs.nil (w : World) (base : Nat) : OwnFs w base (.slice none 0 0) [] := World.ownsRow_nil w base _ _
theorem OwnTs.nil (w : World) (base : Nat) : OwnTs w base (.slice none 0 0) [] := World.ownsRow_nil w base _ _
theorem owns_below {w w' : World} {base n B : Nat} {E : TypeId} {size : Nat} {v : Value} {xs : List Value} (h : w.ownsRow base E size v n xs) (g : ∀ c, base ≤ c → c < w.heap.size → w'.heap[c]? = w.heap[c]?) : w'.ownsRow base E size v n xs := by
  obtain ⟨hl, ⟨hv, hn⟩ | ⟨gb, cap, cur, hv, hb, hg, hc, hm, hs, ht⟩⟩ := h
  · exact ⟨hl, .inl ⟨hv, hn⟩⟩
  · exact ⟨hl, .inr ⟨gb, cap, cur, hv, hb, (g gb hb (lt_of_get hg)).trans hg, hc, hm, hs, ht⟩⟩
theorem OwnFs.frame {w w' : World} {base : Nat} {v : Value} {L : List FieldP} (h : OwnFs w base v L) (g : ∀ c, base ≤ c → c < w.heap.size → w'.heap[c]? = w.heap[c]?) : OwnFs w' base v L := owns_below (B := base) h g
theorem OwnTs.frame {w w' : World} {base : Nat} {v : Value} {l : List ByteArray} (h : OwnTs w base v l) (g : ∀ c, base ≤ c → c < w.heap.size → w'.heap[c]? = w.heap[c]?) : OwnTs w' base v l := owns_below (B := base) h g
theorem OwnFs.below {w w' : World} {base : Nat} {v : Value} {L : List FieldP} (h : OwnFs w base v L) (g : Below w.heap.size w w') : OwnFs w' base v L := h.frame fun c _ hc => g.block c hc
theorem OwnTs.below {w w' : World} {base : Nat} {v : Value} {l : List ByteArray} (h : OwnTs w base v l) (g : Below w.heap.size w w') : OwnTs w' base v l := h.frame fun c _ hc => g.block c hc
theorem OwnFs.fieldsX {w : World} {base : Nat} {v : Value} {L : List FieldP} (h : OwnFs w base v L) (hok : ∀ x ∈ L, x.ok) (hL : L.length ≤ 1048576) (hbase : base ≤ w.heap.size) : ∃ a cap, v = .slice a L.length cap ∧ L.length ≤ cap ∧ FieldsX w base w.heap.size a L.length L := by
  obtain ⟨hl, ⟨rfl, hn⟩ | ⟨gb, cap, cur, rfl, hb, hg, hc, hm, hs, ht⟩⟩ := h
  · obtain rfl : L = [] := List.eq_nil_of_length_eq_zero hn
    exact ⟨none, 0, rfl, Nat.le_refl _, RowsX.nil hbase⟩
  · have hlt := lt_of_get hg
    refine ⟨_, _, rfl, hc, rfl, by omega, hbase, .inr ⟨gb, 0, rfl, hb, hlt, LieRX.flat ⟨_, _, hg⟩ hlt hbase fun j y hj => ⟨hok y (List.mem_iff_getElem?.2 ⟨j, hj⟩), fun q u hq => ?_⟩⟩⟩
    have hjl := (List.getElem?_eq_some_iff.1 hj).1
    have hql : q < 6 := by have := (List.getElem?_eq_some_iff.1 hq).1; simpa [FieldP.cells] using this
    have key : ∀ (L : List FieldP) (j : Nat) (y : FieldP), L[j]? = some y → (L.flatMap FieldP.cells)[j * 6 + q]? = y.cells[q]? := by
      intro L
      induction L with
      | nil => intro j y h; simp at h
      | cons x L ih =>
        intro j y h
        cases j with
        | zero =>
          cases h
          rw [List.flatMap_cons, Nat.zero_mul, Nat.zero_add, List.getElem?_append_left (by simp [FieldP.cells]; omega)]
        | succ j =>
          rw [List.flatMap_cons, List.getElem?_append_right (by simp [FieldP.cells]; omega)]
          have e : (j + 1) * 6 + q - x.cells.length = j * 6 + q := by simp [FieldP.cells]; omega
          rw [e]; exact ih j y (by simpa using h)
    have h1 := key L j y hj
    rw [hq, ← ht, List.getElem?_take_of_lt (by omega)] at h1
    have h2 : cur[j * 6 + q]? = some u := by rw [← h1]; simp
    rw [Nat.zero_add]; exact cell_of hg h2
theorem OwnTs.textsX {w : World} {base : Nat} {v : Value} {l : List ByteArray} (h : OwnTs w base v l) (hok : ∀ x ∈ l, OkS x) (hL : l.length ≤ 1048576) (hbase : base ≤ w.heap.size) : ∃ a cap, v = .slice a l.length cap ∧ l.length ≤ cap ∧ TextsX w base w.heap.size a l.length l := by
  obtain ⟨hl, ⟨rfl, hn⟩ | ⟨gb, cap, cur, rfl, hb, hg, hc, hm, hs, ht⟩⟩ := h
  · obtain rfl : l = [] := List.eq_nil_of_length_eq_zero hn
    exact ⟨none, 0, rfl, Nat.le_refl _, RowsX.nil hbase⟩
  · have hlt := lt_of_get hg
    refine ⟨_, _, rfl, hc, rfl, by omega, hbase, .inr ⟨gb, 0, rfl, hb, hlt, LieRX.flat ⟨_, _, hg⟩ hlt hbase fun j y hj => ⟨hok y (List.mem_iff_getElem?.2 ⟨j, hj⟩), ?_⟩⟩⟩
    have hjl := (List.getElem?_eq_some_iff.1 hj).1
    have h1 : (l.map Value.string)[j]? = some (.string y) := by rw [List.getElem?_map, hj]; rfl
    rw [← ht, List.getElem?_take_of_lt (by omega)] at h1
    have h2 : cur[j]? = some (.string y) := by rw [← h1]; simp
    rw [Nat.zero_add, Nat.mul_one]; exact cell_of hg h2
section
variable {w : World} {ops : Array Oper} {o : Oper} {a : Act}
theorem app_text {rest : List Oper} {Q : Exit → Act → World → Prop} (hgd : o.guard = none) (s x : Operand)
    (ho : o.op = .call { callee := .builtin .append, args := #[s, x], argTypes := #[40, 40] })
    (base : Nat) (v : Value) (l : List ByteArray) (hs : a.eval s = v) (hown : OwnTs w base v l)
    (B c : Nat) (hx : a.eval x = .slice (some ⟨B, 0, none⟩) 1 c) (y : ByteArray) (hc : w.cell? ⟨B, 0, none⟩ = some (.string y))
    (hsize : l.length + 1 ≤ 1048576) (hbase : base ≤ w.heap.size)
    (h : ∀ a' cap w', OwnTs w' base (.slice a' (l.length + 1) cap) (l ++ [y]) → Below base w w' → wpList Tryz.prog ops Q rest (a.put o.dst (.slice a' (l.length + 1) cap)) w') : wpList Tryz.prog ops Q (o :: rest) a w := by
  obtain ⟨i0, hi, hz0, hz1, hz2⟩ := info_parts infoStr
  refine wpList_append_lies w hgd s x 40 ho base 9 i0 _ 1 16 Tryz.underlying40 hi hz0 hz1 hz2 rfl (by decide) v l.length (l.map Value.string) hs hown ⟨B, 0, none⟩ 1 c [.string y] hx rfl
    (fun j u hj => by
      have e : j = 0 := by have := (List.getElem?_eq_some_iff.1 hj).1; simp at this; exact this
      subst e; cases hj
      rw [add_plain]; exact hc) (fun u hu => ?_) (by omega) (by unfold maxLen; omega) (by omega) hbase _ rfl ?_
  · simp at hu; subst hu; rfl
  · intro g cap w' hown' hgrow _ _
    exact h _ cap w' (by unfold OwnTs; rw [List.length_append, List.map_append]; exact hown') ((Below.refl base w).grown hgrow hbase (fun k hk => (World.ownsRow.lt hown k hk).1))
theorem step_app_field {K : Act → World → Prop} {Q : Exit → Act → World → Prop} {E : Prop} (hgd : o.guard = none) (s x : Operand)
    (ho : o.op = .call { callee := .builtin .append, args := #[s, x], argTypes := #[46, 46] })
    (base : Nat) (v : Value) (L : List FieldP) (hs : a.eval s = v) (hown : OwnFs w base v L)
    (B c : Nat) (hx : a.eval x = .slice (some ⟨B, 0, none⟩) 1 c) (y : FieldP) (hc : w.heap[B]? = some (.cells y.cells.toArray 50 (0, 0)))
    (hsize : L.length + 1 ≤ 1048576) (hbase : base ≤ w.heap.size)
    (h : ∀ a' cap w', OwnFs w' base (.slice a' (L.length + 1) cap) (L ++ [y]) → Below base w w' → K (a.put o.dst (.slice a' (L.length + 1) cap)) w') : if Region.wanted o (yielded ops a.tmps) = true then Oper.wp Tryz.prog o a w K Q else E := by
  obtain ⟨i0, hi, hz0, hz1, hz2⟩ := info_parts infoField
  refine step_append_lies w hgd s x 46 ho base 50 i0 _ 6 56 Tryz.underlying46 hi hz0 hz1 hz2 rfl (by decide) v L.length (L.flatMap FieldP.cells) hs hown ⟨B, 0, none⟩ 1 c y.cells hx rfl
    (fun j u hj => World.news_of_block hc j u (by simpa using hj)) (fun u hu => ?_) (by omega) (by unfold maxLen; omega) (by omega) hbase _ rfl ?_
  · simp [FieldP.cells] at hu
    rcases hu with rfl | rfl | rfl | rfl | rfl | rfl <;> rfl
  · intro g cap w' hown' hgrow _ _
    refine h _ cap w' ?_ ((Below.refl base w).grown hgrow hbase (fun k hk => (World.ownsRow.lt hown k hk).1))
    unfold OwnFs
    rw [List.length_append, List.flatMap_append]; simpa using hown'
theorem app_field {rest : List Oper} {Q : Exit → Act → World → Prop} (hgd : o.guard = none) (s x : Operand)
    (ho : o.op = .call { callee := .builtin .append, args := #[s, x], argTypes := #[46, 46] })
    (base : Nat) (v : Value) (L : List FieldP) (hs : a.eval s = v) (hown : OwnFs w base v L)
    (B c : Nat) (hx : a.eval x = .slice (some ⟨B, 0, none⟩) 1 c) (y : FieldP) (hc : w.heap[B]? = some (.cells y.cells.toArray 50 (0, 0)))
    (hsize : L.length + 1 ≤ 1048576) (hbase : base ≤ w.heap.size)
    (h : ∀ a' cap w', OwnFs w' base (.slice a' (L.length + 1) cap) (L ++ [y]) → Below base w w' → wpList Tryz.prog ops Q rest (a.put o.dst (.slice a' (L.length + 1) cap)) w') : wpList Tryz.prog ops Q (o :: rest) a w := by
  obtain ⟨i0, hi, hz0, hz1, hz2⟩ := info_parts infoField
  refine wpList_append_lies w hgd s x 46 ho base 50 i0 _ 6 56 Tryz.underlying46 hi hz0 hz1 hz2 rfl (by decide) v L.length (L.flatMap FieldP.cells) hs hown ⟨B, 0, none⟩ 1 c y.cells hx rfl
    (fun j u hj => World.news_of_block hc j u (by simpa using hj)) (fun u hu => ?_) (by omega) (by unfold maxLen; omega) (by omega) hbase _ rfl ?_
  · simp [FieldP.cells] at hu
    rcases hu with rfl | rfl | rfl | rfl | rfl | rfl <;> rfl
  · intro g cap w' hown' hgrow _ _
    refine h _ cap w' ?_ ((Below.refl base w).grown hgrow hbase (fun k hk => (World.ownsRow.lt hown k hk).1))
    unfold OwnFs
    rw [List.length_append, List.flatMap_append]; simpa using hown'
end
theorem run_append_empty {w : World} (base : Nat) (t ty e : TypeId) (i : TypeInfo) (size : Nat) (ht : Tryz.prog.underlying t = some (.slice e)) (hi : Tryz.prog.info? e = some i)
    (v : Value) (n c : Nat) (xs : List Value) (hown : w.ownsRow base e size v n xs) :
    (Builtin.append_ #[t, t] ty #[v, .slice none 0 c]).run Tryz.prog w = .ok v w := by
  rcases hown.2 with ⟨rfl, rfl⟩ | ⟨g, cap, cur, rfl, _, _, hnc, _⟩
  · simp [Builtin.append_, run_underlying ht, sizeOf, typeInfo, hi, Builtin.lenOf, Builtin.firstCells]
  · simp [Builtin.append_, run_underlying ht, sizeOf, typeInfo, hi, Builtin.lenOf, Builtin.firstCells, hnc, storeCells]
theorem owns_slice {w : World} {base n : Nat} {E : TypeId} {size : Nat} {v : Value} {xs : List Value} (h : w.ownsRow base E size v n xs) : ∃ a cap, v = .slice a n cap := by
  obtain ⟨_, ⟨rfl, rfl⟩ | ⟨g, cap, cur, rfl, _⟩⟩ := h
  · exact ⟨none, 0, rfl⟩
  · exact ⟨_, _, rfl⟩
section
variable {w : World} {ops : Array Oper} {o : Oper} {a : Act} {rest : List Oper} {Q : Exit → Act → World → Prop}
theorem app_rows {α : Type} {size bytes : Nat} {E T : TypeId} {L : World → Nat → Nat → Nat → Nat → α → Prop} {cells : α → List Value} (z : Value) (hinfo : (Tryz.prog.info? E).map (fun i => (i.zero, i.size, i.bytes)) = some (some z, size, bytes)) (hzs : z.cells.size = size) (hT : Tryz.prog.underlying T = some (.slice E)) (hsz : 0 < size) (hby : bytes ≤ 56)
    (hcells : ∀ x : α, (cells x).length = size) (hone : ∀ (x : α), ∀ u ∈ cells x, u.oneCell' = true) (hL : ∀ {A B b off : Nat} {x : α}, L w A B b off x → ∀ j u, (cells x)[j]? = some u → w.cell? ⟨b, off + j, none⟩ = some u)
    (hgd : o.guard = none) (s x : Operand) (ho : o.op = .call { callee := .builtin .append, args := #[s, x], argTypes := #[T, T] })
    (base : Nat) (v : Value) (l0 : List α) (hs : a.eval s = v) (hown : w.ownsRow base E size v l0.length (l0.flatMap cells))
    (A B : Nat) (a1 : Option Addr) (len c : Nat) (l : List α) (hx : a.eval x = .slice a1 len c) (hr : RowsAt size L w A B a1 len l) (hsize : l0.length + len ≤ 2097152) (hbase : base ≤ w.heap.size)
    (h : ∀ a' cap w', w'.ownsRow base E size (.slice a' (l0.length + len) cap) (l0.length + len) ((l0 ++ l).flatMap cells) → Below base w w' → wpList Tryz.prog ops Q rest (a.put o.dst (.slice a' (l0.length + len) cap)) w') : wpList Tryz.prog ops Q (o :: rest) a w := by
  obtain ⟨i0, hi, hz0, hz1, hz2⟩ := info_parts hinfo
  have hlen : ∀ l : List α, (l.flatMap cells).length = l.length * size := by
    intro l
    induction l with
    | nil => simp
    | cons y l ih => rw [List.flatMap_cons, List.length_append, ih, hcells, List.length_cons, Nat.succ_mul]; omega
  obtain ⟨hll, _, hrow⟩ := hr
  subst hll
  cases a1 with
  | none =>
    have hl0 : l = [] := by
      rcases hrow with h | ⟨b, off, h, _⟩
      · exact h
      · cases h
    subst hl0
    obtain ⟨av, cav, rfl⟩ := owns_slice hown
    refine wpList_plain hgd fun K hK => ?_
    have hrun := run_append_empty (w := w) base T o.type E i0 size hT hi _ l0.length c _ hown
    unfold Oper.wp
    simp only [List.length_nil] at hx
    simp [execOp, ho, resolve, invoke, builtin, hs, hx, hrun, Result.andThen]
    exact hK _ _ (h av cav w (by simpa using hown) (Below.refl _ _))
  | some ad =>
    have hnews : ∀ j u, (l.flatMap cells)[j]? = some u → w.cell? (ad.add j) = some u := by
      intro j u hj
      rcases hrow with rfl | ⟨b, off, he, _, _, hat⟩
      · simp at hj
      · cases he
        rw [add_plain]
        have key : ∀ (l : List α) (off : Nat), (∀ (i : Nat) (x : α), l[i]? = some x → L w A B b (off + i * size) x) → ∀ (j : Nat) (u : Value), (l.flatMap cells)[j]? = some u → w.cell? ⟨b, off + j, none⟩ = some u := by
          intro l
          induction l with
          | nil => intro off _ j u h; simp at h
          | cons y l ih =>
            intro off hat j u hj
            rw [List.flatMap_cons] at hj
            by_cases hjl : j < size
            · rw [List.getElem?_append_left (by rw [hcells]; exact hjl)] at hj
              have := hat 0 y rfl
              rw [Nat.zero_mul, Nat.add_zero] at this
              exact hL this j u hj
            · rw [List.getElem?_append_right (by rw [hcells]; omega), hcells] at hj
              have := ih (off + size) (fun i x hx => by
                have := hat (i + 1) x (by simpa using hx)
                rwa [show off + (i + 1) * size = off + size + i * size by rw [Nat.succ_mul]; omega] at this) (j - size) u hj
              rwa [show off + size + (j - size) = off + j by omega] at this
        exact key l off hat j u hj
    have hb1 : (l0.length + l.length) * bytes ≤ 140737488355328 := by
      have := Nat.mul_le_mul hsize hby
      omega
    refine wpList_append_own w hgd s x T ho base E i0 z size bytes hT hi hz0 hz1 hz2 hzs hsz v l0.length (l0.flatMap cells) hs hown ad l.length c (l.flatMap cells) hx (hlen l) hnews (fun u hu => ?_) (by unfold maxLen; omega) hb1 hbase fun v' w' hown' hgrow _ => ?_
    · obtain ⟨y, _, hy⟩ := List.mem_flatMap.1 hu
      exact hone y u hy
    · obtain ⟨a', cap, rfl⟩ := owns_slice hown'
      exact h a' cap w' (by rw [List.flatMap_append]; exact hown') ((Below.refl base w).grown hgrow hbase (fun k hk => (World.ownsRow.lt hown k hk).1))
theorem map_flat (l : List ByteArray) : l.flatMap (fun y => [Value.string y]) = l.map Value.string := by
  induction l with
  | nil => rfl
  | cons y l ih => rw [List.flatMap_cons, ih]; rfl
theorem app_texts (hgd : o.guard = none) (s x : Operand) (ho : o.op = .call { callee := .builtin .append, args := #[s, x], argTypes := #[40, 40] })
    (base : Nat) (v : Value) (l0 : List ByteArray) (hs : a.eval s = v) (hown : OwnTs w base v l0)
    (A B : Nat) (a1 : Option Addr) (len c : Nat) (l : List ByteArray) (hx : a.eval x = .slice a1 len c) (hr : TextsAt w A B a1 len l) (hsize : l0.length + len ≤ 2097152) (hbase : base ≤ w.heap.size)
    (h : ∀ a' cap w', OwnTs w' base (.slice a' (l0.length + len) cap) (l0 ++ l) → Below base w w' → wpList Tryz.prog ops Q rest (a.put o.dst (.slice a' (l0.length + len) cap)) w') : wpList Tryz.prog ops Q (o :: rest) a w := by
  have hll := hr.1
  refine app_rows (L := TextLie) (cells := fun y => [Value.string y]) _ infoStr rfl Tryz.underlying40 (by omega) (by omega) (fun _ => rfl) (fun y u hu => by simp at hu; subst hu; rfl) (fun {A B b off y} hl j u hj => ?_) hgd s x ho base v l0 hs (by rw [map_flat]; exact hown) A B a1 len c l hx hr hsize hbase fun a' cap w' h1 h2 => h a' cap w' ?_ h2
  · have e : j = 0 := by have := (List.getElem?_eq_some_iff.1 hj).1; simp at this; exact this
    subst e; cases hj; exact hl.2
  · unfold OwnTs; rw [List.length_append, hll]; rw [map_flat] at h1; exact h1
theorem app_fields (hgd : o.guard = none) (s x : Operand) (ho : o.op = .call { callee := .builtin .append, args := #[s, x], argTypes := #[46, 46] })
    (base : Nat) (v : Value) (l0 : List FieldP) (hs : a.eval s = v) (hown : OwnFs w base v l0)
    (A B : Nat) (a1 : Option Addr) (len c : Nat) (l : List FieldP) (hx : a.eval x = .slice a1 len c) (hr : FieldsAt w A B a1 len l) (hsize : l0.length + len ≤ 2097152) (hbase : base ≤ w.heap.size)
    (h : ∀ a' cap w', OwnFs w' base (.slice a' (l0.length + len) cap) (l0 ++ l) → Below base w w' → wpList Tryz.prog ops Q rest (a.put o.dst (.slice a' (l0.length + len) cap)) w') : wpList Tryz.prog ops Q (o :: rest) a w := by
  have hll := hr.1
  refine app_rows (L := FieldLie) (cells := FieldP.cells) _ infoField rfl Tryz.underlying46 (by omega) (by omega) (fun _ => rfl) (fun y u hu => ?_) (fun {A B b off y} hl j u hj => hl.2 j u hj) hgd s x ho base v l0 hs hown A B a1 len c l hx hr hsize hbase fun a' cap w' h1 h2 => h a' cap w' ?_ h2
  · simp [FieldP.cells] at hu
    rcases hu with rfl | rfl | rfl | rfl | rfl | rfl <;> rfl
  · unfold OwnFs; rw [List.length_append, hll]; exact h1
end
end Go.Proofs.YtceabbbmgfeofaaGreatDoor.Rw
namespace Go.Proofs.YtceabbbmgfeofaaGreatDoor.Rw
open Go.RowKit
set_option linter.unusedVariables false
def TextsNew (w w' : World) (l : List ByteArray) (e : Ending) : Prop := ∃ a cap, e = .returned (.slice a l.length cap) ∧ l.length ≤ cap ∧ TextsX w' w.heap.size w'.heap.size a l.length l
end Go.Proofs.YtceabbbmgfeofaaGreatDoor.Rw
namespace Go.Proofs.YtceabbbmgfeofaaGreatDoor.Rw
open Go.RowKit Words
set_option linter.unusedVariables false
set_option maxRecDepth 100000
/-- What the model tells of a type's objects, whatever the schema. -/
def membersM (s : List TypeP) (t : ByteArray) : List ByteArray := if (typeIn t s).kind = 2 then [t] else (typeIn t s).members
set_option maxHeartbeats 1000000 in
theorem specMembers (w : World) (A B : Nat) (v : Value) (s : List TypeP) (t : ByteArray) (htk : OkS t) (hv : SchemaAt w A B v s) (hB : B ≤ w.heap.size) (hml : (typeIn t s).members.length ≤ 1048576) :
    Calls Tryz.prog 147 #[v, .string t] w fun e w' => TextsNew w w' (membersM s t) e ∧ Below w.heap.size w w' := by
  have C := Lib.hid (fun o1 => specType (w.alloc o1) A B v s t htk (hv.below (C := w.heap.size) hB ((Below.refl _ _).alloc (Nat.le_refl _) o1)) (Nat.le_trans hB (by simp)))
  have HA : Hid (∀ o1, Below w.heap.size w (w.alloc o1)) := Lib.hid fun o1 => (Below.refl _ _).alloc (Nat.le_refl _) o1
  have HOK := Lib.hid htk
  unfold OkS at htk
  have HMM := Lib.hid (show membersM s t = if (typeIn t s).kind = 2 then [t] else (typeIn t s).members from rfl)
  obtain ⟨a, ca, rfl, _, _⟩ := hv
  generalize membersM s t = mm at *
  generalize typeIn t s = y at *
  obtain ⟨tn, tk, tb, tf, tm⟩ := y
  go_enter Tryz.func147, Tryz.ntmps147
  go_wp2_with fail
  refine (C.out _).mono ?_
  rintro e w1 ⟨⟨ta, tca, tc, tcc, rfl, hty⟩, hb1⟩
  have HB1 := Lib.hid ((HA.out _).trans (hb1.mono (HA.out _).size))
  obtain ⟨_, _, _, _, hve, hk, _, h3, h3c⟩ := hty
  simp [TypeP.cells] at hve
  obtain ⟨⟨rfl, rfl⟩, rfl, rfl⟩ := hve
  simp only [TypeP.cells] at h3 h3c hml HMM ⊢
  have HT := Lib.hid h3
  have hrows : ∀ x ∈ tm, OkS x := rows_all h3 fun _ _ _ h => h.1
  have HR := Lib.hid hrows
  have hB1 := Lib.hid (Nat.le_trans hB HB1.out.size)
  clear hb1 h3 hrows hk
  by_cases hk : tk = 2
  · have hkb : (tk == 2) = true := by rw [hk]; rfl
    have hf := Lib.hid (show mm = [t] by rw [HMM.out, if_pos hk])
    clear hk
    go_wp2_with fail
    go_ret
    have hg1 : w1.heap.size + 1 < ((w1.alloc (.cells #[.string tn, .int .i64 tk, .int .i64 tb, .slice ta tf.length tca, .slice tc tm.length tcc] 48)).alloc (.cells #[.string t] 9)).heap.size := by simp
    have hge : (w1.alloc (.cells #[.string tn, .int .i64 tk, .int .i64 tb, .slice ta tf.length tca, .slice tc tm.length tcc] 48)).heap.size = w1.heap.size + 1 := by simp
    have hn := heap_alloc_new (w1.alloc (.cells #[.string tn, .int .i64 tk, .int .i64 tb, .slice ta tf.length tca, .slice tc tm.length tcc] 48)) (.cells #[.string t] 9)
    rw [hge] at hn
    have hz := HB1.out.size
    refine ⟨?_, (HB1.out.alloc hz _).alloc (by simp; omega) _⟩
    rw [hf.out]
    refine ⟨some ⟨w1.heap.size + 1, 0, none⟩, 1, rfl, Nat.le_refl _, rfl, by simp, by omega, .inr ⟨w1.heap.size + 1, 0, rfl, by omega, hg1, LieRX.flat ⟨_, _, hn⟩ hg1 (by omega) fun j y hj => ?_⟩⟩
    have e : j = 0 := by have := (List.getElem?_eq_some_iff.1 hj).1; simp at this; exact this
    subst e; cases hj
    exact ⟨HOK.out, cell_of hn rfl⟩
  · have hkb : (tk == 2) = false := by rw [beq_eq_false_iff_ne]; exact hk
    have hf := Lib.hid (show mm = tm by rw [HMM.out, if_neg hk])
    clear hk
    have HX : Hid (∀ o1 o2, Below w.heap.size w ((w1.alloc o1).alloc o2)) := Lib.hid fun o1 o2 => (HB1.out.alloc HB1.out.size o1).alloc (by have := HB1.out.size; simp; omega) o2
    have HO : Hid (∀ o1, OwnTs ((w1.alloc o1).alloc (.cells #[] 9)) w.heap.size (.slice (some ⟨w1.heap.size + 1, 0, none⟩) 0 0) []) := Lib.hid fun o1 => by
      have := World.ownsRow_lit (base := w.heap.size) (e := 9) (size := 1) (w1.alloc o1) #[] 0 (by have := HB1.out.size; simp; omega) (by simp) rfl
      simpa [OwnTs] using this
    have HT2 : Hid (∀ o1 o2, TextsAt ((w1.alloc o1).alloc o2) A B tc tm.length tm) := Lib.hid fun o1 o2 => HT.out.below textLies (C := w1.heap.size) hB1.out (((Below.refl _ _).alloc (Nat.le_refl _) o1).alloc (by simp) o2)
    go_wp2_with (at_builtin; refine app_texts rfl _ _ rfl w.heap.size _ [] rfl (HO.out _) A B tc _ _ tm rfl (HT2.out _ _) (by simp; omega) (HX.out _ _).size ?_; intro a9 c9 w9 hown9 hb9; simp only [List.length_nil, Nat.zero_add, List.nil_append] at hown9)
    have HB9 := (HX.out _ _).trans hb9
    obtain ⟨a8, c8, he, h1, h2⟩ := hown9.textsX HR.out hml HB9.size
    have HX9 := Lib.hid h2
    have HE := Lib.hid he
    have H1 := Lib.hid h1
    have HB := Lib.hid HB9
    clear hb9 hown9 he h1 h2 HB9
    go_wp2_with fail
    go_ret
    exact ⟨by rw [hf.out]; exact ⟨a8, c8, by rw [← HE.out]; rfl, H1.out, HX9.out⟩, HB.out⟩
end Go.Proofs.YtceabbbmgfeofaaGreatDoor.Rw
namespace Go.Proofs.YtceabbbmgfeofaaGreatDoor.Rw
open Go.RowKit Words Go.Maps
set_option linter.unusedVariables false
set_option maxRecDepth 100000
theorem tiny_at {s : List TypeP} (h : schWt s ≤ 1048576) {x : TypeP} (hx : x ∈ s) : x.name.size ≤ 1048576 ∧ x.fields.length ≤ 1048576 ∧ x.members.length ≤ 1048576 ∧ (∀ f ∈ x.fields, f.tiny) ∧ ∀ m ∈ x.members, m.size ≤ 1048576 := by
  unfold schWt at h
  obtain ⟨i, hi⟩ := List.mem_iff_getElem?.1 hx
  have h1 := sumOf_mem (f := TypeP.wt) hi
  have e : TypeP.wt x = x.name.size + (x.fields.length + sumOf FieldP.wt x.fields) + (x.members.length + sumOf ByteArray.size x.members) := rfl
  refine ⟨by omega, by omega, by omega, fun f hf => ?_, fun m hm => ?_⟩
  · obtain ⟨j, hj⟩ := List.mem_iff_getElem?.1 hf
    have h2 := sumOf_mem (f := FieldP.wt) hj
    have e2 : FieldP.wt f = f.name.size + f.typ.size := rfl
    exact ⟨by omega, by omega⟩
  · obtain ⟨j, hj⟩ := List.mem_iff_getElem?.1 hm
    have h2 := sumOf_mem (f := ByteArray.size) hj
    omega
theorem fresh_big {s : List TypeP} {t : ByteArray} (h : schemaB s = true) (ht : 8000 < t.size) : freshB t s = true := by
  cases hf : freshB t s with
  | true => rfl
  | false =>
    obtain ⟨h1, _, h2⟩ := right_at h hf
    have := type_small h1
    rw [h2] at this; omega
/-- The objects that something of a type of a right schema may be; none else. -/
noncomputable def membersOfP (s : List TypeP) (t : ByteArray) : List ByteArray := if (schemaB s && !freshB t s) = true then (if (typeIn t s).kind = 2 then [t] else (typeIn t s).members) else []
theorem fresh_members {s : List TypeP} {t : ByteArray} (h : schemaB s = true) : membersOfP s t = if (typeIn t s).kind = 2 then [t] else (typeIn t s).members := by
  unfold membersOfP
  cases hf : freshB t s with
  | true => rw [typeIn_zero hf, h]; rfl
  | false => rw [h]; rfl
theorem membersOfP_big {s : List TypeP} {t : ByteArray} (ht : 8000 < t.size) : membersOfP s t = [] := by
  unfold membersOfP
  cases h : schemaB s with
  | false => rfl
  | true => rw [fresh_big h ht]; rfl
theorem membersOfP_no {s : List TypeP} (t : ByteArray) (h : schemaB s = false) : membersOfP s t = [] := by unfold membersOfP; rw [h]; rfl
theorem members_len {s : List TypeP} (hw : schWt s ≤ 1048576) (t : ByteArray) : (typeIn t s).members.length ≤ 1048576 := by
  cases hf : freshB t s with
  | true => rw [typeIn_zero hf]; simp [zeroType]
  | false => exact (tiny_at hw (typeIn_in hf)).2.2.1
theorem fields_len {s : List TypeP} (hw : schWt s ≤ 1048576) (t : ByteArray) : (typeIn t s).fields.length ≤ 1048576 := by
  cases hf : freshB t s with
  | true => rw [typeIn_zero hf]; simp [zeroType]
  | false => exact (tiny_at hw (typeIn_in hf)).2.1
end Go.Proofs.YtceabbbmgfeofaaGreatDoor.Rw
