/-
  A whole list of texts or of fields put behind a row of the call's own; no program's function. Conditions: as each theorem says.
-/
import Derived.Test.YtceabbbmgfeofaaGreatDoorRows
import Derived.Test.YtceabbbmgfeofaaGreatDoorOwnRw
namespace Go.Proofs.YtceabbbmgfeofaaGreatDoor.Rw
open Go.RowKit
set_option linter.unusedVariables false
set_option maxRecDepth 100000

theorem run_append_empty {w : World} (base : Nat) (t ty e : TypeId) (i : TypeInfo) (size : Nat) (ht : Tryz.prog.underlying t = some (.slice e)) (hi : Tryz.prog.info? e = some i)
    (v : Value) (n c : Nat) (xs : List Value) (hown : w.ownsRow base e size v n xs) :
    (Builtin.append_ #[t, t] ty #[v, .slice none 0 c]).run Tryz.prog w = .ok v w := by
  rcases hown.2 with ⟨rfl, rfl⟩ | ⟨g, cap, cur, rfl, _, _, hnc, _⟩
  · simp [Builtin.append_, run_underlying ht, sizeOf, typeInfo, hi, Builtin.lenOf, Builtin.firstCells]
  · simp [Builtin.append_, run_underlying ht, sizeOf, typeInfo, hi, Builtin.lenOf, Builtin.firstCells, hnc, storeCells]
theorem owns_slice {w : World} {base n : Nat} {E : TypeId} {size : Nat} {v : Value} {xs : List Value} (h : w.ownsRow base E size v n xs) : ∃ a cap, v = .slice a n cap := by
  obtain ⟨_, ⟨rfl, rfl⟩ | ⟨g, cap, cur, rfl, _⟩⟩ := h
  · exact ⟨none, 0, rfl⟩
  · exact ⟨_, _, rfl⟩
section
variable {w : World} {ops : Array Oper} {o : Oper} {a : Act} {rest : List Oper} {Q : Exit → Act → World → Prop}
theorem app_rows {α : Type} {size bytes : Nat} {E T : TypeId} {L : World → Nat → Nat → Nat → Nat → α → Prop} {cells : α → List Value} (z : Value) (hinfo : (Tryz.prog.info? E).map (fun i => (i.zero, i.size, i.bytes)) = some (some z, size, bytes)) (hzs : z.cells.size = size) (hT : Tryz.prog.underlying T = some (.slice E)) (hsz : 0 < size) (hby : bytes ≤ 56)
    (hcells : ∀ x : α, (cells x).length = size) (hone : ∀ (x : α), ∀ u ∈ cells x, u.oneCell' = true) (hL : ∀ {A B b off : Nat} {x : α}, L w A B b off x → ∀ j u, (cells x)[j]? = some u → w.cell? ⟨b, off + j, none⟩ = some u)
    (hgd : o.guard = none) (s x : Operand) (ho : o.op = .call { callee := .builtin .append, args := #[s, x], argTypes := #[T, T] })
    (base : Nat) (v : Value) (l0 : List α) (hs : a.eval s = v) (hown : w.ownsRow base E size v l0.length (l0.flatMap cells))
    (A B : Nat) (a1 : Option Addr) (len c : Nat) (l : List α) (hx : a.eval x = .slice a1 len c) (hr : RowsAt size L w A B a1 len l) (hsize : l0.length + len ≤ 2097152) (hbase : base ≤ w.heap.size)
    (h : ∀ a' cap w', w'.ownsRow base E size (.slice a' (l0.length + len) cap) (l0.length + len) ((l0 ++ l).flatMap cells) → Below base w w' → wpList Tryz.prog ops Q rest (a.put o.dst (.slice a' (l0.length + len) cap)) w') : wpList Tryz.prog ops Q (o :: rest) a w := by
  obtain ⟨i0, hi, hz0, hz1, hz2⟩ := info_parts hinfo
  have hlen : ∀ l : List α, (l.flatMap cells).length = l.length * size := by
    intro l
    induction l with
    | nil => simp
    | cons y l ih => rw [List.flatMap_cons, List.length_append, ih, hcells, List.length_cons, Nat.succ_mul]; omega
  obtain ⟨hll, _, hrow⟩ := hr
  subst hll
  cases a1 with
  | none =>
    have hl0 : l = [] := by
      rcases hrow with h | ⟨b, off, h, _⟩
      · exact h
      · cases h
    subst hl0
    obtain ⟨av, cav, rfl⟩ := owns_slice hown
    refine wpList_plain hgd fun K hK => ?_
    have hrun := run_append_empty (w := w) base T o.type E i0 size hT hi _ l0.length c _ hown
    unfold Oper.wp
    simp only [List.length_nil] at hx
    simp [execOp, ho, resolve, invoke, builtin, hs, hx, hrun, Result.andThen]
    exact hK _ _ (h av cav w (by simpa using hown) (Below.refl _ _))
  | some ad =>
    have hnews : ∀ j u, (l.flatMap cells)[j]? = some u → w.cell? (ad.add j) = some u := by
      intro j u hj
      rcases hrow with rfl | ⟨b, off, he, _, _, hat⟩
      · simp at hj
      · cases he
        rw [add_plain]
        have key : ∀ (l : List α) (off : Nat), (∀ (i : Nat) (x : α), l[i]? = some x → L w A B b (off + i * size) x) → ∀ (j : Nat) (u : Value), (l.flatMap cells)[j]? = some u → w.cell? ⟨b, off + j, none⟩ = some u := by
          intro l
          induction l with
          | nil => intro off _ j u h; simp at h
          | cons y l ih =>
            intro off hat j u hj
            rw [List.flatMap_cons] at hj
            by_cases hjl : j < size
            · rw [List.getElem?_append_left (by rw [hcells]; exact hjl)] at hj
              have := hat 0 y rfl
              rw [Nat.zero_mul, Nat.add_zero] at this
              exact hL this j u hj
            · rw [List.getElem?_append_right (by rw [hcells]; omega), hcells] at hj
              have := ih (off + size) (fun i x hx => by
                have := hat (i + 1) x (by simpa using hx)
                rwa [show off + (i + 1) * size = off + size + i * size by rw [Nat.succ_mul]; omega] at this) (j - size) u hj
              rwa [show off + size + (j - size) = off + j by omega] at this
        exact key l off hat j u hj
    have hb1 : (l0.length + l.length) * bytes ≤ 140737488355328 := by
      have := Nat.mul_le_mul hsize hby
      omega
    refine wpList_append_own w hgd s x T ho base E i0 z size bytes hT hi hz0 hz1 hz2 hzs hsz v l0.length (l0.flatMap cells) hs hown ad l.length c (l.flatMap cells) hx (hlen l) hnews (fun u hu => ?_) (by unfold maxLen; omega) hb1 hbase fun v' w' hown' hgrow _ => ?_
    · obtain ⟨y, _, hy⟩ := List.mem_flatMap.1 hu
      exact hone y u hy
    · obtain ⟨a', cap, rfl⟩ := owns_slice hown'
      exact h a' cap w' (by rw [List.flatMap_append]; exact hown') ((Below.refl base w).grown hgrow hbase (fun k hk => (World.ownsRow.lt hown k hk).1))
theorem map_flat (l : List ByteArray) : l.flatMap (fun y => [Value.string y]) = l.map Value.string := by
  induction l with
  | nil => rfl
  | cons y l ih => rw [List.flatMap_cons, ih]; rfl
theorem app_texts (hgd : o.guard = none) (s x : Operand) (ho : o.op = .call { callee := .builtin .append, args := #[s, x], argTypes := #[40, 40] })
    (base : Nat) (v : Value) (l0 : List ByteArray) (hs : a.eval s = v) (hown : OwnTs w base v l0)
    (A B : Nat) (a1 : Option Addr) (len c : Nat) (l : List ByteArray) (hx : a.eval x = .slice a1 len c) (hr : TextsAt w A B a1 len l) (hsize : l0.length + len ≤ 2097152) (hbase : base ≤ w.heap.size)
    (h : ∀ a' cap w', OwnTs w' base (.slice a' (l0.length + len) cap) (l0 ++ l) → Below base w w' → wpList Tryz.prog ops Q rest (a.put o.dst (.slice a' (l0.length + len) cap)) w') : wpList Tryz.prog ops Q (o :: rest) a w := by
  have hll := hr.1
  refine app_rows (L := TextLie) (cells := fun y => [Value.string y]) _ infoStr rfl Tryz.underlying40 (by omega) (by omega) (fun _ => rfl) (fun y u hu => by simp at hu; subst hu; rfl) (fun {A B b off y} hl j u hj => ?_) hgd s x ho base v l0 hs (by rw [map_flat]; exact hown) A B a1 len c l hx hr hsize hbase fun a' cap w' h1 h2 => h a' cap w' ?_ h2
  · have e : j = 0 := by have := (List.getElem?_eq_some_iff.1 hj).1; simp at this; exact this
    subst e; cases hj; exact hl.2
  · unfold OwnTs; rw [List.length_append, hll]; rw [map_flat] at h1; exact h1
theorem app_fields (hgd : o.guard = none) (s x : Operand) (ho : o.op = .call { callee := .builtin .append, args := #[s, x], argTypes := #[46, 46] })
    (base : Nat) (v : Value) (l0 : List FieldP) (hs : a.eval s = v) (hown : OwnFs w base v l0)
    (A B : Nat) (a1 : Option Addr) (len c : Nat) (l : List FieldP) (hx : a.eval x = .slice a1 len c) (hr : FieldsAt w A B a1 len l) (hsize : l0.length + len ≤ 2097152) (hbase : base ≤ w.heap.size)
    (h : ∀ a' cap w', OwnFs w' base (.slice a' (l0.length + len) cap) (l0 ++ l) → Below base w w' → wpList Tryz.prog ops Q rest (a.put o.dst (.slice a' (l0.length + len) cap)) w') : wpList Tryz.prog ops Q (o :: rest) a w := by
  have hll := hr.1
  refine app_rows (L := FieldLie) (cells := FieldP.cells) _ infoField rfl Tryz.underlying46 (by omega) (by omega) (fun _ => rfl) (fun y u hu => ?_) (fun {A B b off y} hl j u hj => hl.2 j u hj) hgd s x ho base v l0 hs hown A B a1 len c l hx hr hsize hbase fun a' cap w' h1 h2 => h a' cap w' ?_ h2
  · simp [FieldP.cells] at hu
    rcases hu with rfl | rfl | rfl | rfl | rfl | rfl <;> rfl
  · unfold OwnFs; rw [List.length_append, hll]; exact h1
end
end Go.Proofs.YtceabbbmgfeofaaGreatDoor.Rw
