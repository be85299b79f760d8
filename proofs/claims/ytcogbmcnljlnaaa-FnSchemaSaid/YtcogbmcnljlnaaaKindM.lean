/-
  A whole list of texts or of fields put behind a row of the call's own; no program's function. Conditions: as each theorem says.
-/
/-
  Contracts: spec.l04Members, MembersOf; of what was there nothing is changed. Conditions: in memory, lists of at most 2^20.
-/
import Derived.Test.YtcogbmcnljlnaaaRows
import Derived.Test.YtcogbmcnljlnaaaOwnRw
import Derived.Test.YtcogbmcnljlnaaaKindL
namespace Go.Proofs.Ytcogbmcnljlnaaa.Rw
open Go.RowKit
set_option linter.unusedVariables false
set_option maxRecDepth 100000

theorem run_append_empty {w : World} (base : Nat) (t ty e : TypeId) (i : TypeInfo) (size : Nat) (ht : Try.prog.underlying t = some (.slice e)) (hi : Try.prog.info? e = some i)
    (v : Value) (n c : Nat) (xs : List Value) (hown : w.ownsRow base e size v n xs) :
    (Builtin.append_ #[t, t] ty #[v, .slice none 0 c]).run Try.prog w = .ok v w := by
  rcases hown.2 with ⟨rfl, rfl⟩ | ⟨g, cap, cur, rfl, _, _, hnc, _⟩
  · simp [Builtin.append_, run_underlying ht, sizeOf, typeInfo, hi, Builtin.lenOf, Builtin.firstCells]
  · simp [Builtin.append_, run_underlying ht, sizeOf, typeInfo, hi, Builtin.lenOf, Builtin.firstCells, hnc, storeCells]
theorem owns_slice {w : World} {base n : Nat} {E : TypeId} {size : Nat} {v : Value} {xs : List Value} (h : w.ownsRow base E size v n xs) : ∃ a cap, v = .slice a n cap := by
  obtain ⟨_, ⟨rfl, rfl⟩ | ⟨g, cap, cur, rfl, _⟩⟩ := h
  · exact ⟨none, 0, rfl⟩
  · exact ⟨_, _, rfl⟩
section
variable {w : World} {ops : Array Oper} {o : Oper} {a : Act} {rest : List Oper} {Q : Exit → Act → World → Prop}
theorem app_rows {α : Type} {size bytes : Nat} {E T : TypeId} {L : World → Nat → Nat → Nat → Nat → α → Prop} {cells : α → List Value} (z : Value) (hinfo : (Try.prog.info? E).map (fun i => (i.zero, i.size, i.bytes)) = some (some z, size, bytes)) (hzs : z.cells.size = size) (hT : Try.prog.underlying T = some (.slice E)) (hsz : 0 < size) (hby : bytes ≤ 56)
    (hcells : ∀ x : α, (cells x).length = size) (hone : ∀ (x : α), ∀ u ∈ cells x, u.oneCell' = true) (hL : ∀ {A B b off : Nat} {x : α}, L w A B b off x → ∀ j u, (cells x)[j]? = some u → w.cell? ⟨b, off + j, none⟩ = some u)
    (hgd : o.guard = none) (s x : Operand) (ho : o.op = .call { callee := .builtin .append, args := #[s, x], argTypes := #[T, T] })
    (base : Nat) (v : Value) (l0 : List α) (hs : a.eval s = v) (hown : w.ownsRow base E size v l0.length (l0.flatMap cells))
    (A B : Nat) (a1 : Option Addr) (len c : Nat) (l : List α) (hx : a.eval x = .slice a1 len c) (hr : RowsAt size L w A B a1 len l) (hsize : l0.length + len ≤ 2097152) (hbase : base ≤ w.heap.size)
    (h : ∀ a' cap w', w'.ownsRow base E size (.slice a' (l0.length + len) cap) (l0.length + len) ((l0 ++ l).flatMap cells) → Below base w w' → wpList Try.prog ops Q rest (a.put o.dst (.slice a' (l0.length + len) cap)) w') : wpList Try.prog ops Q (o :: rest) a w := by
  obtain ⟨i0, hi, hz0, hz1, hz2⟩ := info_parts hinfo
  have hlen : ∀ l : List α, (l.flatMap cells).length = l.length * size := by
    intro l
    induction l with
    | nil => simp
    | cons y l ih => rw [List.flatMap_cons, List.length_append, ih, hcells, List.length_cons, Nat.succ_mul]; omega
  obtain ⟨hll, _, hrow⟩ := hr
  subst hll
  cases a1 with
  | none =>
    have hl0 : l = [] := by
      rcases hrow with h | ⟨b, off, h, _⟩
      · exact h
      · cases h
    subst hl0
    obtain ⟨av, cav, rfl⟩ := owns_slice hown
    refine wpList_plain hgd fun K hK => ?_
    have hrun := run_append_empty (w := w) base T o.type E i0 size hT hi _ l0.length c _ hown
    unfold Oper.wp
    simp only [List.length_nil] at hx
    simp [execOp, ho, resolve, invoke, builtin, hs, hx, hrun, Result.andThen]
    exact hK _ _ (h av cav w (by simpa using hown) (Below.refl _ _))
  | some ad =>
    have hnews : ∀ j u, (l.flatMap cells)[j]? = some u → w.cell? (ad.add j) = some u := by
      intro j u hj
      rcases hrow with rfl | ⟨b, off, he, _, _, hat⟩
      · simp at hj
      · cases he
        rw [add_plain]
        have key : ∀ (l : List α) (off : Nat), (∀ (i : Nat) (x : α), l[i]? = some x → L w A B b (off + i * size) x) → ∀ (j : Nat) (u : Value), (l.flatMap cells)[j]? = some u → w.cell? ⟨b, off + j, none⟩ = some u := by
          intro l
          induction l with
          | nil => intro off _ j u h; simp at h
          | cons y l ih =>
            intro off hat j u hj
            rw [List.flatMap_cons] at hj
            by_cases hjl : j < size
            · rw [List.getElem?_append_left (by rw [hcells]; exact hjl)] at hj
              have := hat 0 y rfl
              rw [Nat.zero_mul, Nat.add_zero] at this
              exact hL this j u hj
            · rw [List.getElem?_append_right (by rw [hcells]; omega), hcells] at hj
              have := ih (off + size) (fun i x hx => by
                have := hat (i + 1) x (by simpa using hx)
                rwa [show off + (i + 1) * size = off + size + i * size by rw [Nat.succ_mul]; omega] at this) (j - size) u hj
              rwa [show off + size + (j - size) = off + j by omega] at this
        exact key l off hat j u hj
    have hb1 : (l0.length + l.length) * bytes ≤ 140737488355328 := by
      have := Nat.mul_le_mul hsize hby
      omega
    refine wpList_append_own w hgd s x T ho base E i0 z size bytes hT hi hz0 hz1 hz2 hzs hsz v l0.length (l0.flatMap cells) hs hown ad l.length c (l.flatMap cells) hx (hlen l) hnews (fun u hu => ?_) (by unfold maxLen; omega) hb1 hbase fun v' w' hown' hgrow _ => ?_
    · obtain ⟨y, _, hy⟩ := List.mem_flatMap.1 hu
      exact hone y u hy
    · obtain ⟨a', cap, rfl⟩ := owns_slice hown'
      exact h a' cap w' (by rw [List.flatMap_append]; exact hown') ((Below.refl base w).grown hgrow hbase (fun k hk => (World.ownsRow.lt hown k hk).1))
theorem map_flat (l : List ByteArray) : l.flatMap (fun y => [Value.string y]) = l.map Value.string := by
  induction l with
  | nil => rfl
  | cons y l ih => rw [List.flatMap_cons, ih]; rfl
theorem app_texts (hgd : o.guard = none) (s x : Operand) (ho : o.op = .call { callee := .builtin .append, args := #[s, x], argTypes := #[33, 33] })
    (base : Nat) (v : Value) (l0 : List ByteArray) (hs : a.eval s = v) (hown : OwnTs w base v l0)
    (A B : Nat) (a1 : Option Addr) (len c : Nat) (l : List ByteArray) (hx : a.eval x = .slice a1 len c) (hr : TextsAt w A B a1 len l) (hsize : l0.length + len ≤ 2097152) (hbase : base ≤ w.heap.size)
    (h : ∀ a' cap w', OwnTs w' base (.slice a' (l0.length + len) cap) (l0 ++ l) → Below base w w' → wpList Try.prog ops Q rest (a.put o.dst (.slice a' (l0.length + len) cap)) w') : wpList Try.prog ops Q (o :: rest) a w := by
  have hll := hr.1
  refine app_rows (L := TextLie) (cells := fun y => [Value.string y]) _ infoStr rfl Try.underlying33 (by omega) (by omega) (fun _ => rfl) (fun y u hu => by simp at hu; subst hu; rfl) (fun {A B b off y} hl j u hj => ?_) hgd s x ho base v l0 hs (by rw [map_flat]; exact hown) A B a1 len c l hx hr hsize hbase fun a' cap w' h1 h2 => h a' cap w' ?_ h2
  · have e : j = 0 := by have := (List.getElem?_eq_some_iff.1 hj).1; simp at this; exact this
    subst e; cases hj; exact hl.2
  · unfold OwnTs; rw [List.length_append, hll]; rw [map_flat] at h1; exact h1
theorem app_fields (hgd : o.guard = none) (s x : Operand) (ho : o.op = .call { callee := .builtin .append, args := #[s, x], argTypes := #[36, 36] })
    (base : Nat) (v : Value) (l0 : List FieldP) (hs : a.eval s = v) (hown : OwnFs w base v l0)
    (A B : Nat) (a1 : Option Addr) (len c : Nat) (l : List FieldP) (hx : a.eval x = .slice a1 len c) (hr : FieldsAt w A B a1 len l) (hsize : l0.length + len ≤ 2097152) (hbase : base ≤ w.heap.size)
    (h : ∀ a' cap w', OwnFs w' base (.slice a' (l0.length + len) cap) (l0 ++ l) → Below base w w' → wpList Try.prog ops Q rest (a.put o.dst (.slice a' (l0.length + len) cap)) w') : wpList Try.prog ops Q (o :: rest) a w := by
  have hll := hr.1
  refine app_rows (L := FieldLie) (cells := FieldP.cells) _ infoField rfl Try.underlying36 (by omega) (by omega) (fun _ => rfl) (fun y u hu => ?_) (fun {A B b off y} hl j u hj => hl.2 j u hj) hgd s x ho base v l0 hs hown A B a1 len c l hx hr hsize hbase fun a' cap w' h1 h2 => h a' cap w' ?_ h2
  · simp [FieldP.cells] at hu
    rcases hu with rfl | rfl | rfl | rfl | rfl | rfl <;> rfl
  · unfold OwnFs; rw [List.length_append, hll]; exact h1
end
end Go.Proofs.Ytcogbmcnljlnaaa.Rw

namespace Go.Proofs.Ytcogbmcnljlnaaa.Rw
open Go.RowKit Words Go.Maps
set_option linter.unusedVariables false
set_option maxRecDepth 100000

/-- What the model tells of a type's objects, whatever the schema. -/
def membersM (s : List TypeP) (t : ByteArray) : List ByteArray := if (typeIn t s).kind = 2 then [t] else (typeIn t s).members
set_option maxHeartbeats 1000000 in
theorem specMembers (w : World) (A B : Nat) (v : Value) (s : List TypeP) (t : ByteArray) (htk : OkS t) (hv : SchemaAt w A B v s) (hB : B ≤ w.heap.size) (hml : (typeIn t s).members.length ≤ 1048576) :
    Calls Try.prog 36 #[v, .string t] w fun e w' => TextsNew w w' (membersM s t) e ∧ Below w.heap.size w w' := by
  have C := Lib.hid (fun o1 => specType (w.alloc o1) A B v s t htk (hv.below (C := w.heap.size) hB ((Below.refl _ _).alloc (Nat.le_refl _) o1)) (Nat.le_trans hB (by simp)))
  have HA : Hid (∀ o1, Below w.heap.size w (w.alloc o1)) := Lib.hid fun o1 => (Below.refl _ _).alloc (Nat.le_refl _) o1
  have HOK := Lib.hid htk
  unfold OkS at htk
  have HMM := Lib.hid (show membersM s t = if (typeIn t s).kind = 2 then [t] else (typeIn t s).members from rfl)
  obtain ⟨a, ca, rfl, _, _⟩ := hv
  generalize membersM s t = mm at *
  generalize typeIn t s = y at *
  obtain ⟨tn, tk, tb, tf, tm⟩ := y
  go_enter Try.func36, Try.ntmps36
  go_wp2_with fail
  refine (C.out _).mono ?_
  rintro e w1 ⟨⟨ta, tca, tc, tcc, rfl, hty⟩, hb1⟩
  have HB1 := Lib.hid ((HA.out _).trans (hb1.mono (HA.out _).size))
  obtain ⟨_, _, _, _, hve, hk, _, h3, h3c⟩ := hty
  simp [TypeP.cells] at hve
  obtain ⟨⟨rfl, rfl⟩, rfl, rfl⟩ := hve
  simp only [TypeP.cells] at h3 h3c hml HMM ⊢
  have HT := Lib.hid h3
  have hrows : ∀ x ∈ tm, OkS x := rows_all h3 fun _ _ _ h => h.1
  have HR := Lib.hid hrows
  have hB1 := Lib.hid (Nat.le_trans hB HB1.out.size)
  clear hb1 h3 hrows hk
  by_cases hk : tk = 2
  · have hkb : (tk == 2) = true := by rw [hk]; rfl
    have hf := Lib.hid (show mm = [t] by rw [HMM.out, if_pos hk])
    clear hk
    go_wp2_with fail
    go_ret
    have hg1 : w1.heap.size + 1 < ((w1.alloc (.cells #[.string tn, .int .i64 tk, .int .i64 tb, .slice ta tf.length tca, .slice tc tm.length tcc] 38)).alloc (.cells #[.string t] 9)).heap.size := by simp
    have hge : (w1.alloc (.cells #[.string tn, .int .i64 tk, .int .i64 tb, .slice ta tf.length tca, .slice tc tm.length tcc] 38)).heap.size = w1.heap.size + 1 := by simp
    have hn := heap_alloc_new (w1.alloc (.cells #[.string tn, .int .i64 tk, .int .i64 tb, .slice ta tf.length tca, .slice tc tm.length tcc] 38)) (.cells #[.string t] 9)
    rw [hge] at hn
    have hz := HB1.out.size
    refine ⟨?_, (HB1.out.alloc hz _).alloc (by simp; omega) _⟩
    rw [hf.out]
    refine ⟨some ⟨w1.heap.size + 1, 0, none⟩, 1, rfl, Nat.le_refl _, rfl, by simp, by omega, .inr ⟨w1.heap.size + 1, 0, rfl, by omega, hg1, LieRX.flat ⟨_, _, hn⟩ hg1 (by omega) fun j y hj => ?_⟩⟩
    have e : j = 0 := by have := (List.getElem?_eq_some_iff.1 hj).1; simp at this; exact this
    subst e; cases hj
    exact ⟨HOK.out, cell_of hn rfl⟩
  · have hkb : (tk == 2) = false := by rw [beq_eq_false_iff_ne]; exact hk
    have hf := Lib.hid (show mm = tm by rw [HMM.out, if_neg hk])
    clear hk
    have HX : Hid (∀ o1 o2, Below w.heap.size w ((w1.alloc o1).alloc o2)) := Lib.hid fun o1 o2 => (HB1.out.alloc HB1.out.size o1).alloc (by have := HB1.out.size; simp; omega) o2
    have HO : Hid (∀ o1, OwnTs ((w1.alloc o1).alloc (.cells #[] 9)) w.heap.size (.slice (some ⟨w1.heap.size + 1, 0, none⟩) 0 0) []) := Lib.hid fun o1 => by
      have := World.ownsRow_lit (base := w.heap.size) (e := 9) (size := 1) (w1.alloc o1) #[] 0 (by have := HB1.out.size; simp; omega) (by simp) rfl
      simpa [OwnTs] using this
    have HT2 : Hid (∀ o1 o2, TextsAt ((w1.alloc o1).alloc o2) A B tc tm.length tm) := Lib.hid fun o1 o2 => HT.out.below textLies (C := w1.heap.size) hB1.out (((Below.refl _ _).alloc (Nat.le_refl _) o1).alloc (by simp) o2)
    go_wp2_with (at_builtin; refine app_texts rfl _ _ rfl w.heap.size _ [] rfl (HO.out _) A B tc _ _ tm rfl (HT2.out _ _) (by simp; omega) (HX.out _ _).size ?_; intro a9 c9 w9 hown9 hb9; simp only [List.length_nil, Nat.zero_add, List.nil_append] at hown9)
    have HB9 := (HX.out _ _).trans hb9
    obtain ⟨a8, c8, he, h1, h2⟩ := hown9.textsX HR.out hml HB9.size
    have HX9 := Lib.hid h2
    have HE := Lib.hid he
    have H1 := Lib.hid h1
    have HB := Lib.hid HB9
    clear hb9 hown9 he h1 h2 HB9
    go_wp2_with fail
    go_ret
    exact ⟨by rw [hf.out]; exact ⟨a8, c8, by rw [← HE.out]; rfl, H1.out, HX9.out⟩, HB.out⟩
theorem members_len {s : List TypeP} (hw : schWt s ≤ 1048576) (t : ByteArray) : (typeIn t s).members.length ≤ 1048576 := by
  cases hf : freshB t s with
  | true => rw [typeIn_zero hf]; simp [zeroType]
  | false => exact (tiny_at hw (typeIn_in hf)).2.2.1
theorem fields_len {s : List TypeP} (hw : schWt s ≤ 1048576) (t : ByteArray) : (typeIn t s).fields.length ≤ 1048576 := by
  cases hf : freshB t s with
  | true => rw [typeIn_zero hf]; simp [zeroType]
  | false => exact (tiny_at hw (typeIn_in hf)).2.1

set_option maxHeartbeats 1000000 in
theorem specMembersOf (w : World) (A B : Nat) (v : Value) (s : List TypeP) (t : ByteArray) (htk : OkS t) (hv : SchemaAt w A B v s) (hB : B ≤ w.heap.size) (hw : schWt s ≤ 1048576) :
    Calls Try.prog 17 #[v, .string t] w fun e w' => TextsNew w w' (membersOfP s t) e ∧ Below w.heap.size w w' := by
  have C := Lib.hid (fun o1 => specSchemaRight (w.alloc o1) A B v s (hv.below (C := w.heap.size) hB ((Below.refl _ _).alloc (Nat.le_refl _) o1)) (Nat.le_trans hB (by simp)))
  have C2 : Hid (∀ w', Below w.heap.size w w' → Calls Try.prog 36 #[v, .string t] w' fun e w'' => TextsNew w' w'' (membersM s t) e ∧ Below w'.heap.size w' w'') := Lib.hid fun w' g => specMembers w' A B v s t htk (hv.below hB g) (Nat.le_trans hB g.size) (members_len hw t)
  have HA : Hid (∀ o1, Below w.heap.size w (w.alloc o1)) := Lib.hid fun o1 => (Below.refl _ _).alloc (Nat.le_refl _) o1
  obtain ⟨a, ca, rfl, _, _⟩ := hv
  unfold OkS at htk
  have HP : Hid ((schemaB s = false → membersOfP s t = []) ∧ (schemaB s = true → membersOfP s t = membersM s t) ∧ (8000 < t.size → membersOfP s t = [])) := Lib.hid ⟨membersOfP_no t, fun h => (fresh_members h).trans rfl, membersOfP_big⟩
  generalize membersM s t = mm at *
  generalize membersOfP s t = mo at *
  have hno : Hid (∀ w1 : World, Below w.heap.size w w1 → mo = [] → TextsNew w (w1.alloc (.cells #[] 9)) mo (.returned (.slice (some ⟨w1.heap.size, 0, none⟩) 0 0)) ∧ Below w.heap.size w (w1.alloc (.cells #[] 9))) := Lib.hid fun w1 g e => by
    rw [e]; exact ⟨⟨_, 0, rfl, Nat.le_refl _, RowsX.nil (by have := g.size; simp; omega)⟩, g.alloc g.size _⟩
  go_enter Try.func17, Try.ntmps17
  go_wp2_with fail
  refine (C.out _).mono ?_
  rintro e w1 ⟨rfl, hb1⟩
  have HB1 := Lib.hid ((HA.out _).trans (hb1.mono (HA.out _).size))
  have hk1 := (hb1.block w.heap.size (by simp)).trans (heap_alloc_new w _)
  have ⟨k0, _⟩ := keep1 hk1
  clear hb1 hk1
  cases hsb : schemaB s with
  | false =>
    have HFI := Lib.hid (HP.out.1 hsb)
    clear hsb
    go_wp2_with fail
    go_ret
    exact hno.out _ HB1.out HFI.out
  | true =>
    have HFY := Lib.hid (HP.out.2.1 hsb)
    clear hsb
    by_cases q1 : 8000 < t.size
    · have q1i : (8000 : Int) < (t.size : Int) := by omega
      have HFI := Lib.hid (HP.out.2.2 q1)
      clear q1
      go_wp2_with fail
      go_ret
      exact hno.out _ HB1.out HFI.out
    have q1i : ¬ (8000 : Int) < (t.size : Int) := by omega
    clear q1
    go_wp2_with fail
    refine (C2.out _ HB1.out).mono ?_
    rintro e w2 ⟨⟨a9, c9, rfl, hc9, hx9⟩, hb2⟩
    have HB2 := Lib.hid (HB1.out.trans (hb2.mono HB1.out.size))
    have HX9 := Lib.hid (hx9.wide (A' := w.heap.size) (B' := w2.heap.size) HB1.out.size (Nat.le_refl _))
    have HC9 := Lib.hid hc9
    clear hb2 hx9 hc9
    go_wp2_with fail
    go_ret
    exact ⟨by rw [HFY.out]; exact ⟨a9, c9, rfl, HC9.out, HX9.out⟩, HB2.out⟩
end Go.Proofs.Ytcogbmcnljlnaaa.Rw
