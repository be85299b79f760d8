/-
  Lists without what stood there before; plain. Conditions: as each theorem says.
-/
import Derived.Test.YtnkknfnndoegpaaDoorRows
namespace Go.Proofs.YtnkknfnndoegpaaDoor.Uq
set_option linter.unusedVariables false

variable {α β : Type}
open Classical in
/-- One put behind others, if it isn't there. -/
noncomputable def add (out : List α) (x : α) : List α := if x ∈ out then out else out ++ [x]
noncomputable def addAll (out l : List α) : List α := l.foldl add out
noncomputable def uniq (l : List α) : List α := addAll [] l
theorem addAll_cons (out : List α) (x : α) (l : List α) : addAll out (x :: l) = addAll (add out x) l := rfl
theorem addAll_append (out l m : List α) : addAll out (l ++ m) = addAll (addAll out l) m := by unfold addAll; rw [List.foldl_append]
theorem uniq_append (l m : List α) : uniq (l ++ m) = addAll (uniq l) m := addAll_append _ _ _
theorem add_in {out : List α} {x : α} (h : x ∈ out) : add out x = out := by unfold add; rw [if_pos h]
theorem add_new {out : List α} {x : α} (h : x ∉ out) : add out x = out ++ [x] := by unfold add; rw [if_neg h]
theorem mem_add {out : List α} {x y : α} : y ∈ add out x ↔ y ∈ out ∨ y = x := by
  unfold add; split
  · rename_i h
    exact ⟨.inl, fun k => k.elim id fun e => e ▸ h⟩
  · simp
theorem mem_addAll {y : α} : ∀ {l out : List α}, y ∈ addAll out l ↔ y ∈ out ∨ y ∈ l
  | [], out => by simp [addAll]
  | x :: l, out => by
    rw [addAll_cons, mem_addAll, mem_add, List.mem_cons]
    constructor
    · rintro ((h | h) | h)
      · exact .inl h
      · exact .inr (.inl h)
      · exact .inr (.inr h)
    · rintro (h | h | h)
      · exact .inl (.inl h)
      · exact .inl (.inr h)
      · exact .inr h
theorem mem_uniq {y : α} {l : List α} : y ∈ uniq l ↔ y ∈ l := by unfold uniq; rw [mem_addAll]; simp
theorem addAll_in : ∀ {l out : List α}, (∀ x, x ∈ l → x ∈ out) → addAll out l = out
  | [], out, _ => rfl
  | x :: l, out, h => by
    rw [addAll_cons, add_in (h x (List.mem_cons_self ..))]
    exact addAll_in fun y hy => h y (List.mem_cons_of_mem _ hy)
theorem addAll_pre : ∀ (l out : List α), ∃ m, addAll out l = out ++ m
  | [], out => ⟨[], by simp [addAll]⟩
  | x :: l, out => by
    obtain ⟨m, hm⟩ := addAll_pre l (add out x)
    by_cases hx : x ∈ out
    · rw [add_in hx] at hm; exact ⟨m, by rw [addAll_cons, add_in hx]; exact hm⟩
    · rw [add_new hx] at hm; exact ⟨[x] ++ m, by rw [addAll_cons, add_new hx, hm, List.append_assoc]⟩
/-- Two lists are the same but for what stood there before. -/
def Same (l m : List α) : Prop := uniq l = uniq m
theorem Same.mem {l m : List α} (h : Same l m) {x : α} : x ∈ l ↔ x ∈ m := by rw [← mem_uniq, h, mem_uniq]
theorem Same.append {l m k : List α} (h : Same l m) : Same (l ++ k) (m ++ k) := by unfold Same at *; rw [uniq_append, uniq_append, h]
theorem Same.trans {l m k : List α} (h : Same l m) (g : Same m k) : Same l k := Eq.trans h g
theorem Same.refl (l : List α) : Same l l := rfl
theorem Same.more {l m : List α} (h : ∀ x, x ∈ m → x ∈ l) : Same l (l ++ m) := by
  unfold Same; rw [uniq_append, addAll_in fun x hx => mem_uniq.2 (h x hx)]
theorem flat_aux (g : α → List β) : ∀ (l acc : List α), addAll (uniq (acc.flatMap g)) (l.flatMap g) = uniq ((addAll acc l).flatMap g)
  | [], acc => rfl
  | x :: l, acc => by
    rw [List.flatMap_cons, addAll_append, addAll_cons]
    by_cases hx : x ∈ acc
    · rw [add_in hx, addAll_in (l := g x) fun y hy => mem_uniq.2 (List.mem_flatMap.2 ⟨x, hx, hy⟩)]
      exact flat_aux g l acc
    · rw [add_new hx, ← flat_aux g l (acc ++ [x])]
      congr 1
      rw [List.flatMap_append, uniq_append]; simp
theorem uniq_flat (g : α → List β) (l : List α) : uniq (l.flatMap g) = uniq ((uniq l).flatMap g) := flat_aux g l []
theorem Same.flat {l m : List α} (h : Same l m) (g : α → List β) : Same (l.flatMap g) (m.flatMap g) := by
  unfold Same at *; rw [uniq_flat, h, ← uniq_flat]
theorem map_flat (f : α → β) (l : List α) : l.map f = l.flatMap fun x => [f x] := by induction l <;> simp_all
theorem Same.keys {l m : List α} (h : Same l m) (f : α → β) : uniq (l.map f) = uniq (m.map f) := by
  rw [map_flat, map_flat]; exact h.flat _

/-! ### the first that clashes with one ahead of it -/
open Classical in
noncomputable def firstA (bad : α → α → Prop) : List α → List α → Option α
  | acc, [] => none
  | acc, x :: l => if ∃ y, y ∈ acc ∧ bad y x then some x else firstA bad (acc ++ [x]) l
theorem firstA_hit {bad : α → α → Prop} {acc l : List α} {x : α} (h : ∃ y, y ∈ acc ∧ bad y x) : firstA bad acc (x :: l) = some x := by rw [firstA, if_pos h]
theorem firstA_miss {bad : α → α → Prop} {acc l : List α} {x : α} (h : ¬ ∃ y, y ∈ acc ∧ bad y x) : firstA bad acc (x :: l) = firstA bad (acc ++ [x]) l := by rw [firstA, if_neg h]
theorem firstA_mem (bad : α → α → Prop) : ∀ (l : List α) {acc acc' : List α}, (∀ x, x ∈ acc ↔ x ∈ acc') → firstA bad acc l = firstA bad acc' l
  | [], _, _, _ => rfl
  | x :: l, acc, acc', h => by
    have e : (∃ y, y ∈ acc ∧ bad y x) ↔ ∃ y, y ∈ acc' ∧ bad y x := ⟨fun ⟨y, h1, h2⟩ => ⟨y, (h y).1 h1, h2⟩, fun ⟨y, h1, h2⟩ => ⟨y, (h y).2 h1, h2⟩⟩
    by_cases hb : ∃ y, y ∈ acc ∧ bad y x
    · rw [firstA_hit hb, firstA_hit (e.1 hb)]
    · rw [firstA_miss hb, firstA_miss fun k => hb (e.2 k)]
      exact firstA_mem bad l (fun y => by simp [h y])
theorem firstA_uniq {bad : α → α → Prop} (hs : ∀ y z, bad y z → bad z y) (hi : ∀ y, ¬ bad y y) : ∀ (l acc acc2 m : List α), (∀ y z, y ∈ acc → z ∈ acc → ¬ bad y z) → (∀ x, x ∈ acc ↔ x ∈ acc2) → addAll acc2 l = acc2 ++ m → firstA bad acc l = firstA bad acc2 m
  | [], acc, acc2, m, _, _, hm => by
    have : m = [] := by
      have e : acc2 ++ m = acc2 ++ [] := by rw [← hm]; simp [addAll]
      exact List.append_cancel_left e
    subst this; rfl
  | x :: l, acc, acc2, m, hn, he, hm => by
    rw [addAll_cons] at hm
    by_cases hx : x ∈ acc2
    · rw [add_in hx] at hm
      have hxa := (he x).2 hx
      rw [firstA_miss (by rintro ⟨y, h1, h2⟩; exact hn y x h1 hxa h2)]
      have e : ∀ y, y ∈ acc ++ [x] → y ∈ acc := fun y hy => by
        rcases List.mem_append.1 hy with h | h
        · exact h
        · simp at h; subst h; exact hxa
      exact firstA_uniq hs hi l (acc ++ [x]) acc2 m (fun y z hy hz => hn y z (e y hy) (e z hz)) (fun y => ⟨fun h => (he y).1 (e y h), fun h => List.mem_append_left _ ((he y).2 h)⟩) hm
    · rw [add_new hx] at hm
      obtain ⟨m', hm'⟩ := addAll_pre l (acc2 ++ [x])
      have e : m = x :: m' := by
        have : acc2 ++ m = acc2 ++ (x :: m') := by rw [← hm, hm']; simp
        exact List.append_cancel_left this
      subst e
      by_cases hb : ∃ y, y ∈ acc ∧ bad y x
      · obtain ⟨y, h1, h2⟩ := hb
        rw [firstA_hit ⟨y, h1, h2⟩, firstA_hit ⟨y, (he y).1 h1, h2⟩]
      · rw [firstA_miss hb, firstA_miss (by rintro ⟨y, h1, h2⟩; exact hb ⟨y, (he y).2 h1, h2⟩)]
        refine firstA_uniq hs hi l (acc ++ [x]) (acc2 ++ [x]) m' (fun y z hy hz hk => ?_) (fun y => by simp [he y]) hm'
        rcases List.mem_append.1 hy with h | h <;> rcases List.mem_append.1 hz with g | g
        · exact hn y z h g hk
        · simp at g; subst g; exact hb ⟨y, h, hk⟩
        · simp at h; subst h; exact hb ⟨z, g, hs _ _ hk⟩
        · simp at h g; subst h; subst g; exact hi _ hk
theorem Same.first {bad : α → α → Prop} (hs : ∀ y z, bad y z → bad z y) (hi : ∀ y, ¬ bad y y) {l m : List α} (h : Same l m) : firstA bad [] l = firstA bad [] m := by
  have e1 := firstA_uniq hs hi l [] [] (uniq l) (fun y z hy => by simp at hy) (fun _ => Iff.rfl) (by simp [uniq])
  have e2 := firstA_uniq hs hi m [] [] (uniq m) (fun y z hy => by simp at hy) (fun _ => Iff.rfl) (by simp [uniq])
  rw [e1, e2, h]
/-- None clashes: any two of them don't. -/
theorem firstA_none {bad : α → α → Prop} : ∀ {l acc : List α}, firstA bad acc l = none → ∀ i j x y, i < j → (acc ++ l)[i]? = some y → l[j - acc.length]? = some x → acc.length ≤ j → ¬ bad y x
  | [], acc, _, i, j, x, y, _, _, hx, _ => by simp at hx
  | z :: l, acc, h, i, j, x, y, hij, hy, hx, hj => by
    by_cases hb : ∃ y, y ∈ acc ∧ bad y z
    · rw [firstA_hit hb] at h; cases h
    · rw [firstA_miss hb] at h
      by_cases hjl : j = acc.length
      · subst hjl
        simp at hx; subst hx
        rw [List.getElem?_append_left hij] at hy
        exact fun k => hb ⟨y, List.mem_iff_getElem?.2 ⟨i, hy⟩, k⟩
      · refine firstA_none h i j x y hij (by simpa using hy) ?_ (by simp; omega)
        have e : j - acc.length = (j - (acc ++ [z]).length) + 1 := by simp; omega
        rw [e, List.getElem?_cons_succ] at hx; exact hx
end Go.Proofs.YtnkknfnndoegpaaDoor.Uq
