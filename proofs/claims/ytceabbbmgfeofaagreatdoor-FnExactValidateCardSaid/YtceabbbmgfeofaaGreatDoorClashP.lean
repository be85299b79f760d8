/-
  The fields of selections laid open, and which of them clashes first, plainly; no program. Conditions: as each theorem says.
-/
import Derived.Test.YtceabbbmgfeofaaGreatDoorRows
import Derived.Test.YtceabbbmgfeofaaGreatDoorLoopJ
namespace Go.Proofs.YtceabbbmgfeofaaGreatDoor.Uq
set_option linter.unusedVariables false
variable {α β : Type}
open Classical in
/-- One put behind others, if it isn't there. -/
noncomputable def add (out : List α) (x : α) : List α := if x ∈ out then out else out ++ [x]
noncomputable def addAll (out l : List α) : List α := l.foldl add out
noncomputable def uniq (l : List α) : List α := addAll [] l
theorem addAll_cons (out : List α) (x : α) (l : List α) : addAll out (x :: l) = addAll (add out x) l := rfl
theorem addAll_append (out l m : List α) : addAll out (l ++ m) = addAll (addAll out l) m := by unfold addAll; rw [List.foldl_append]
theorem uniq_append (l m : List α) : uniq (l ++ m) = addAll (uniq l) m := addAll_append _ _ _
theorem add_in {out : List α} {x : α} (h : x ∈ out) : add out x = out := by unfold add; rw [if_pos h]
theorem add_new {out : List α} {x : α} (h : x ∉ out) : add out x = out ++ [x] := by unfold add; rw [if_neg h]
theorem mem_add {out : List α} {x y : α} : y ∈ add out x ↔ y ∈ out ∨ y = x := by
  unfold add; split
  · rename_i h
    exact ⟨.inl, fun k => k.elim id fun e => e ▸ h⟩
  · simp
theorem mem_addAll {y : α} : ∀ {l out : List α}, y ∈ addAll out l ↔ y ∈ out ∨ y ∈ l
  | [], out => by simp [addAll]
  | x :: l, out => by
    rw [addAll_cons, mem_addAll, mem_add, List.mem_cons]
    constructor
    · rintro ((h | h) | h)
      · exact .inl h
      · exact .inr (.inl h)
      · exact .inr (.inr h)
    · rintro (h | h | h)
      · exact .inl (.inl h)
      · exact .inl (.inr h)
      · exact .inr h
theorem mem_uniq {y : α} {l : List α} : y ∈ uniq l ↔ y ∈ l := by unfold uniq; rw [mem_addAll]; simp
theorem addAll_in : ∀ {l out : List α}, (∀ x, x ∈ l → x ∈ out) → addAll out l = out
  | [], out, _ => rfl
  | x :: l, out, h => by
    rw [addAll_cons, add_in (h x (List.mem_cons_self ..))]
    exact addAll_in fun y hy => h y (List.mem_cons_of_mem _ hy)
theorem addAll_pre : ∀ (l out : List α), ∃ m, addAll out l = out ++ m
  | [], out => ⟨[], by simp [addAll]⟩
  | x :: l, out => by
    obtain ⟨m, hm⟩ := addAll_pre l (add out x)
    by_cases hx : x ∈ out
    · rw [add_in hx] at hm; exact ⟨m, by rw [addAll_cons, add_in hx]; exact hm⟩
    · rw [add_new hx] at hm; exact ⟨[x] ++ m, by rw [addAll_cons, add_new hx, hm, List.append_assoc]⟩
/-- Two lists are the same but for what stood there before. -/
def Same (l m : List α) : Prop := uniq l = uniq m
theorem Same.mem {l m : List α} (h : Same l m) {x : α} : x ∈ l ↔ x ∈ m := by rw [← mem_uniq, h, mem_uniq]
theorem Same.append {l m k : List α} (h : Same l m) : Same (l ++ k) (m ++ k) := by unfold Same at *; rw [uniq_append, uniq_append, h]
theorem Same.trans {l m k : List α} (h : Same l m) (g : Same m k) : Same l k := Eq.trans h g
theorem Same.refl (l : List α) : Same l l := rfl
theorem Same.more {l m : List α} (h : ∀ x, x ∈ m → x ∈ l) : Same l (l ++ m) := by
  unfold Same; rw [uniq_append, addAll_in fun x hx => mem_uniq.2 (h x hx)]
theorem flat_aux (g : α → List β) : ∀ (l acc : List α), addAll (uniq (acc.flatMap g)) (l.flatMap g) = uniq ((addAll acc l).flatMap g)
  | [], acc => rfl
  | x :: l, acc => by
    rw [List.flatMap_cons, addAll_append, addAll_cons]
    by_cases hx : x ∈ acc
    · rw [add_in hx, addAll_in (l := g x) fun y hy => mem_uniq.2 (List.mem_flatMap.2 ⟨x, hx, hy⟩)]
      exact flat_aux g l acc
    · rw [add_new hx, ← flat_aux g l (acc ++ [x])]
      congr 1
      rw [List.flatMap_append, uniq_append]; simp
theorem uniq_flat (g : α → List β) (l : List α) : uniq (l.flatMap g) = uniq ((uniq l).flatMap g) := flat_aux g l []
theorem Same.flat {l m : List α} (h : Same l m) (g : α → List β) : Same (l.flatMap g) (m.flatMap g) := by
  unfold Same at *; rw [uniq_flat, h, ← uniq_flat]
theorem map_flat (f : α → β) (l : List α) : l.map f = l.flatMap fun x => [f x] := by induction l <;> simp_all
theorem Same.keys {l m : List α} (h : Same l m) (f : α → β) : uniq (l.map f) = uniq (m.map f) := by
  rw [map_flat, map_flat]; exact h.flat _
/-! ### the first that clashes with one ahead of it -/
open Classical in
noncomputable def firstA (bad : α → α → Prop) : List α → List α → Option α
  | acc, [] => none
  | acc, x :: l => if ∃ y, y ∈ acc ∧ bad y x then some x else firstA bad (acc ++ [x]) l
theorem firstA_hit {bad : α → α → Prop} {acc l : List α} {x : α} (h : ∃ y, y ∈ acc ∧ bad y x) : firstA bad acc (x :: l) = some x := by rw [firstA, if_pos h]
theorem firstA_miss {bad : α → α → Prop} {acc l : List α} {x : α} (h : ¬ ∃ y, y ∈ acc ∧ bad y x) : firstA bad acc (x :: l) = firstA bad (acc ++ [x]) l := by rw [firstA, if_neg h]
theorem firstA_mem (bad : α → α → Prop) : ∀ (l : List α) {acc acc' : List α}, (∀ x, x ∈ acc ↔ x ∈ acc') → firstA bad acc l = firstA bad acc' l
  | [], _, _, _ => rfl
  | x :: l, acc, acc', h => by
    have e : (∃ y, y ∈ acc ∧ bad y x) ↔ ∃ y, y ∈ acc' ∧ bad y x := ⟨fun ⟨y, h1, h2⟩ => ⟨y, (h y).1 h1, h2⟩, fun ⟨y, h1, h2⟩ => ⟨y, (h y).2 h1, h2⟩⟩
    by_cases hb : ∃ y, y ∈ acc ∧ bad y x
    · rw [firstA_hit hb, firstA_hit (e.1 hb)]
    · rw [firstA_miss hb, firstA_miss fun k => hb (e.2 k)]
      exact firstA_mem bad l (fun y => by simp [h y])
theorem firstA_uniq {bad : α → α → Prop} (hs : ∀ y z, bad y z → bad z y) (hi : ∀ y, ¬ bad y y) : ∀ (l acc acc2 m : List α), (∀ y z, y ∈ acc → z ∈ acc → ¬ bad y z) → (∀ x, x ∈ acc ↔ x ∈ acc2) → addAll acc2 l = acc2 ++ m → firstA bad acc l = firstA bad acc2 m
  | [], acc, acc2, m, _, _, hm => by
    have : m = [] := by
      have e : acc2 ++ m = acc2 ++ [] := by rw [← hm]; simp [addAll]
      exact List.append_cancel_left e
    subst this; rfl
  | x :: l, acc, acc2, m, hn, he, hm => by
    rw [addAll_cons] at hm
    by_cases hx : x ∈ acc2
    · rw [add_in hx] at hm
      have hxa := (he x).2 hx
      rw [firstA_miss (by rintro ⟨y, h1, h2⟩; exact hn y x h1 hxa h2)]
      have e : ∀ y, y ∈ acc ++ [x] → y ∈ acc := fun y hy => by
        rcases List.mem_append.1 hy with h | h
        · exact h
        · simp at h; subst h; exact hxa
      exact firstA_uniq hs hi l (acc ++ [x]) acc2 m (fun y z hy hz => hn y z (e y hy) (e z hz)) (fun y => ⟨fun h => (he y).1 (e y h), fun h => List.mem_append_left _ ((he y).2 h)⟩) hm
    · rw [add_new hx] at hm
      obtain ⟨m', hm'⟩ := addAll_pre l (acc2 ++ [x])
      have e : m = x :: m' := by
        have : acc2 ++ m = acc2 ++ (x :: m') := by rw [← hm, hm']; simp
        exact List.append_cancel_left this
      subst e
      by_cases hb : ∃ y, y ∈ acc ∧ bad y x
      · obtain ⟨y, h1, h2⟩ := hb
        rw [firstA_hit ⟨y, h1, h2⟩, firstA_hit ⟨y, (he y).1 h1, h2⟩]
      · rw [firstA_miss hb, firstA_miss (by rintro ⟨y, h1, h2⟩; exact hb ⟨y, (he y).2 h1, h2⟩)]
        refine firstA_uniq hs hi l (acc ++ [x]) (acc2 ++ [x]) m' (fun y z hy hz hk => ?_) (fun y => by simp [he y]) hm'
        rcases List.mem_append.1 hy with h | h <;> rcases List.mem_append.1 hz with g | g
        · exact hn y z h g hk
        · simp at g; subst g; exact hb ⟨y, h, hk⟩
        · simp at h; subst h; exact hb ⟨z, g, hs _ _ hk⟩
        · simp at h g; subst h; subst g; exact hi _ hk
theorem Same.first {bad : α → α → Prop} (hs : ∀ y z, bad y z → bad z y) (hi : ∀ y, ¬ bad y y) {l m : List α} (h : Same l m) : firstA bad [] l = firstA bad [] m := by
  have e1 := firstA_uniq hs hi l [] [] (uniq l) (fun y z hy => by simp at hy) (fun _ => Iff.rfl) (by simp [uniq])
  have e2 := firstA_uniq hs hi m [] [] (uniq m) (fun y z hy => by simp at hy) (fun _ => Iff.rfl) (by simp [uniq])
  rw [e1, e2, h]
/-- None clashes: any two of them don't. -/
theorem firstA_none {bad : α → α → Prop} : ∀ {l acc : List α}, firstA bad acc l = none → ∀ i j x y, i < j → (acc ++ l)[i]? = some y → l[j - acc.length]? = some x → acc.length ≤ j → ¬ bad y x
  | [], acc, _, i, j, x, y, _, _, hx, _ => by simp at hx
  | z :: l, acc, h, i, j, x, y, hij, hy, hx, hj => by
    by_cases hb : ∃ y, y ∈ acc ∧ bad y z
    · rw [firstA_hit hb] at h; cases h
    · rw [firstA_miss hb] at h
      by_cases hjl : j = acc.length
      · subst hjl
        simp at hx; subst hx
        rw [List.getElem?_append_left hij] at hy
        exact fun k => hb ⟨y, List.mem_iff_getElem?.2 ⟨i, hy⟩, k⟩
      · refine firstA_none h i j x y hij (by simpa using hy) ?_ (by simp; omega)
        have e : j - acc.length = (j - (acc ++ [z]).length) + 1 := by simp; omega
        rw [e, List.getElem?_cons_succ] at hx; exact hx
end Go.Proofs.YtceabbbmgfeofaaGreatDoor.Uq
namespace Go.Proofs.YtceabbbmgfeofaaGreatDoor.Selss
open Go.RowKit
set_option linter.unusedVariables false
set_option maxRecDepth 100000
/-! ### fields laid open -/
structure Fd where
  key : ByteArray
  name : ByteArray
  first : Int
  sub : Sels
def openS (sp : ByteArray → List Fd) : Sels → List Fd
  | .nil => []
  | .cons k key nm f u r => (if k = 1 then [⟨key, nm, f, u⟩] else if k = 2 then openS sp u else if k = 3 then sp nm else []) ++ openS sp r
def openM (fr : List FragP) : Nat → Sels → List Fd
  | 0, s => openS (fun _ => []) s
  | n + 1, s => openS (fun nm => openM fr n (fragOr nm fr).sels) s
theorem openS_congr {sp sp' : ByteArray → List Fd} : ∀ {s : Sels}, (∀ m, m ∈ s.spr → sp m = sp' m) → openS sp s = openS sp' s
  | .nil, _ => rfl
  | .cons k key nm f u r, h => by
    simp only [Sels.spr, List.mem_append] at h
    have h1 := openS_congr (s := u) fun m hm => h m (.inr (.inl hm))
    have h2 := openS_congr (s := r) fun m hm => h m (.inr (.inr hm))
    unfold openS
    rw [h1, h2]
    by_cases hk : k = 3
    · rw [h nm (.inl (by rw [if_pos hk]; simp))]
    · simp [hk]
theorem openS_nil_of {sp : ByteArray → List Fd} : openS sp .nil = [] := rfl
/-! ### an order of the Frags where none comes to spread itself -/
def NoLoop (fr : List FragP) : Prop := ∀ x, x ∈ fr → reachB fr x.sels.spr x.name = false
open Classical in
noncomputable def cnt (P : ByteArray → Prop) : List FragP → Nat
  | [] => 0
  | x :: l => (if P x.name then 1 else 0) + cnt P l
theorem cnt_le {P Q : ByteArray → Prop} (h : ∀ m, P m → Q m) : ∀ l : List FragP, cnt P l ≤ cnt Q l
  | [] => Nat.le_refl _
  | x :: l => by
    have := cnt_le h l
    unfold cnt
    by_cases hp : P x.name
    · rw [if_pos hp, if_pos (h _ hp)]; omega
    · rw [if_neg hp]; omega
theorem cnt_lt {P Q : ByteArray → Prop} (h : ∀ m, P m → Q m) : ∀ {l : List FragP} {x : FragP}, x ∈ l → Q x.name → ¬ P x.name → cnt P l < cnt Q l
  | y :: l, x, hx, hq, hp => by
    have h1 := cnt_le h l
    unfold cnt
    rcases List.mem_cons.1 hx with rfl | hx
    · rw [if_neg hp, if_pos hq]; omega
    · have h2 := cnt_lt h hx hq hp
      by_cases hy : P y.name
      · rw [if_pos hy, if_pos (h _ hy)]; omega
      · rw [if_neg hy]; omega
theorem cnt_len (P : ByteArray → Prop) : ∀ l : List FragP, cnt P l ≤ l.length
  | [] => Nat.le_refl _
  | x :: l => by
    have := cnt_len P l
    unfold cnt; rw [List.length_cons]; split <;> omega
theorem fragIn_spec {nm : ByteArray} : ∀ {l : List FragP} {x : FragP}, fragIn nm l = some x → x ∈ l ∧ x.name = nm
  | y :: l, x, h => by
    unfold fragIn at h
    split at h
    · rename_i hy; cases h; exact ⟨List.mem_cons_self .., hy⟩
    · have := fragIn_spec h; exact ⟨List.mem_cons_of_mem _ this.1, this.2⟩
open Classical in
noncomputable def rk (fr : List FragP) (nm : ByteArray) : Nat := if fragIn nm fr = none then 0 else 1 + cnt (fun m => Reach fr (sprOf fr nm) m) fr
theorem rk_le (fr : List FragP) (nm : ByteArray) : rk fr nm ≤ fr.length + 1 := by
  unfold rk; split
  · omega
  · have := cnt_len (fun m => Reach fr (sprOf fr nm) m) fr; omega
theorem rk_none {fr : List FragP} {nm : ByteArray} (h : rk fr nm = 0) : fragIn nm fr = none := by
  unfold rk at h; split at h
  · assumption
  · omega
theorem rk_step {fr : List FragP} (hn : NoLoop fr) {nm m : ByteArray} (h : m ∈ sprOf fr nm) : rk fr m < rk fr nm := by
  have h1 : ¬ fragIn nm fr = none := fun e => by unfold sprOf at h; rw [e] at h; simp at h
  unfold rk
  rw [if_neg h1]
  split
  · omega
  · rename_i h2
    cases hx : fragIn m fr with
    | none => exact absurd hx h2
    | some x =>
      obtain ⟨hxm, hxn⟩ := fragIn_spec hx
      have hs : sprOf fr m = x.sels.spr := by unfold sprOf; rw [hx]
      have hno : ¬ Reach fr (sprOf fr m) x.name := by
        rw [hs]; intro hr
        have := hn x hxm
        rw [reachB_yes hr] at this; cases this
      have := cnt_lt (P := fun z => Reach fr (sprOf fr m) z) (Q := fun z => Reach fr (sprOf fr nm) z) (fun z hz => hz.closed (fun n hn => .step (.base h) hn) fun p hp n hn => .step hp hn) hxm (by rw [hxn]; exact .base h) hno
      omega
def Low (fr : List FragP) (n : Nat) (s : Sels) : Prop := ∀ m, m ∈ s.spr → rk fr m ≤ n
theorem Low.top (fr : List FragP) (s : Sels) : Low fr (fr.length + 1) s := fun m _ => rk_le fr m
theorem fragOr_none {nm : ByteArray} {fr : List FragP} (h : fragIn nm fr = none) : (fragOr nm fr).sels = .nil := by unfold fragOr; rw [h]; rfl
theorem Low.frag {fr : List FragP} (hn : NoLoop fr) {n : Nat} {m : ByteArray} (h : rk fr m ≤ n + 1) : Low fr n (fragOr m fr).sels := fun z hz => by
  rw [← sprOf_or] at hz
  have := rk_step hn hz
  omega
theorem Low.cons {fr : List FragP} {n : Nat} {k : Int} {key nm : ByteArray} {f : Int} {u r : Sels} (h : Low fr n (.cons k key nm f u r)) : Low fr n u ∧ Low fr n r ∧ (k = 3 → rk fr nm ≤ n) := by
  unfold Low at *
  simp only [Sels.spr, List.mem_append] at h
  exact ⟨fun m hm => h m (.inr (.inl hm)), fun m hm => h m (.inr (.inr hm)), fun hk => h nm (.inl (by rw [if_pos hk]; simp))⟩
theorem openM_stay {fr : List FragP} (hn : NoLoop fr) : ∀ (n : Nat) (s : Sels), Low fr n s → openM fr (n + 1) s = openM fr n s
  | 0, s, h => by
    show openS _ s = openS _ s
    refine openS_congr fun m hm => ?_
    have := h m hm
    rw [fragOr_none (rk_none (by omega))]; rfl
  | n + 1, s, h => by
    show openS _ s = openS _ s
    refine openS_congr fun m hm => ?_
    exact openM_stay hn n _ (Low.frag hn (h m hm))
/-- The fields of selections laid open. -/
def opens (fr : List FragP) (s : Sels) : List Fd := openM fr (fr.length + 1) s
theorem opens_eq {fr : List FragP} (hn : NoLoop fr) (s : Sels) : opens fr s = openS (fun m => opens fr (fragOr m fr).sels) s := by
  unfold opens
  rw [← openM_stay hn _ s (Low.top fr s)]; rfl
theorem opens_nil (fr : List FragP) : opens fr .nil = [] := rfl
theorem opens_cons {fr : List FragP} (hn : NoLoop fr) (k : Int) (key nm : ByteArray) (f : Int) (u r : Sels) :
    opens fr (.cons k key nm f u r) = (if k = 1 then [⟨key, nm, f, u⟩] else if k = 2 then opens fr u else if k = 3 then opens fr (fragOr nm fr).sels else []) ++ opens fr r := by
  rw [opens_eq hn (.cons k key nm f u r)]
  unfold openS
  rw [← opens_eq hn u, ← opens_eq hn r]
def Sels.app : Sels → Sels → Sels
  | .nil, t => t
  | .cons k key nm f u r, t => .cons k key nm f u (r.app t)
theorem Sels.app_len : ∀ s t : Sels, (s.app t).len = s.len + t.len
  | .nil, t => by simp [Sels.app, Sels.len]
  | .cons k key nm f u r, t => by simp only [Sels.app, Sels.len, Sels.app_len r t]; omega
theorem Sels.app_nil : ∀ s : Sels, s.app .nil = s
  | .nil => rfl
  | .cons k key nm f u r => by simp only [Sels.app, Sels.app_nil r]
theorem Sels.app_assoc : ∀ s t u : Sels, (s.app t).app u = s.app (t.app u)
  | .nil, t, u => rfl
  | .cons k key nm f v r, t, u => by simp only [Sels.app, Sels.app_assoc r t u]
theorem openS_app (sp : ByteArray → List Fd) : ∀ s t : Sels, openS sp (s.app t) = openS sp s ++ openS sp t
  | .nil, t => rfl
  | .cons k key nm f u r, t => by simp only [Sels.app, openS, openS_app sp r t, List.append_assoc]
theorem opens_app (fr : List FragP) (s t : Sels) : opens fr (s.app t) = opens fr s ++ opens fr t := openS_app _ s t
/-- What is within the fields of a key. -/
def subK (key : ByteArray) : List Fd → Sels
  | [] => .nil
  | x :: l => if x.key = key then x.sub.app (subK key l) else subK key l
theorem subK_append (key : ByteArray) : ∀ l m : List Fd, subK key (l ++ m) = (subK key l).app (subK key m)
  | [], m => rfl
  | x :: l, m => by
    simp only [List.cons_append, subK, subK_append key l m]
    split
    · rw [Sels.app_assoc]
    · rfl
theorem opens_subK (fr : List FragP) (key : ByteArray) : ∀ l : List Fd, opens fr (subK key l) = l.flatMap fun x => if x.key = key then opens fr x.sub else []
  | [] => rfl
  | x :: l => by
    rw [List.flatMap_cons, ← opens_subK fr key l, show subK key (x :: l) = if x.key = key then x.sub.app (subK key l) else subK key l from rfl]
    split
    · rw [opens_app]
    · rfl
/-! ### how deep they go -/
def DeepL (fr : List FragP) : Nat → List Fd → Prop
  | 0, l => l = []
  | m + 1, l => ∀ x, x ∈ l → DeepL fr m (opens fr x.sub)
theorem DeepL.succ {fr : List FragP} : ∀ {m : Nat} {l : List Fd}, DeepL fr m l → DeepL fr (m + 1) l
  | 0, l, h => by intro x hx; rw [show l = [] from h] at hx; simp at hx
  | m + 1, l, h => fun x hx => (h x hx).succ
theorem DeepL.le {fr : List FragP} {m n : Nat} {l : List Fd} (h : DeepL fr m l) (hm : m ≤ n) : DeepL fr n l := by
  induction hm with
  | refl => exact h
  | step _ ih => exact ih.succ
theorem DeepL.append {fr : List FragP} : ∀ {m : Nat} {l k : List Fd}, DeepL fr m l → DeepL fr m k → DeepL fr m (l ++ k)
  | 0, l, k, h, g => by rw [show l = [] from h, show k = [] from g]; rfl
  | m + 1, l, k, h, g => fun x hx => (List.mem_append.1 hx).elim (h x) (g x)
theorem DeepL.of_mem {fr : List FragP} : ∀ {m : Nat} {l k : List Fd}, (∀ x, x ∈ l → x ∈ k) → DeepL fr m k → DeepL fr m l
  | 0, l, k, h, g => by
    cases l with
    | nil => rfl
    | cons x l => have := h x (List.mem_cons_self ..); rw [show k = [] from g] at this; simp at this
  | m + 1, l, k, h, g => fun x hx => g x (h x hx)
theorem deep_ex {fr : List FragP} (hn : NoLoop fr) : ∀ (n : Nat) (s : Sels), Low fr n s → ∃ m, DeepL fr m (opens fr s)
  | n, .nil, _ => ⟨0, rfl⟩
  | n, .cons k key nm f u r, h => by
    obtain ⟨hu, hr, h3⟩ := h.cons
    obtain ⟨m1, d1⟩ := deep_ex hn n u hu
    obtain ⟨m2, d2⟩ := deep_ex hn n r hr
    rw [opens_cons hn]
    by_cases k1 : k = 1
    · refine ⟨(m1 + 1) + m2, DeepL.append ?_ (d2.le (by omega))⟩
      rw [if_pos k1]
      exact DeepL.le (m := m1 + 1) (fun x hx => by simp at hx; subst hx; exact d1) (by omega)
    rw [if_neg k1]
    by_cases k2 : k = 2
    · rw [if_pos k2]
      exact ⟨m1 + m2, (d1.le (by omega)).append (d2.le (by omega))⟩
    rw [if_neg k2]
    by_cases k3 : k = 3
    · rw [if_pos k3]
      have hrk := h3 k3
      cases n with
      | zero =>
        rw [fragOr_none (rk_none (by omega)), opens_nil]
        exact ⟨m2, d2⟩
      | succ n =>
        obtain ⟨m3, d3⟩ := deep_ex hn n (fragOr nm fr).sels (Low.frag hn hrk)
        exact ⟨m3 + m2, (d3.le (by omega)).append (d2.le (by omega))⟩
    rw [if_neg k3]
    exact ⟨m2, d2⟩
termination_by n s => (n, s)
theorem deep_sub {fr : List FragP} {m : Nat} {l : List Fd} (h : DeepL fr (m + 1) l) (key : ByteArray) : DeepL fr m (opens fr (subK key l)) := by
  rw [opens_subK]
  induction l with
  | nil => exact DeepL.le (m := 0) rfl (Nat.zero_le _)
  | cons x l ih =>
    rw [List.flatMap_cons]
    refine DeepL.append ?_ (ih fun y hy => h y (List.mem_cons_of_mem _ hy))
    split
    · exact h x (List.mem_cons_self ..)
    · exact DeepL.le (m := 0) rfl (Nat.zero_le _)
/-! ### what clashes -/
def Bad (y x : Fd) : Prop := y.key = x.key ∧ (y.name ≠ x.name ∨ y.first ≠ x.first)
theorem Bad.symm (y x : Fd) (h : Bad y x) : Bad x y := ⟨h.1.symm, h.2.imp (fun k e => k e.symm) fun k e => k e.symm⟩
theorem Bad.irrefl (y : Fd) : ¬ Bad y y := fun h => h.2.elim (fun k => k rfl) fun k => k rfl
/-- What is told first of some texts, that isn't empty. -/
def firstK (f : ByteArray → ByteArray) : List ByteArray → ByteArray
  | [] => ⟨#[]⟩
  | k :: l => if f k = ⟨#[]⟩ then firstK f l else f k
theorem firstK_congr {f g : ByteArray → ByteArray} : ∀ {l : List ByteArray}, (∀ k, k ∈ l → f k = g k) → firstK f l = firstK g l
  | [], _ => rfl
  | k :: l, h => by
    have h1 := h k (List.mem_cons_self ..)
    have h2 := firstK_congr (l := l) fun j hj => h j (List.mem_cons_of_mem _ hj)
    unfold firstK; rw [h1, h2]
noncomputable def clashM (fr : List FragP) : Nat → List Fd → ByteArray
  | 0, _ => ⟨#[]⟩
  | m + 1, l => match Uq.firstA Bad [] l with
    | some x => x.key
    | none => firstK (fun k => clashM fr m (opens fr (subK k l))) (Uq.uniq (l.map Fd.key))
theorem same_sub {fr : List FragP} {l k : List Fd} (h : Uq.Same l k) (key : ByteArray) : Uq.Same (opens fr (subK key l)) (opens fr (subK key k)) := by
  rw [opens_subK, opens_subK]; exact h.flat _
theorem clash_same (fr : List FragP) : ∀ (m : Nat) {l k : List Fd}, Uq.Same l k → clashM fr m l = clashM fr m k
  | 0, l, k, h => rfl
  | m + 1, l, k, h => by
    unfold clashM
    rw [h.first Bad.symm Bad.irrefl, h.keys Fd.key]
    cases Uq.firstA Bad [] k with
    | some x => rfl
    | none => exact firstK_congr fun j _ => clash_same fr m (same_sub h j)
/-! ### what is right of their keys -/
def GoodS : Sels → Prop
  | .nil => True
  | .cons k key nm f u r => (k = 1 → key ≠ ⟨#[]⟩ ∧ key.size ≤ 8) ∧ GoodS u ∧ GoodS r
def GoodF (x : Fd) : Prop := (x.key ≠ ⟨#[]⟩ ∧ x.key.size ≤ 8) ∧ GoodS x.sub
theorem good_openS {sp : ByteArray → List Fd} (hsp : ∀ m x, x ∈ sp m → GoodF x) : ∀ {s : Sels}, GoodS s → ∀ x, x ∈ openS sp s → GoodF x
  | .nil, _, x, hx => by simp [openS] at hx
  | .cons k key nm f u r, ⟨h1, h2, h3⟩, x, hx => by
    unfold openS at hx
    rcases List.mem_append.1 hx with hx | hx
    · split at hx
      · rename_i hk; simp at hx; subst hx; exact ⟨h1 hk, h2⟩
      · split at hx
        · exact good_openS hsp h2 x hx
        · split at hx
          · exact hsp _ x hx
          · simp at hx
    · exact good_openS hsp h3 x hx
theorem good_frag {fr : List FragP} (hf : ∀ x, x ∈ fr → GoodS x.sels) (nm : ByteArray) : GoodS (fragOr nm fr).sels := by
  unfold fragOr
  cases h : fragIn nm fr with
  | none => trivial
  | some x => exact hf x (fragIn_spec h).1
theorem good_openM {fr : List FragP} (hf : ∀ x, x ∈ fr → GoodS x.sels) : ∀ (n : Nat) {s : Sels}, GoodS s → ∀ x, x ∈ openM fr n s → GoodF x
  | 0, s, h => good_openS (fun m x hx => by simp at hx) h
  | n + 1, s, h => good_openS (fun m x hx => good_openM hf n (good_frag hf m) x hx) h
theorem good_opens {fr : List FragP} (hf : ∀ x, x ∈ fr → GoodS x.sels) {s : Sels} (h : GoodS s) : ∀ x, x ∈ opens fr s → GoodF x := good_openM hf _ h
theorem good_app : ∀ {s t : Sels}, GoodS s → GoodS t → GoodS (s.app t)
  | .nil, t, _, h => h
  | .cons k key nm f u r, t, ⟨h1, h2, h3⟩, h => ⟨h1, h2, good_app h3 h⟩
theorem good_subK {key : ByteArray} : ∀ {l : List Fd}, (∀ x, x ∈ l → GoodF x) → GoodS (subK key l)
  | [], _ => trivial
  | x :: l, h => by
    unfold subK; split
    · exact good_app (h x (List.mem_cons_self ..)).2 (good_subK fun y hy => h y (List.mem_cons_of_mem _ hy))
    · exact good_subK fun y hy => h y (List.mem_cons_of_mem _ hy)
/-! ### how many there are, with all that is spread -/
def fullS (sp : ByteArray → Nat) : Sels → Nat
  | .nil => 0
  | .cons k _ nm _ u r => 1 + fullS sp u + (if k = 3 then sp nm else 0) + fullS sp r
def fullM (fr : List FragP) : Nat → Sels → Nat
  | 0, s => fullS (fun _ => 0) s
  | n + 1, s => fullS (fun nm => fullM fr n (fragOr nm fr).sels) s
theorem fullS_congr {sp sp' : ByteArray → Nat} : ∀ {s : Sels}, (∀ m, m ∈ s.spr → sp m = sp' m) → fullS sp s = fullS sp' s
  | .nil, _ => rfl
  | .cons k key nm f u r, h => by
    simp only [Sels.spr, List.mem_append] at h
    have h1 := fullS_congr (s := u) fun m hm => h m (.inr (.inl hm))
    have h2 := fullS_congr (s := r) fun m hm => h m (.inr (.inr hm))
    unfold fullS
    rw [h1, h2]
    by_cases hk : k = 3
    · rw [h nm (.inl (by rw [if_pos hk]; simp))]
    · simp [hk]
theorem fullM_stay {fr : List FragP} (hn : NoLoop fr) : ∀ (n : Nat) (s : Sels), Low fr n s → fullM fr (n + 1) s = fullM fr n s
  | 0, s, h => by
    show fullS _ s = fullS _ s
    refine fullS_congr fun m hm => ?_
    have := h m hm
    rw [fragOr_none (rk_none (by omega))]; rfl
  | n + 1, s, h => by
    show fullS _ s = fullS _ s
    refine fullS_congr fun m hm => ?_
    exact fullM_stay hn n _ (Low.frag hn (h m hm))
def full (fr : List FragP) (s : Sels) : Nat := fullM fr (fr.length + 1) s
theorem full_eq {fr : List FragP} (hn : NoLoop fr) (s : Sels) : full fr s = fullS (fun m => full fr (fragOr m fr).sels) s := by
  unfold full
  rw [← fullM_stay hn _ s (Low.top fr s)]; rfl
theorem full_nil (fr : List FragP) : full fr .nil = 0 := rfl
theorem full_cons {fr : List FragP} (hn : NoLoop fr) (k : Int) (key nm : ByteArray) (f : Int) (u r : Sels) :
    full fr (.cons k key nm f u r) = 1 + full fr u + (if k = 3 then full fr (fragOr nm fr).sels else 0) + full fr r := by
  rw [full_eq hn (.cons k key nm f u r)]
  unfold fullS
  rw [← full_eq hn u, ← full_eq hn r]
theorem full_len {fr : List FragP} (hn : NoLoop fr) : ∀ s : Sels, s.len ≤ full fr s
  | .nil => Nat.zero_le _
  | .cons k key nm f u r => by
    have := full_len hn r
    rw [full_cons hn, Sels.len]; omega
theorem full_app {fr : List FragP} (hn : NoLoop fr) : ∀ s t : Sels, full fr (s.app t) = full fr s + full fr t
  | .nil, t => by rw [full_nil]; simp [Sels.app]
  | .cons k key nm f u r, t => by
    rw [Sels.app, full_cons hn, full_cons hn, full_app hn r t]; omega
def sumF (fr : List FragP) : List Fd → Nat
  | [] => 0
  | x :: l => 1 + full fr x.sub + sumF fr l
theorem sumF_append (fr : List FragP) : ∀ l m : List Fd, sumF fr (l ++ m) = sumF fr l + sumF fr m
  | [], m => by simp [sumF]
  | x :: l, m => by simp only [List.cons_append, sumF, sumF_append fr l m]; omega
theorem sumF_len (fr : List FragP) : ∀ l : List Fd, l.length ≤ sumF fr l
  | [] => Nat.le_refl _
  | x :: l => by have := sumF_len fr l; simp only [sumF, List.length_cons]; omega
theorem sumF_sub {fr : List FragP} (hn : NoLoop fr) (key : ByteArray) : ∀ l : List Fd, full fr (subK key l) ≤ sumF fr l
  | [] => Nat.le_refl _
  | x :: l => by
    have := sumF_sub hn key l
    rw [show subK key (x :: l) = if x.key = key then x.sub.app (subK key l) else subK key l from rfl]
    simp only [sumF]
    split
    · rw [full_app hn]; omega
    · omega
theorem sumF_opens {fr : List FragP} (hn : NoLoop fr) : ∀ (n : Nat) (s : Sels), Low fr n s → sumF fr (opens fr s) ≤ full fr s
  | n, .nil, _ => Nat.le_refl _
  | n, .cons k key nm f u r, h => by
    obtain ⟨hu, hr, h3⟩ := h.cons
    have i1 := sumF_opens hn n u hu
    have i2 := sumF_opens hn n r hr
    rw [opens_cons hn, full_cons hn, sumF_append]
    by_cases k1 : k = 1
    · rw [if_pos k1]; simp only [sumF]; omega
    rw [if_neg k1]
    by_cases k2 : k = 2
    · rw [if_pos k2]; omega
    rw [if_neg k2]
    by_cases k3 : k = 3
    · rw [if_pos k3, if_pos k3]
      have hrk := h3 k3
      cases n with
      | zero => rw [fragOr_none (rk_none (by omega)), opens_nil]; simp only [sumF]; omega
      | succ n =>
        have i3 := sumF_opens hn n (fragOr nm fr).sels (Low.frag hn hrk)
        omega
    rw [if_neg k3]
    simp only [sumF]; omega
termination_by n s => (n, s)
theorem rk_le2 {fr : List FragP} (hn : NoLoop fr) (nm : ByteArray) : rk fr nm ≤ fr.length := by
  unfold rk
  split
  · omega
  · rename_i h2
    cases hx : fragIn nm fr with
    | none => exact absurd hx h2
    | some x =>
      obtain ⟨hxm, hxn⟩ := fragIn_spec hx
      have hs : sprOf fr nm = x.sels.spr := by unfold sprOf; rw [hx]
      have hno : ¬ Reach fr (sprOf fr nm) x.name := by
        rw [hs]; intro hr
        have := hn x hxm
        rw [reachB_yes hr] at this; cases this
      have := cnt_lt (P := fun z => Reach fr (sprOf fr nm) z) (Q := fun _ => True) (fun z _ => trivial) hxm trivial hno
      have h3 := cnt_len (fun _ => True) fr
      omega
def cN : Nat → Nat
  | 0 => 1
  | n + 1 => 1 + 60 * cN n
theorem cN_pos : ∀ n, 1 ≤ cN n
  | 0 => Nat.le_refl _
  | n + 1 => by unfold cN; omega
theorem fullS_le {sp : ByteArray → Nat} {c : Nat} (h : ∀ m, sp m + 1 ≤ c) : ∀ s : Sels, fullS sp s ≤ s.all * c
  | .nil => Nat.zero_le _
  | .cons k key nm f u r => by
    have h1 := fullS_le h u
    have h2 := fullS_le h r
    have h3 := h nm
    have e : (u.all + r.all + 1) * c = u.all * c + r.all * c + c := by rw [Nat.add_mul, Nat.add_mul, Nat.one_mul]
    simp only [fullS, Sels.all, e]
    split <;> omega
theorem fullM_le {fr : List FragP} (hf : fragAll fr ≤ 60) : ∀ (n : Nat) (s : Sels), fullM fr n s ≤ s.all * cN n
  | 0, s => fullS_le (c := 1) (fun _ => Nat.le_refl _) s
  | n + 1, s => by
    refine fullS_le (fun m => ?_) s
    have h1 := fullM_le hf n (fragOr m fr).sels
    have h2 := fragOr_all' (nm := m) (l := fr)
    have h3 : (fragOr m fr).sels.all * cN n ≤ 60 * cN n := Nat.mul_le_mul_right _ (by omega)
    unfold cN; omega
where
  fragOr_all' {nm : ByteArray} : ∀ {l : List FragP}, (fragOr nm l).sels.all ≤ fragAll l
    | [] => Nat.le_refl _
    | x :: l => by
      have := fragOr_all' (nm := nm) (l := l)
      unfold fragOr at this ⊢
      unfold fragIn
      split
      · simp only [Option.getD_some, fragAll]; omega
      · simp only [fragAll]; omega
theorem cN_mono : ∀ {m n : Nat}, m ≤ n → cN m ≤ cN n
  | m, 0, h => by rw [Nat.le_zero.1 h]; exact Nat.le_refl _
  | 0, n + 1, _ => cN_pos _
  | m + 1, n + 1, h => by have := cN_mono (m := m) (n := n) (by omega); unfold cN; omega
/-- Of a right Doc no more than so many, ever. -/
theorem full_few {fr : List FragP} (hn : NoLoop fr) (hf : fragAll fr ≤ 60) (h5 : fr.length ≤ 5) {s : Sels} (hs : s.all ≤ 60) : full fr s ≤ 100000000000 := by
  have e : full fr s = fullM fr fr.length s := fullM_stay hn _ s fun m _ => rk_le2 hn m
  have h1 := fullM_le hf fr.length s
  have h2 : cN fr.length ≤ cN 5 := cN_mono h5
  have h3 : cN 5 = 790779661 := by decide
  have h4 : s.all * cN fr.length ≤ 60 * cN 5 := Nat.mul_le_mul hs h2
  rw [e]; omega
end Go.Proofs.YtceabbbmgfeofaaGreatDoor.Selss
