/-
  Which names selections spread, which Frags are reached so, and which Frag comes to spread itself, plainly; no program. Conditions: as each theorem says.
-/
import Derived.Test.YthdncjdopejkkaaDoorRows
import Derived.Test.YthdncjdopejkkaaDoorFragM
namespace Go.Proofs.YthdncjdopejkkaaDoor.Selss
open Go.RowKit
set_option linter.unusedVariables false
set_option maxRecDepth 100000

/-- The names of all spreads, however deep, in their order. -/
def Sels.spr : Sels → List ByteArray
  | .nil => []
  | .cons k _ nm _ u r => (if k = 3 then [nm] else []) ++ (u.spr ++ r.spr)
theorem Sels.spr_drop {i : Nat} {s : Sels} {k : Int} {key nm : ByteArray} {f : Int} {u r : Sels} (h : s.drop i = .cons k key nm f u r) : (s.drop i).spr = ((if k = 3 then [nm] else []) ++ u.spr) ++ (s.drop (i + 1)).spr := by
  rw [Sels.drop_succ i s h, h]; simp [Sels.spr]
theorem Sels.spr_len : ∀ s : Sels, s.spr.length ≤ s.all
  | .nil => Nat.le_refl _
  | .cons k _ nm _ u r => by
    have h1 := Sels.spr_len u
    have h2 := Sels.spr_len r
    simp only [Sels.spr, Sels.all, List.length_append]
    split <;> simp <;> omega
open Classical in
/-- A name put behind others, if it isn't there. -/
noncomputable def addN (out : List ByteArray) (n : ByteArray) : List ByteArray := if n ∈ out then out else out ++ [n]
noncomputable def addS (out l : List ByteArray) : List ByteArray := l.foldl addN out
theorem addS_nil (out : List ByteArray) : addS out [] = out := rfl
theorem addS_append (out l m : List ByteArray) : addS out (l ++ m) = addS (addS out l) m := by unfold addS; rw [List.foldl_append]
theorem addS_one (out : List ByteArray) (n : ByteArray) : addS out [n] = addN out n := rfl
theorem mem_addN {out : List ByteArray} {n m : ByteArray} : m ∈ addN out n ↔ m ∈ out ∨ m = n := by
  unfold addN; split
  · constructor
    · exact .inl
    · rintro (h | rfl)
      · exact h
      · assumption
  · simp
theorem mem_addS {m : ByteArray} : ∀ {l out : List ByteArray}, m ∈ addS out l ↔ m ∈ out ∨ m ∈ l
  | [], out => by simp [addS]
  | n :: l, out => by
    have := mem_addS (m := m) (l := l) (out := addN out n)
    unfold addS at this ⊢
    rw [List.foldl_cons, this, mem_addN]; simp only [List.mem_cons]
    constructor
    · rintro ((h | h) | h)
      · exact .inl h
      · exact .inr (.inl h)
      · exact .inr (.inr h)
    · rintro (h | h | h)
      · exact .inl (.inl h)
      · exact .inl (.inr h)
      · exact .inr h
theorem nodup_addN {out : List ByteArray} {n : ByteArray} (h : out.Nodup) : (addN out n).Nodup := by
  unfold addN; split
  · exact h
  · rename_i hn
    rw [List.nodup_append]
    exact ⟨h, by simp, fun a ha b hb => by simp at hb; subst hb; exact fun e => hn (e ▸ ha)⟩
theorem nodup_addS : ∀ {l out : List ByteArray}, out.Nodup → (addS out l).Nodup
  | [], out, h => h
  | n :: l, out, h => by
    have := nodup_addS (l := l) (nodup_addN (n := n) h)
    exact this
/-- What is put behind others leaves these where they are. -/
theorem addN_prefix (out : List ByteArray) (n : ByteArray) : ∃ m, addN out n = out ++ m := by
  unfold addN; split
  · exact ⟨[], by simp⟩
  · exact ⟨[n], rfl⟩
theorem addS_prefix : ∀ (l out : List ByteArray), ∃ m, addS out l = out ++ m
  | [], out => ⟨[], by simp [addS]⟩
  | n :: l, out => by
    obtain ⟨m1, h1⟩ := addN_prefix out n
    obtain ⟨m2, h2⟩ := addS_prefix l (addN out n)
    refine ⟨m1 ++ m2, ?_⟩
    have e : addS out (n :: l) = addS (addN out n) l := rfl
    rw [e, h2, h1, List.append_assoc]
theorem addS_len : ∀ (l out : List ByteArray), (addS out l).length ≤ out.length + l.length
  | [], out => Nat.le_refl _
  | n :: l, out => by
    have := addS_len l (addN out n)
    have e : addS out (n :: l) = addS (addN out n) l := rfl
    rw [e]
    have h1 : (addN out n).length ≤ out.length + 1 := by unfold addN; split <;> simp
    simp only [List.length_cons]; omega
/-- So many different ones of a list are no more than it has. -/
theorem nodup_length : ∀ {l m : List ByteArray}, l.Nodup → (∀ x, x ∈ l → x ∈ m) → l.length ≤ m.length
  | [], m, _, _ => Nat.zero_le _
  | x :: l, m, hn, hs => by
    have hx := hs x (List.mem_cons_self ..)
    rw [List.nodup_cons] at hn
    obtain ⟨a, b, rfl⟩ := List.append_of_mem hx
    have h1 : l.length ≤ (a ++ b).length := nodup_length hn.2 fun y hy => by
      have hne : y ≠ x := fun e => hn.1 (e ▸ hy)
      have := hs y (List.mem_cons_of_mem _ hy)
      simp only [List.mem_append, List.mem_cons] at this ⊢
      rcases this with h | h | h
      · exact .inl h
      · exact absurd h hne
      · exact .inr h
    simp only [List.length_cons, List.length_append] at h1 ⊢; omega

/-- The first Frag of a name. -/
def fragIn (nm : ByteArray) : List FragP → Option FragP
  | [] => none
  | x :: l => if x.name = nm then some x else fragIn nm l
/-- The names that the Frag of a name spreads. -/
def sprOf (l : List FragP) (nm : ByteArray) : List ByteArray := match fragIn nm l with | none => [] | some x => x.sels.spr
/-- All names that some, or Frags, spread. -/
def allN (l : List FragP) (s0 : List ByteArray) : List ByteArray := s0 ++ l.flatMap fun x => x.sels.spr
theorem sprOf_sub {nm n : ByteArray} : ∀ {l : List FragP}, n ∈ sprOf l nm → n ∈ l.flatMap fun x => x.sels.spr
  | [], h => by simp [sprOf, fragIn] at h
  | x :: l, h => by
    unfold sprOf fragIn at h
    rw [List.flatMap_cons]
    by_cases hx : x.name = nm
    · rw [if_pos hx] at h; exact List.mem_append_left _ h
    · rw [if_neg hx] at h; exact List.mem_append_right _ (sprOf_sub (nm := nm) h)
/-- The names that are reached from some. -/
inductive Reach (l : List FragP) (s0 : List ByteArray) : ByteArray → Prop where
  | base {n : ByteArray} : n ∈ s0 → Reach l s0 n
  | step {m n : ByteArray} : Reach l s0 m → n ∈ sprOf l m → Reach l s0 n
theorem Reach.all {l : List FragP} {s0 : List ByteArray} {n : ByteArray} (h : Reach l s0 n) : n ∈ allN l s0 := by
  cases h with
  | base h => exact List.mem_append_left _ h
  | step _ h => exact List.mem_append_right _ (sprOf_sub h)
/-- What holds what is begun with, and is closed, holds all that is reached. -/
theorem Reach.closed {l : List FragP} {s0 : List ByteArray} {P : ByteArray → Prop} (h0 : ∀ n, n ∈ s0 → P n) (h1 : ∀ m, P m → ∀ n, n ∈ sprOf l m → P n) {n : ByteArray} (h : Reach l s0 n) : P n := by
  induction h with
  | base h => exact h0 _ h
  | step _ hn ih => exact h1 _ ih _ hn
open Classical in
/-- Whether a name is reached. -/
noncomputable def reachB (l : List FragP) (s0 : List ByteArray) (n : ByteArray) : Bool := decide (Reach l s0 n)
theorem reachB_yes {l : List FragP} {s0 : List ByteArray} {n : ByteArray} (h : Reach l s0 n) : reachB l s0 n = true := by unfold reachB; simp [h]
theorem reachB_no {l : List FragP} {s0 : List ByteArray} {n : ByteArray} (h : ¬ Reach l s0 n) : reachB l s0 n = false := by unfold reachB; simp [h]
theorem reachB_of {l : List FragP} {s0 : List ByteArray} {n : ByteArray} {b : Bool} (h : b = true ↔ Reach l s0 n) : reachB l s0 n = b := by
  cases b
  · exact reachB_no fun k => by have := h.2 k; cases this
  · exact reachB_yes (h.1 rfl)
/-- The name of the first of some Frags that comes to spread itself; the empty one without. -/
noncomputable def loopN (l : List FragP) : List FragP → ByteArray
  | [] => ⟨#[]⟩
  | x :: r => if reachB l x.sels.spr x.name = true then x.name else loopN l r
theorem loopN_hit {l m : List FragP} {i : Nat} {x : FragP} (h : m[i]? = some x) (hx : reachB l x.sels.spr x.name = true) : loopN l (m.drop i) = x.name := by
  obtain ⟨hl, rfl⟩ := List.getElem?_eq_some_iff.1 h
  rw [List.drop_eq_getElem_cons hl, loopN, if_pos hx]
theorem loopN_miss {l m : List FragP} {i : Nat} {x : FragP} (h : m[i]? = some x) (hx : reachB l x.sels.spr x.name = false) : loopN l (m.drop i) = loopN l (m.drop (i + 1)) := by
  obtain ⟨hl, rfl⟩ := List.getElem?_eq_some_iff.1 h
  rw [List.drop_eq_getElem_cons hl, loopN, if_neg (by rw [hx]; simp)]

/-! ### the worklist of the model: names that are all different, of which the first k have been gone through -/
structure WorkM (l : List FragP) (s0 inn : List ByteArray) (k : Nat) : Prop where
  reach : ∀ n, n ∈ inn → Reach l s0 n
  base : ∀ n, n ∈ s0 → n ∈ inn
  done : ∀ i m, i < k → inn[i]? = some m → ∀ n, n ∈ sprOf l m → n ∈ inn
  nodup : inn.Nodup
theorem WorkM.start (l : List FragP) (s0 : List ByteArray) : WorkM l s0 (addS [] s0) 0 :=
  ⟨fun n h => .base (by simpa using mem_addS.1 h), fun n h => mem_addS.2 (.inr h), fun i m h => by omega, nodup_addS List.nodup_nil⟩
theorem WorkM.len {l : List FragP} {s0 inn : List ByteArray} {k : Nat} (h : WorkM l s0 inn k) : inn.length ≤ (allN l s0).length := nodup_length h.nodup fun n hn => (h.reach n hn).all
theorem WorkM.next {l : List FragP} {s0 inn : List ByteArray} {k : Nat} {m : ByteArray} (h : WorkM l s0 inn k) (hm : inn[k]? = some m) : WorkM l s0 (addS inn (sprOf l m)) (k + 1) := by
  have hmem : m ∈ inn := List.mem_iff_getElem?.2 ⟨k, hm⟩
  refine ⟨fun n hn => ?_, fun n hn => mem_addS.2 (.inl (h.base n hn)), fun i m' hi hm' n hn => ?_, nodup_addS h.nodup⟩
  · rcases mem_addS.1 hn with h1 | h1
    · exact h.reach n h1
    · exact .step (h.reach m hmem) h1
  · obtain ⟨t, ht⟩ := addS_prefix (sprOf l m) inn
    have hk : k < inn.length := (List.getElem?_eq_some_iff.1 hm).1
    rw [ht, List.getElem?_append_left (by omega)] at hm'
    by_cases hik : i = k
    · subst hik
      rw [hm] at hm'; cases hm'
      exact mem_addS.2 (.inr hn)
    · exact mem_addS.2 (.inl (h.done i m' (by omega) hm' n hn))
theorem WorkM.end_ {l : List FragP} {s0 inn : List ByteArray} (h : WorkM l s0 inn inn.length) {n : ByteArray} : n ∈ inn ↔ Reach l s0 n :=
  ⟨h.reach n, fun hr => hr.closed (P := fun n => n ∈ inn) h.base fun m hm n hn => by
    obtain ⟨i, hi⟩ := List.mem_iff_getElem?.1 hm
    exact h.done i m (List.getElem?_eq_some_iff.1 hi).1 hi n hn⟩

/-! ### the program's: names in their order, of which the first k are marked, and what is marked -/
open Classical in
noncomputable def restN (seen : List ByteArray) : List FragP → Nat
  | [] => 0
  | x :: l => (if x.name ∈ seen then 0 else x.sels.spr.length) + restN seen l
theorem restN_more {seen : List ByteArray} {nm : ByteArray} : ∀ l : List FragP, restN (nm :: seen) l ≤ restN seen l
  | [] => Nat.le_refl _
  | x :: l => by
    have := restN_more (seen := seen) (nm := nm) l
    simp only [restN]
    by_cases h1 : x.name ∈ seen
    · rw [if_pos h1, if_pos (List.mem_cons_of_mem _ h1)]; omega
    · rw [if_neg h1]; split <;> omega
theorem restN_mark {seen : List ByteArray} {nm : ByteArray} (hn : nm ∉ seen) : ∀ l : List FragP, restN (nm :: seen) l + (sprOf l nm).length ≤ restN seen l
  | [] => by simp [restN, sprOf, fragIn]
  | x :: l => by
    have := restN_mark hn l
    have h2 := restN_more (seen := seen) (nm := nm) l
    unfold sprOf fragIn
    simp only [restN]
    by_cases hx : x.name = nm
    · rw [if_pos hx, if_pos (by rw [hx]; exact List.mem_cons_self ..), if_neg (by rw [hx]; exact hn)]; simp only []; omega
    · rw [if_neg hx]
      unfold sprOf at this
      by_cases h1 : x.name ∈ seen
      · rw [if_pos h1, if_pos (List.mem_cons_of_mem _ h1)]; omega
      · rw [if_neg h1, if_neg (by rw [List.mem_cons]; rintro (h | h) <;> contradiction)]; omega
theorem restN_nil : ∀ l : List FragP, restN [] l = (l.flatMap fun x => x.sels.spr).length
  | [] => rfl
  | x :: l => by rw [List.flatMap_cons, List.length_append, ← restN_nil l]; simp [restN]
structure WorkI (l : List FragP) (s0 names seen : List ByteArray) (k : Nat) : Prop where
  reach : ∀ n, n ∈ names → Reach l s0 n
  base : ∀ n, n ∈ s0 → n ∈ names
  done : ∀ i m, i < k → names[i]? = some m → m ∈ seen
  marked : ∀ m, m ∈ seen → m ∈ names ∧ ∀ n, n ∈ sprOf l m → n ∈ names
  many : names.length + restN seen l ≤ (allN l s0).length
theorem WorkI.start (l : List FragP) (s0 : List ByteArray) : WorkI l s0 s0 [] 0 :=
  ⟨fun n h => .base h, fun n h => h, fun i m h => by omega, fun m h => by simp at h, by rw [restN_nil]; simp [allN]⟩
theorem WorkI.skip {l : List FragP} {s0 names seen : List ByteArray} {k : Nat} {m : ByteArray} (h : WorkI l s0 names seen k) (hm : names[k]? = some m) (hs : m ∈ seen) : WorkI l s0 names seen (k + 1) :=
  ⟨h.reach, h.base, fun i m' hi hm' => by
    by_cases hik : i = k
    · subst hik; rw [hm] at hm'; cases hm'; exact hs
    · exact h.done i m' (by omega) hm', h.marked, h.many⟩
theorem WorkI.mark {l : List FragP} {s0 names seen : List ByteArray} {k : Nat} {m : ByteArray} (h : WorkI l s0 names seen k) (hm : names[k]? = some m) (hs : m ∉ seen) : WorkI l s0 (names ++ sprOf l m) (m :: seen) (k + 1) := by
  have hmem : m ∈ names := List.mem_iff_getElem?.2 ⟨k, hm⟩
  have hk : k < names.length := (List.getElem?_eq_some_iff.1 hm).1
  refine ⟨fun n hn => ?_, fun n hn => List.mem_append_left _ (h.base n hn), fun i m' hi hm' => ?_, fun m' hm' => ?_, ?_⟩
  · rcases List.mem_append.1 hn with h1 | h1
    · exact h.reach n h1
    · exact .step (h.reach m hmem) h1
  · rw [List.getElem?_append_left (by omega)] at hm'
    by_cases hik : i = k
    · subst hik; rw [hm] at hm'; cases hm'; exact List.mem_cons_self ..
    · exact List.mem_cons_of_mem _ (h.done i m' (by omega) hm')
  · rcases List.mem_cons.1 hm' with rfl | h1
    · exact ⟨List.mem_append_left _ hmem, fun n hn => List.mem_append_right _ hn⟩
    · exact ⟨List.mem_append_left _ (h.marked m' h1).1, fun n hn => List.mem_append_left _ ((h.marked m' h1).2 n hn)⟩
  · have h1 := restN_mark hs l
    have h2 := h.many
    rw [List.length_append]; omega
theorem WorkI.end_ {l : List FragP} {s0 names seen : List ByteArray} (h : WorkI l s0 names seen names.length) {n : ByteArray} : n ∈ seen ↔ Reach l s0 n :=
  ⟨fun hn => h.reach n (h.marked n hn).1, fun hr => hr.closed (P := fun n => n ∈ seen) (fun n hn => by
      obtain ⟨i, hi⟩ := List.mem_iff_getElem?.1 (h.base n hn)
      exact h.done i n (List.getElem?_eq_some_iff.1 hi).1 hi) fun m hm n hn => by
      obtain ⟨i, hi⟩ := List.mem_iff_getElem?.1 ((h.marked m hm).2 n hn)
      exact h.done i n (List.getElem?_eq_some_iff.1 hi).1 hi⟩
/-- A name's own number of all. -/
theorem allN_len (l : List FragP) (s0 : List ByteArray) : (allN l s0).length = s0.length + (l.flatMap fun x => x.sels.spr).length := by unfold allN; rw [List.length_append]
end Go.Proofs.YthdncjdopejkkaaDoor.Selss
