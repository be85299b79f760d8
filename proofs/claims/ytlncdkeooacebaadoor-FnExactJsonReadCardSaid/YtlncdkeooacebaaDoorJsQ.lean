/-
  Nodes read off bytes, plainly, as the program and as the model read them; what is written of a right node is read back by both, and what the program reads is written so; no program. Conditions: as each theorem says.
-/
import Derived.Test.YtlncdkeooacebaaDoorRows
import Derived.Test.YtlncdkeooacebaaDoorJsP
import Derived.Lib.IndexMore
import Derived.Lib.Strings
namespace Go.Proofs.YtlncdkeooacebaaDoor.Rw
open Go.RowKit Words
set_option linter.unusedVariables false
set_option linter.unusedSimpArgs false
set_option maxRecDepth 100000

abbrev Bs := List UInt8
def tB (l : Bs) : ByteArray := ⟨l.toArray⟩
theorem bl_tB (l : Bs) : bl (tB l) = l := rfl
theorem tB_bl (t : ByteArray) : tB (bl t) = t := by unfold tB bl; rw [Array.toArray_toList]
theorem tB_nil_of {t : ByteArray} (h : t.toList = []) : t = tB [] := by
  rw [Lib.toList_data] at h
  apply ByteArray.ext; exact Array.toList_inj.1 h
def Fits : Nat → NodeP → Prop
  | 0, _ => False
  | n + 1, x => ∀ k ∈ x.kids, Fits n k
theorem part_fits : ∀ d x, PartOk d x → Fits d x
  | 0, _, h => h.elim
  | d + 1, x, h => fun k hk => part_fits d k (h.2 k hk)
theorem it_congr {f g : NodeP → Bs} {obj : Bool} {ks : List ByteArray} {ns : List NodeP} (h : ∀ x ∈ ns, f x = g x) : ∀ i, i ≤ ns.length → itB f obj ks ns i = itB g obj ks ns i
  | 0, _ => rfl
  | i + 1, hi => by
    have hx : ns[i]? = some ns[i] := List.getElem?_eq_getElem (by omega)
    rw [it_step hx, it_step hx, it_congr h i (by omega), h _ (List.getElem_mem _)]
theorem sum_congr {f g : NodeP → Nat} : ∀ {ns : List NodeP}, (∀ x ∈ ns, f x = g x) → sumOf f ns = sumOf g ns
  | [], _ => rfl
  | x :: ns, h => by simp only [sumOf]; rw [h x (by simp), sum_congr fun y hy => h y (by simp [hy])]
theorem js_same : ∀ n m x, Fits n x → Fits m x → jsB n x = jsB m x ∧ szN n x = szN m x
  | 0, _, _, h, _ => h.elim
  | _ + 1, 0, _, _, h => h.elim
  | n + 1, m + 1, x, h1, h2 => by
    have e : ∀ k ∈ x.kids, jsB n k = jsB m k ∧ szN n k = szN m k := fun k hk => js_same n m k (h1 k hk) (h2 k hk)
    refine ⟨?_, ?_⟩
    · simp only [jsB]
      rw [it_congr (fun k hk => (e k hk).1) _ (Nat.le_refl _), it_congr (fun k hk => (e k hk).1) _ (Nat.le_refl _)]
    · simp only [szN]
      rw [sum_congr fun k hk => (e k hk).2]
theorem right_same {n m : Nat} {x : NodeP} (h1 : Fits n x) (h2 : Fits m x) : RightN n x ↔ RightN m x := by
  unfold RightN; rw [(js_same n m x h1 h2).2]

/-! ### What is left behind the first i -/
def tlB (f : NodeP → Bs) (obj : Bool) (ks : List ByteArray) (ns : List NodeP) : Nat → Nat → Bs
  | 0, _ => []
  | j + 1, i => keyB obj (ks.getD i ⟨#[]⟩) ++ (f (ns.getD i node0) ++ (if j = 0 then [] else 44 :: tlB f obj ks ns j (i + 1)))
theorem it_tl {f : NodeP → Bs} {obj : Bool} {ks : List ByteArray} {ns : List NodeP} : ∀ j i, itB f obj ks ns (i + j) = itB f obj ks ns i ++ (if j = 0 then [] else sepB i ++ tlB f obj ks ns j i)
  | 0, i => by simp
  | j + 1, i => by
    rw [show i + (j + 1) = (i + 1) + j by omega, it_tl j (i + 1)]
    simp only [itB, tlB, Nat.add_one_ne_zero, if_false, List.append_assoc]
    by_cases hj : j = 0
    · simp [hj]
    · simp [hj, sepB]
theorem it_all {f : NodeP → Bs} {obj : Bool} {ks : List ByteArray} {ns : List NodeP} (h : ns.length ≠ 0) : itB f obj ks ns ns.length = tlB f obj ks ns ns.length 0 := by
  have := it_tl (f := f) (obj := obj) (ks := ks) (ns := ns) ns.length 0
  rw [Nat.zero_add, if_neg h] at this
  rw [this]; rfl

/-! ### The program's reader -/
def tookQ (p s : Bs) : Option Bs := if Lib.hasPrefix s p then some (Lib.trimPrefix s p) else none
theorem took_some {p s r : Bs} (h : tookQ p s = some r) : s = p ++ r := by
  unfold tookQ at h
  split at h
  · rename_i g
    unfold Lib.trimPrefix at h
    rw [if_pos g] at h
    obtain ⟨q, rfl⟩ := List.isPrefixOf_iff_prefix.1 g
    simp at h; rw [h]
  · cases h
theorem took_app (p r : Bs) : tookQ p (p ++ r) = some r := by
  have g : Lib.hasPrefix (p ++ r) p = true := List.isPrefixOf_iff_prefix.2 (List.prefix_append _ _)
  unfold tookQ Lib.trimPrefix
  rw [if_pos g, if_pos g]; simp
theorem took_no {c d : UInt8} {p s : Bs} (h : c ≠ d) : tookQ (c :: p) (d :: s) = none := by
  unfold tookQ Lib.hasPrefix
  have : (c == d) = false := by rw [beq_eq_false_iff_ne]; exact h
  simp [List.isPrefixOf, this]
def cutQ (sep s : Bs) : Option (Bs × Bs) := if (Lib.cut s sep).2.2 then some ((Lib.cut s sep).1, (Lib.cut s sep).2.1) else none
theorem ix_split (s sep : Bs) : 0 ≤ Lib.index s sep → s = s.take (Lib.index s sep).toNat ++ (sep ++ s.drop ((Lib.index s sep).toNat + sep.length)) := by
  induction s with
  | nil =>
    intro h
    unfold Lib.index at h ⊢
    cases sep with
    | nil => simp
    | cons c l => simp at h
  | cons b l ih =>
    intro h
    unfold Lib.index at h ⊢
    split
    · rename_i g
      obtain ⟨q, hq⟩ := List.isPrefixOf_iff_prefix.1 g
      rw [← hq]; simp
    · rename_i g
      rw [if_neg g] at h
      split at h
      · omega
      · rename_i g2
        rw [if_neg g2]
        have hi : 0 ≤ Lib.index l sep := by have := Lib.index_ge l sep; simp at g2; omega
        have e : (Lib.index l sep + 1).toNat = (Lib.index l sep).toNat + 1 := by omega
        rw [e, show (Lib.index l sep).toNat + 1 + sep.length = ((Lib.index l sep).toNat + sep.length) + 1 by omega, List.take_succ_cons, List.drop_succ_cons, List.cons_append]
        exact congrArg (b :: ·) (ih hi)
theorem cut_some {sep s a r : Bs} (h : cutQ sep s = some (a, r)) : s = a ++ (sep ++ r) := by
  unfold cutQ at h
  split at h
  · rename_i g
    simp only [Option.some.injEq, Prod.mk.injEq] at h
    obtain ⟨rfl, rfl⟩ := h
    unfold Lib.cut at g ⊢
    split
    · rename_i hi
      exact ix_split s sep hi
    · rename_i hi; rw [if_neg hi] at g; cases g
  · cases h
def keyQ (s : Bs) : Option (ByteArray × Bs) := (tookQ [34] s).bind fun r => (cutQ [34, 58] r).map fun q => (tB q.1, q.2)
def rdL (R : Bs → Option (NodeP × Bs)) (kd : Int) (e : UInt8) : Nat → List ByteArray → List NodeP → Bs → Option (NodeP × Bs)
  | 0, _, _, _ => none
  | g + 1, ks, ns, s =>
    match (if kd = 4 then keyQ s else some (tB [], s)) with
    | none => none
    | some (k, s2) =>
      match R s2 with
      | none => none
      | some (x, s3) =>
        match tookQ [e] s3 with
        | some q => some (⟨kd, tB [], if kd = 4 then ks ++ [k] else ks, ns ++ [x]⟩, q)
        | none =>
          match tookQ [44] s3 with
          | some q => rdL R kd e g (if kd = 4 then ks ++ [k] else ks) (ns ++ [x]) q
          | none => none
def rdK (R : Bs → Option (NodeP × Bs)) (f : Nat) (kd : Int) (e : UInt8) (s : Bs) : Option (NodeP × Bs) :=
  match tookQ [e] s with
  | some q => some (⟨kd, tB [], [], []⟩, q)
  | none => rdL R kd e f [] [] s
def rdN : Nat → Bs → Option (NodeP × Bs)
  | 0, _ => none
  | f + 1, s =>
    match tookQ [110, 117, 108, 108] s with
    | some r => some (⟨1, tB [], [], []⟩, r)
    | none =>
      match tookQ [34] s with
      | some r => (cutQ [34] r).map fun q => (⟨2, tB q.1, [], []⟩, q.2)
      | none =>
        match tookQ [91] s with
        | some r => rdK (rdN f) f 3 93 r
        | none =>
          match tookQ [123] s with
          | some r => rdK (rdN f) f 4 125 r
          | none => none
end Go.Proofs.YtlncdkeooacebaaDoor.Rw
