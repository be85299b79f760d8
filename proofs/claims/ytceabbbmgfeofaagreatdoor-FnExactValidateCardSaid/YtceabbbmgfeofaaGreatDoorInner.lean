/-
  The heads of keys, and what is within them, in maps of the call's own; no program's function. Conditions: as each theorem says.
-/
import Derived.Test.YtceabbbmgfeofaaGreatDoorRows
import Derived.Test.YtceabbbmgfeofaaGreatDoorOpenI
import Derived.Test.YtceabbbmgfeofaaGreatDoorClashM
namespace Go.Proofs.YtceabbbmgfeofaaGreatDoor.Selss
open Go.RowKit Words Go.Maps
set_option linter.unusedVariables false
set_option maxRecDepth 100000

def headIn (k : ByteArray) : List RowS → Option RowS
  | [] => none
  | r :: T => if r.key = k then some r else headIn k T
theorem headIn_snoc {k : ByteArray} {x : RowS} : ∀ T : List RowS, headIn k (T ++ [x]) = match headIn k T with | some r => some r | none => if x.key = k then some x else none
  | [] => rfl
  | r :: T => by
    simp only [List.cons_append, headIn, headIn_snoc T]
    split <;> rfl
theorem headIn_some {k : ByteArray} {r : RowS} : ∀ {T : List RowS}, headIn k T = some r → r ∈ T ∧ r.key = k
  | x :: T, h => by
    simp only [headIn] at h
    split at h
    · rename_i hx; cases h; exact ⟨List.mem_cons_self .., hx⟩
    · have := headIn_some h; exact ⟨List.mem_cons_of_mem _ this.1, this.2⟩
theorem headIn_none {k : ByteArray} : ∀ {T : List RowS}, headIn k T = none → ∀ r, r ∈ T → r.key ≠ k
  | x :: T, h, r, hr => by
    simp only [headIn] at h
    split at h
    · cases h
    · rename_i hx
      rcases List.mem_cons.1 hr with rfl | hr
      · exact hx
      · exact headIn_none h r hr
def zsel : Value := .agg #[.int .i64 0, .string ⟨#[]⟩, .string ⟨#[]⟩, .int .i64 0, .slice none 0 0]
theorem zeroSel (w : World) : (zeroValue 114).run Tryz.prog w = .ok zsel w := by kernel_rfl
theorem zeroSels (w : World) : (zeroValue 26).run Tryz.prog w = .ok (.slice none 0 0) w := by kernel_rfl
def headV (k : ByteArray) (T : List RowS) : Value := match headIn k T with | none => zsel | some r => .agg r.cells.toArray
/-- The map D holds the first of each key. -/
structure HeadsD (T : List RowS) (D : DataW Value) : Prop where
  m : IsMap D
  val : ∀ k, D.atKey (Nm.keyL k) (.held zsel) = .held (headV k T)
  has : ∀ k, Maps.has D (Nm.keyL k) = (headIn k T).isSome
theorem HeadsD.nil : HeadsD [] (.map []) := ⟨isMap_empty, fun _ => rfl, fun _ => rfl⟩
theorem HeadsD.old {T : List RowS} {D : DataW Value} (h : HeadsD T D) {x r : RowS} (hx : headIn x.key T = some r) : HeadsD (T ++ [x]) D := by
  have e : ∀ k, headIn k (T ++ [x]) = headIn k T := fun k => by
    rw [headIn_snoc]
    cases hk : headIn k T with
    | some r => rfl
    | none =>
      by_cases hxk : x.key = k
      · subst hxk; rw [hx] at hk; cases hk
      · simp [hxk]
  exact ⟨h.m, fun k => by unfold headV; rw [e k]; exact h.val k, fun k => by rw [e k]; exact h.has k⟩
theorem HeadsD.put {T : List RowS} {D : DataW Value} (h : HeadsD T D) {x : RowS} (hx : headIn x.key T = none) : HeadsD (T ++ [x]) (D.put (Nm.keyL x.key) (.held (.agg x.cells.toArray))) := by
  refine ⟨h.m.put _ _, fun k => ?_, fun k => ?_⟩
  · by_cases hk : x.key = k
    · subst hk
      rw [atKey_put_same h.m (show WideAt.IsKeyLit (Nm.keyL x.key) from trivial)]
      unfold headV; rw [headIn_snoc, hx]; simp
    · rw [atKey_put_other (fun e => Nm.keyL_ne (fun e => hk e.symm) e), h.val k]
      unfold headV; rw [headIn_snoc]
      cases headIn k T <;> simp [hk]
  · by_cases hk : x.key = k
    · subst hk
      rw [has_put_same h.m (show WideAt.IsKeyLit (Nm.keyL x.key) from trivial), headIn_snoc, hx]; simp
    · rw [has_put_other (fun e => Nm.keyL_ne (fun e => hk e.symm) e), h.has k, headIn_snoc]
      cases headIn k T <;> simp [hk]
theorem HeadsD.look {T : List RowS} {D : DataW Value} (h : HeadsD T D) {w : World} {b n : Nat} (ho : Nm.OwnM w b n D) (k : ByteArray) (hk : OkS k) :
    (Instr.lookup 156 (.map (some b)) (.string k) true).run Tryz.prog w = .ok (.tuple #[headV k T, .bool (headIn k T).isSome]) w := by
  obtain ⟨v, ps, hr, hv⟩ := ho.look_ok Nm.lawS Tryz.underlying156 (zeroSel w) (zd := .held zsel) (zp := []) rfl (Nm.hkeyS k hk)
  rw [h.val k] at hv
  cases hv
  rw [h.has k] at hr
  exact hr
/-- The map D tells V. -/
structure InnerD (V : ByteArray → Value) (D : DataW Value) : Prop where
  m : IsMap D
  val : ∀ k, D.atKey (Nm.keyL k) (.held (.slice none 0 0)) = .held (V k)
theorem InnerD.nil : InnerD (fun _ => .slice none 0 0) (.map []) := ⟨isMap_empty, fun _ => rfl⟩
def putV (V : ByteArray → Value) (k : ByteArray) (v : Value) : ByteArray → Value := fun j => if j = k then v else V j
theorem InnerD.put {V : ByteArray → Value} {D : DataW Value} (h : InnerD V D) (k : ByteArray) (v : Value) : InnerD (putV V k v) (D.put (Nm.keyL k) (.held v)) := by
  refine ⟨h.m.put _ _, fun j => ?_⟩
  by_cases hj : j = k
  · subst hj
    rw [atKey_put_same h.m (show WideAt.IsKeyLit (Nm.keyL j) from trivial)]; simp [putV]
  · rw [atKey_put_other (fun e => Nm.keyL_ne hj e), h.val j]; simp [putV, hj]
theorem InnerD.look {V : ByteArray → Value} {D : DataW Value} (h : InnerD V D) {w : World} {b n : Nat} (ho : Nm.OwnM w b n D) (k : ByteArray) (hk : OkS k) :
    (Instr.lookup 157 (.map (some b)) (.string k) false).run Tryz.prog w = .ok (V k) w := by
  obtain ⟨v, ps, hr, hv⟩ := ho.lookup Nm.lawS Tryz.underlying157 (zeroSels w) (zd := .held (.slice none 0 0)) (zp := []) rfl (Nm.hkeyS k hk)
  rw [h.val k] at hv
  cases hv
  exact hr
/-- What is within each key lies in a row of its own. -/
structure InnerOk (w : World) (K B : Nat) (T : List RowS) (V : ByteArray → Value) (F : ByteArray → List RowS) : Prop where
  own : ∀ k, OwnSs w K (V k) (F k)
  sels : ∀ k, toSels (F k) = subK k (T.map fdOf)
  ok : ∀ k r, r ∈ F k → RowS.ok w 0 B r
  apart : ∀ k j, k ≠ j → ∀ g, (V k).ownBlock = some g → (V j).ownBlock ≠ some g
theorem InnerOk.start (w : World) (K B : Nat) : InnerOk w K B [] (fun _ => .slice none 0 0) (fun _ => []) := ⟨fun _ => OwnSs.nil _ _, fun _ => rfl, fun _ r hr => by simp at hr, fun _ _ _ g hg => by cases hg⟩
theorem InnerOk.below {w w' : World} {K B : Nat} {T : List RowS} {V : ByteArray → Value} {F : ByteArray → List RowS} (h : InnerOk w K B T V F) (hB : B ≤ w.heap.size) (g : Below w.heap.size w w') : InnerOk w' K B T V F :=
  ⟨fun k => (h.own k).below g, h.sels, fun k r hr => (h.ok k r hr).below hB g, h.apart⟩
theorem InnerOk.grown {w w' : World} {K B : Nat} {row : Option Nat} {T : List RowS} {V : ByteArray → Value} {F : ByteArray → List RowS} (h : InnerOk w K B T V F) (hg : w.grownBy w' row) (hr : ∀ k g, (V k).ownBlock = some g → row ≠ some g) (hB : ∀ g, row = some g → B ≤ g) (hBw : B ≤ w.heap.size) : InnerOk w' K B T V F := by
  refine ⟨fun k => World.ownsRow.kept (h.own k) hg ?_, h.sels, fun k r hr' => ⟨(h.ok k r hr').1, (h.ok k r hr').2.block fun c _ hc => hg.block c (by omega) (fun e => by have := hB c e.symm; omega)⟩, h.apart⟩
  cases hk : (V k).ownBlock with
  | none => exact .inl rfl
  | some g => exact .inr fun e => hr k g hk e.symm
theorem InnerOk.put {w w3 : World} {K B : Nat} {T : List RowS} {V : ByteArray → Value} {F : ByteArray → List RowS} (h : InnerOk w K B T V F) (x : RowS) {v3 : Value} {R2 : List RowS} (hown : OwnSs w3 K v3 (F x.key ++ R2)) (hmd : MadeS (V x.key) v3 w w3) (h2 : toSels R2 = x.u) (hok2 : ∀ r, r ∈ R2 → RowS.ok w3 0 B r) (hBK : B ≤ K) (hK : K ≤ w.heap.size) : InnerOk w3 K B (T ++ [x]) (putV V x.key v3) (fun j => if j = x.key then F x.key ++ R2 else F j) := by
  have hlow : Below B w w3 := hmd.to (fun g hg => by have := ((h.own x.key).base g hg).1; omega) (by omega)
  refine ⟨fun k => ?_, fun k => ?_, fun k r hr => ?_, fun k j hkj g hg => ?_⟩
  · by_cases hk : k = x.key
    · subst hk; simp only [putV, if_true]; exact hown
    · simp only [putV, if_neg hk]
      refine World.ownsRow.kept (h.own k) hmd.grown ?_
      cases hv : (V k).ownBlock with
      | none => exact .inl rfl
      | some g => exact .inr fun e => h.apart k x.key hk g hv e.symm
  · rw [List.map_append, subK_append, List.map_singleton, subK_one]
    by_cases hk : k = x.key
    · subst hk
      simp only [if_true]
      rw [toSels_append, h.sels, h2, if_pos (show (fdOf x).key = x.key from rfl)]; rfl
    · simp only [if_neg hk]
      rw [if_neg (show ¬ (fdOf x).key = k from fun e => hk e.symm), Sels.app_nil]; exact h.sels k
  · by_cases hk : k = x.key
    · subst hk
      simp only [if_true] at hr
      rcases List.mem_append.1 hr with hr | hr
      · exact (h.ok _ r hr).below (C := B) (Nat.le_refl _) hlow
      · exact hok2 r hr
    · simp only [if_neg hk] at hr
      exact (h.ok _ r hr).below (C := B) (Nat.le_refl _) hlow
  · have hold : ∀ k, k ≠ x.key → ∀ g, (V k).ownBlock = some g → v3.ownBlock ≠ some g := fun k hk g hg e => by
      rcases hmd.own g e with h1 | h1
      · exact h.apart k x.key hk g hg h1
      · have := ((h.own k).base g hg).2; omega
    by_cases hk : k = x.key
    · subst hk
      simp only [putV, if_true] at hg
      have hj : ¬ j = x.key := fun e => hkj e.symm
      simp only [putV, if_neg hj]
      exact fun e => hold j hj g e hg
    · simp only [putV, if_neg hk] at hg
      by_cases hj : j = x.key
      · subst hj; simp only [putV, if_true]; exact hold k hk g hg
      · simp only [putV, if_neg hj]; exact h.apart k j hkj g hg

section
variable {w : World} {ops : Array Oper} {o : Oper} {a : Act}
theorem app_textC {rest : List Oper} {Q : Exit → Act → World → Prop} (hgd : o.guard = none) (s x : Operand)
    (ho : o.op = .call { callee := .builtin .append, args := #[s, x], argTypes := #[40, 40] })
    (base : Nat) (v : Value) (l : List ByteArray) (hs : a.eval s = v) (hown : Nm.OwnTs w base v l)
    (B c : Nat) (hx : a.eval x = .slice (some ⟨B, 0, none⟩) 1 c) (y : ByteArray) (hc : w.cell? ⟨B, 0, none⟩ = some (.string y))
    (hsize : l.length + 1 ≤ 200000000000) (hbase : base ≤ w.heap.size)
    (h : ∀ a' cap w', Nm.OwnTs w' base (.slice a' (l.length + 1) cap) (l ++ [y]) → MadeS v (.slice a' (l.length + 1) cap) w w' → wpList Tryz.prog ops Q rest (a.put o.dst (.slice a' (l.length + 1) cap)) w') : wpList Tryz.prog ops Q (o :: rest) a w := by
  obtain ⟨i0, hi, hz0, hz1, hz2⟩ := info_parts Nm.infoStr
  refine wpList_append_lies w hgd s x 40 ho base 9 i0 _ 1 16 Tryz.underlying40 hi hz0 hz1 hz2 rfl (by decide) v l.length (l.map Value.string) hs hown ⟨B, 0, none⟩ 1 c [.string y] hx rfl
    (fun j u hj => by
      have e : j = 0 := by have := (List.getElem?_eq_some_iff.1 hj).1; simp at this; exact this
      subst e; cases hj
      rw [Rw.add_plain]; exact hc) (fun u hu => ?_) (by omega) (by unfold maxLen; omega) (by omega) hbase _ rfl ?_
  · simp at hu; subst hu; rfl
  · intro g cap w' hown' hgrow hat _
    exact h _ cap w' (by unfold Nm.OwnTs; rw [List.length_append, List.map_append]; exact hown') ⟨hgrow, own_of hat⟩
theorem step_app_rows {K : Act → World → Prop} {Q : Exit → Act → World → Prop} {E : Prop} (hgd : o.guard = none) (s x : Operand)
    (ho : o.op = .call { callee := .builtin .append, args := #[s, x], argTypes := #[26, 26] })
    (base : Nat) (v : Value) (R : List RowS) (hs : a.eval s = v) (hown : OwnSs w base v R)
    (A B : Nat) (a1 : Option Addr) (len c : Nat) (u : Sels) (hx : a.eval x = .slice a1 len c) (hu : SelsAt w A B a1 len u)
    (hsize : R.length + len ≤ 200000000000) (hbase : base ≤ w.heap.size)
    (h : ∀ a' cap w' R2, toSels R2 = u → R2.length = len → (∀ r, r ∈ R2 → RowS.ok w A B r) → OwnSs w' base (.slice a' (R.length + len) cap) (R ++ R2) → MadeS v (.slice a' (R.length + len) cap) w w' → K (a.put o.dst (.slice a' (R.length + len) cap)) w') : if Region.wanted o (yielded ops a.tmps) = true then Oper.wp Tryz.prog o a w K Q else E := by
  obtain ⟨i0, hi, hz0, hz1, hz2⟩ := info_parts infoSel5
  obtain ⟨R2, e1, e2, hok, hrow⟩ := hu.rows
  have hlen : ∀ l : List RowS, (l.flatMap RowS.cells).length = l.length * 5 := by
    intro l
    induction l with
    | nil => rfl
    | cons y l ih => rw [List.flatMap_cons, List.length_append, ih, List.length_cons]; simp [RowS.cells]; omega
  have hone : ∀ v ∈ R2.flatMap RowS.cells, v.oneCell' = true := fun v hv => by
    obtain ⟨y, _, hy⟩ := List.mem_flatMap.1 hv
    simp [RowS.cells] at hy
    rcases hy with rfl | rfl | rfl | rfl | rfl <;> rfl
  by_cases hz : len = 0
  · subst hz
    obtain rfl : R2 = [] := List.eq_nil_of_length_eq_zero e2
    obtain ⟨av, cav, rfl⟩ := hown.slice
    have hw : Region.wanted o (yielded ops a.tmps) = true := by simp [Region.wanted, hgd]
    rw [if_pos hw]
    have hrun := app_rows.run_app_empty (w := w) base 26 o.type 114 i0 5 Tryz.underlying26 hi _ R.length a1 c _ hown
    unfold Oper.wp
    simp only [Nat.add_zero] at h
    simp [execOp, ho, resolve, invoke, builtin, hs, hx, hrun, Result.andThen]
    exact h av cav w [] e1 rfl (fun r hr => by simp at hr) (by simpa using hown) (MadeS.refl _ _)
  · rcases hrow with rfl | ⟨b, off, rfl, hA, hc⟩
    · exact absurd e2.symm (by simpa using hz)
    · refine step_append_lies w hgd s x 26 ho base 114 i0 (.agg #[.int .i64 0, .string ⟨#[]⟩, .string ⟨#[]⟩, .int .i64 0, .slice none 0 0]) 5 72 Tryz.underlying26 hi hz0 hz1 hz2 rfl (by omega) v R.length (R.flatMap RowS.cells) hs hown ⟨b, off, none⟩ len c (R2.flatMap RowS.cells) hx (by rw [hlen, e2]) (fun j u hj => by rw [Rw.add_plain]; exact hc j u hj) hone (by omega) (by unfold maxLen; omega) (by omega) hbase _ rfl fun g cap w' hown' hgrow hat _ => ?_
      refine h _ cap w' R2 e1 e2 hok ?_ ⟨hgrow, own_of hat⟩
      unfold OwnSs; rw [List.length_append, List.flatMap_append, e2]; exact hown'
end
end Go.Proofs.YtceabbbmgfeofaaGreatDoor.Selss
