/-
  The program's types as kinds in a map by their names; contracts: impl.kindOf, listRight, placeOf; of what was there nothing is changed. Conditions: in memory.
-/
import Derived.Test.YtceabbbmgfeofaaGreatDoorRows
import Derived.Test.YtceabbbmgfeofaaGreatDoorSchE
import Derived.Test.YtceabbbmgfeofaaGreatDoorImplWord
import Derived.Maps.Own
import Derived.Maps.OwnOps
import Derived.Maps.OwnSet
import Derived.Maps.Views
namespace Go.Proofs.YtceabbbmgfeofaaGreatDoor.Rw
open Go.RowKit Words Go.Maps
set_option linter.unusedVariables false
set_option maxRecDepth 100000

/-! ### the map -/
abbrev RV : Value → Option (DataW Value × List MemPlace) := fun v => some (.held v, [])
theorem lawS : Keyed Tryz.prog 9 := string_keyed Tryz.underlying9
theorem zeroK (w : World) : (zeroValue 94).run Tryz.prog w = .ok .nilIface w := by kernel_rfl
abbrev keyL (nm : ByteArray) : Lit := .string nm.data.toList
theorem keyL_ne {a b : ByteArray} (h : a ≠ b) : keyL a ≠ keyL b := fun e => h (by
  injection e with e
  exact ByteArray.ext (Array.toList_inj.1 e))
abbrev OwnK (w : World) (b n : Nat) (D : DataW Value) : Prop := w.ownsMap Tryz.prog 9 RV b n D
/-- The type number of a kind. -/
def kindT (k : Int) : TypeId := if k = 1 then 234 else if k = 2 then 91 else 235
/-- A type as a kind. -/
def KindV (w : World) (A B : Nat) (v : Value) (x : TypeP) : Prop :=
  (x.kind = 1 ∨ x.kind = 2 ∨ x.kind = 3) ∧ ∃ a ca c cc, v = .iface (kindT x.kind) (.agg (x.cells a ca c cc).toArray) ∧ TypeAt w A B (.agg (x.cells a ca c cc).toArray) x
theorem KindV.below {w w' : World} {A B C : Nat} {v : Value} {x : TypeP} (h : KindV w A B v x) (hB : B ≤ C) (g : Below C w w') : KindV w' A B v x := by
  obtain ⟨h0, a, ca, c, cc, h1, h2⟩ := h
  exact ⟨h0, a, ca, c, cc, h1, h2.below hB g⟩
/-- The map D holds the types l by their names. -/
def KD (w : World) (A B : Nat) (l : List TypeP) (D : DataW Value) : Prop :=
  IsMap D ∧ ∀ nm, (freshB nm l = true → D.atKey (keyL nm) (.held .nilIface) = .held .nilIface ∧ Maps.has D (keyL nm) = false) ∧
    (freshB nm l = false → ∃ v, D.atKey (keyL nm) (.held .nilIface) = .held v ∧ KindV w A B v (typeIn nm l) ∧ Maps.has D (keyL nm) = true)
theorem KD.below {w w' : World} {A B C : Nat} {l : List TypeP} {D : DataW Value} (h : KD w A B l D) (hB : B ≤ C) (g : Below C w w') : KD w' A B l D :=
  ⟨h.1, fun nm => ⟨(h.2 nm).1, fun hf => let ⟨v, h1, h2, h3⟩ := (h.2 nm).2 hf; ⟨v, h1, h2.below hB g, h3⟩⟩⟩
theorem KD.nil (w : World) (A B : Nat) : KD w A B [] (.map []) := ⟨isMap_empty, fun nm => ⟨fun _ => ⟨rfl, rfl⟩, fun h => by cases h⟩⟩
theorem fresh_snoc (nm : ByteArray) (x : TypeP) : ∀ l : List TypeP, freshB nm (l ++ [x]) = (freshB nm l && !decide (x.name = nm))
  | [] => by simp only [List.nil_append, freshB]; split <;> simp_all
  | y :: l => by simp only [List.cons_append, freshB, fresh_snoc nm x l]; split <;> simp
theorem typeIn_snoc_old {nm : ByteArray} {x : TypeP} : ∀ {l : List TypeP}, freshB nm l = false → typeIn nm (l ++ [x]) = typeIn nm l
  | [], h => by cases h
  | y :: l, h => by
    simp only [freshB] at h
    simp only [List.cons_append, typeIn]
    split
    · rfl
    · rename_i hy; rw [if_neg hy] at h; exact typeIn_snoc_old h
theorem typeIn_snoc_new {nm : ByteArray} {x : TypeP} : ∀ {l : List TypeP}, freshB nm l = true → x.name = nm → typeIn nm (l ++ [x]) = x
  | [], _, hx => by simp [typeIn, hx]
  | y :: l, h, hx => by
    simp only [freshB] at h
    simp only [List.cons_append, typeIn]
    split
    · rename_i hy; rw [if_pos hy] at h; cases h
    · rename_i hy; rw [if_neg hy] at h; exact typeIn_snoc_new h hx
theorem KD.put {w : World} {A B : Nat} {l : List TypeP} {D : DataW Value} {x : TypeP} {v : Value} (h : KD w A B l D) (hf : freshB x.name l = true) (hv : KindV w A B v x) : KD w A B (l ++ [x]) (D.put (keyL x.name) (.held v)) := by
  refine ⟨h.1.put _ _, fun nm => ?_⟩
  rw [fresh_snoc]
  by_cases hx : x.name = nm
  · subst hx
    refine ⟨fun e => by simp at e, fun _ => ⟨v, atKey_put_same h.1 (show WideAt.IsKeyLit (keyL x.name) from trivial) _ _, ?_, has_put_same h.1 (show WideAt.IsKeyLit (keyL x.name) from trivial) _⟩⟩
    rw [typeIn_snoc_new hf rfl]; exact hv
  · have hne : keyL nm ≠ keyL x.name := fun e => keyL_ne (fun e => hx e.symm) e
    rw [show decide (x.name = nm) = false from decide_eq_false hx, Bool.not_false, Bool.and_true, atKey_put_other hne, has_put_other hne]
    refine ⟨(h.2 nm).1, fun hf' => ?_⟩
    obtain ⟨u, h1, h2, h3⟩ := (h.2 nm).2 hf'
    exact ⟨u, h1, by rw [typeIn_snoc_old hf']; exact h2, h3⟩
/-- What a look-up in it tells. -/
theorem KD.look {w : World} {A B b n : Nat} {l : List TypeP} {D : DataW Value} (h : KD w A B l D) (ho : OwnK w b n D) (nm : ByteArray) (hn : OkS nm) :
    ∃ v, (Instr.lookup 88 (.map (some b)) (.string nm) false).run Tryz.prog w = .ok v w ∧ (freshB nm l = true → v = .nilIface) ∧ (freshB nm l = false → KindV w A B v (typeIn nm l)) := by
  obtain ⟨v, ps, hr, hv⟩ := ho.lookup lawS Tryz.underlying88 (zeroK w) (zd := .held .nilIface) (zp := []) rfl (WideMaps.keyOf_string_mk Tryz.underlying9 (by unfold maxLen; exact hn))
  refine ⟨v, hr, fun hf => ?_, fun hf => ?_⟩
  · rw [((h.2 nm).1 hf).1] at hv; cases hv; rfl
  · obtain ⟨u, h1, h2, _⟩ := (h.2 nm).2 hf
    rw [h1] at hv; cases hv; exact h2
theorem KD.look_ok {w : World} {A B b n : Nat} {l : List TypeP} {D : DataW Value} (h : KD w A B l D) (ho : OwnK w b n D) (nm : ByteArray) (hn : OkS nm) :
    ∃ v, (Instr.lookup 88 (.map (some b)) (.string nm) true).run Tryz.prog w = .ok (.tuple #[v, .bool (!freshB nm l)]) w ∧ (freshB nm l = true → v = .nilIface) ∧ (freshB nm l = false → KindV w A B v (typeIn nm l)) := by
  obtain ⟨v, ps, hr, hv⟩ := ho.look_ok lawS Tryz.underlying88 (zeroK w) (zd := .held .nilIface) (zp := []) rfl (WideMaps.keyOf_string_mk Tryz.underlying9 (by unfold maxLen; exact hn))
  cases hf : freshB nm l with
  | true =>
    refine ⟨v, ?_, fun _ => ?_, fun h => (by cases h)⟩
    · rw [((h.2 nm).1 hf).2] at hr; exact hr
    · rw [((h.2 nm).1 hf).1] at hv; cases hv; rfl
  | false =>
    obtain ⟨u, h1, h2, h3⟩ := (h.2 nm).2 hf
    refine ⟨v, ?_, fun h => (by cases h), fun _ => ?_⟩
    · rw [h3] at hr; exact hr
    · rw [h1] at hv; cases hv; exact h2

/-! ### impl.listRight, kindOf -/
theorem implList (w : World) (x : FieldP) (hx : x.ok) :
    Calls Tryz.prog 266 #[.agg x.cells.toArray] w fun e w' => e = .returned (.bool (sizedB x)) ∧ Below w.heap.size w w' := by
  obtain ⟨nm, tp, ls, mu, sz, cp⟩ := x
  obtain ⟨_, _, ⟨hs1, hs2⟩, hc1, hc2⟩ := hx
  simp only [FieldP.cells] at hs1 hs2 hc1 hc2 ⊢
  have HA : Hid (∀ o, Below w.heap.size w (w.alloc o)) := Lib.hid fun o => (Below.refl _ _).alloc (Nat.le_refl _) o
  obtain ⟨e1, he1⟩ : ∃ p, (cp == 0) = p := ⟨_, rfl⟩
  obtain ⟨e2, he2⟩ : ∃ p, (sz == 0) = p := ⟨_, rfl⟩
  have hf := Lib.hid (show sizedB ⟨nm, tp, ls, mu, sz, cp⟩ = if ls = true then ((decide (0 ≤ sz) && decide (sz ≤ 100)) && e1) || (e2 && (decide (1 ≤ cp) && decide (cp ≤ 100))) else e2 && e1 by unfold sizedB; simp only [he1, he2])
  cases ls
  · cases e2
    · go_enter Tryz.func266, Tryz.ntmps266
      go_wp2_with fail
      go_ret
      exact ⟨ret_bool hf.out.symm, HA.out _⟩
    · go_enter Tryz.func266, Tryz.ntmps266
      go_wp2_with fail
      go_ret
      exact ⟨ret_bool hf.out.symm, HA.out _⟩
  · cases e1
    · have q1 : ¬ cp = 0 := by simpa using he1
      cases e2
      · have q2 : ¬ sz = 0 := by simpa using he2
        go_enter Tryz.func266, Tryz.ntmps266
        go_wp2_with fail
        go_ret
        exact ⟨ret_bool (by rw [hf.out]; simp), HA.out _⟩
      · have q2 := Lib.hid (show sz = 0 by simpa using he2)
        by_cases p1 : 0 < cp
        · by_cases p2 : cp ≤ 100
          · have hf2 := Lib.hid (show sizedB ⟨nm, tp, true, mu, sz, cp⟩ = true by rw [hf.out]; simp [show 1 ≤ cp by omega, p2])
            go_enter Tryz.func266, Tryz.ntmps266
            go_wp2_with fail
            go_ret
            exact ⟨ret_bool hf2.out.symm, HA.out _⟩
          · have hf2 := Lib.hid (show sizedB ⟨nm, tp, true, mu, sz, cp⟩ = false by rw [hf.out]; simp [p2])
            have p2b : decide (cp ≤ 100) = false := decide_eq_false p2
            go_enter Tryz.func266, Tryz.ntmps266
            go_wp2_with fail
            go_ret
            exact ⟨ret_bool hf2.out.symm, HA.out _⟩
        · have hf2 := Lib.hid (show sizedB ⟨nm, tp, true, mu, sz, cp⟩ = false by rw [hf.out]; simp [show ¬ 1 ≤ cp by omega])
          have p1b : decide (0 < cp) = false := decide_eq_false p1
          go_enter Tryz.func266, Tryz.ntmps266
          go_wp2_with fail
          go_ret
          exact ⟨ret_bool hf2.out.symm, HA.out _⟩
    · have q1 := Lib.hid (show cp = 0 by simpa using he1)
      by_cases p1 : 0 ≤ sz
      · by_cases p2 : sz ≤ 100
        · have hf2 := Lib.hid (show sizedB ⟨nm, tp, true, mu, sz, cp⟩ = true by rw [hf.out]; simp [p1, p2])
          go_enter Tryz.func266, Tryz.ntmps266
          go_wp2_with fail
          go_ret
          exact ⟨ret_bool hf2.out.symm, HA.out _⟩
        · have hf2 := Lib.hid (show sizedB ⟨nm, tp, true, mu, sz, cp⟩ = false by rw [hf.out, q1.out]; simp [p2])
          have p2b : decide (sz ≤ 100) = false := decide_eq_false p2
          go_enter Tryz.func266, Tryz.ntmps266
          go_wp2_with fail
          go_ret
          exact ⟨ret_bool hf2.out.symm, HA.out _⟩
      · have hf2 := Lib.hid (show sizedB ⟨nm, tp, true, mu, sz, cp⟩ = false by rw [hf.out, q1.out]; simp [p1])
        have p1b : decide (0 ≤ sz) = false := decide_eq_false p1
        go_enter Tryz.func266, Tryz.ntmps266
        go_wp2_with fail
        go_ret
        exact ⟨ret_bool hf2.out.symm, HA.out _⟩

def isKind (k : Int) : Bool := (k == 1 || k == 2) || k == 3
theorem implKindOf (w : World) (A B : Nat) (x : TypeP) (a : Option Addr) (ca : Nat) (c : Option Addr) (cc : Nat) (hs : TypeAt w A B (.agg (x.cells a ca c cc).toArray) x) (hB : B ≤ w.heap.size) :
    Calls Tryz.prog 89 #[.agg (x.cells a ca c cc).toArray] w fun e w' => ∃ v, e = .returned (.tuple #[v, .bool (isKind x.kind)]) ∧ (isKind x.kind = true → v = .iface (kindT x.kind) (.agg (x.cells a ca c cc).toArray)) ∧ (isKind x.kind = false → v = .nilIface) ∧ Below w.heap.size w w' := by
  obtain ⟨_, _, _, _, _, hk, _⟩ := hs
  obtain ⟨nm, kd, by_, fs, ms⟩ := x
  obtain ⟨hk, ⟨hs1, hs2⟩, hs3, hs4⟩ := hk
  simp only [TypeP.cells] at hs1 hs2 hs3 hs4 ⊢
  have HA : Hid (∀ o, Below w.heap.size w (w.alloc o)) := Lib.hid fun o => (Below.refl _ _).alloc (Nat.le_refl _) o
  by_cases k1 : kd = 1
  · have b1 : (kd == 1) = true := by rw [k1]; rfl
    have H1 : Hid (isKind kd = true ∧ kindT kd = 234) := Lib.hid (by rw [k1]; exact ⟨rfl, rfl⟩)
    clear k1
    go_enter Tryz.func89, Tryz.ntmps89
    go_wp2_with fail
    exact bodyPost_ret (v := .tuple #[.iface 234 (.agg #[.string nm, .int .i64 kd, .int .i64 by_, .slice a fs.length ca, .slice c ms.length cc]), .bool true]) (by simp [results, Tryz.results89, go_sem]) rfl ⟨_, by rw [H1.out.1], fun _ => by rw [H1.out.2], fun h => (by rw [H1.out.1] at h; cases h), HA.out _⟩
  have b1 : (kd == 1) = false := by rw [beq_eq_false_iff_ne]; exact k1
  by_cases k2 : kd = 2
  · have b2 : (kd == 2) = true := by rw [k2]; rfl
    have H1 : Hid (isKind kd = true ∧ kindT kd = 91) := Lib.hid (by rw [k2]; exact ⟨rfl, rfl⟩)
    clear k2
    go_enter Tryz.func89, Tryz.ntmps89
    go_wp2_with fail
    exact bodyPost_ret (v := .tuple #[.iface 91 (.agg #[.string nm, .int .i64 kd, .int .i64 by_, .slice a fs.length ca, .slice c ms.length cc]), .bool true]) (by simp [results, Tryz.results89, go_sem]) rfl ⟨_, by rw [H1.out.1], fun _ => by rw [H1.out.2], fun h => (by rw [H1.out.1] at h; cases h), HA.out _⟩
  have b2 : (kd == 2) = false := by rw [beq_eq_false_iff_ne]; exact k2
  by_cases k3 : kd = 3
  · have b3 : (kd == 3) = true := by rw [k3]; rfl
    have H1 : Hid (isKind kd = true ∧ kindT kd = 235) := Lib.hid (by rw [k3]; exact ⟨rfl, rfl⟩)
    clear k3
    go_enter Tryz.func89, Tryz.ntmps89
    go_wp2_with fail
    exact bodyPost_ret (v := .tuple #[.iface 235 (.agg #[.string nm, .int .i64 kd, .int .i64 by_, .slice a fs.length ca, .slice c ms.length cc]), .bool true]) (by simp [results, Tryz.results89, go_sem]) rfl ⟨_, by rw [H1.out.1], fun _ => by rw [H1.out.2], fun h => (by rw [H1.out.1] at h; cases h), HA.out _⟩
  have b3 : (kd == 3) = false := by rw [beq_eq_false_iff_ne]; exact k3
  have H1 : Hid (isKind kd = false) := Lib.hid (by unfold isKind; rw [b1, b2, b3]; rfl)
  go_enter Tryz.func89, Tryz.ntmps89
  go_wp2_with fail
  exact bodyPost_ret (v := .tuple #[.nilIface, .bool false]) (by simp [results, Tryz.results89, go_sem]) rfl ⟨_, by rw [H1.out], fun h => (by rw [H1.out] at h; cases h), fun _ => rfl, HA.out _⟩
end Go.Proofs.YtceabbbmgfeofaaGreatDoor.Rw
