/-
  Contracts: impl.placeOf (with slices.IndexFunc and its closure), slices.Index over texts, impl.fieldRight; of what was there nothing is changed. Conditions: in memory; a map of kinds.
-/
import Derived.Test.YtceabbbmgfeofaaGreatDoorRows
import Derived.Test.YtceabbbmgfeofaaGreatDoorSchD
import Derived.Test.YtceabbbmgfeofaaGreatDoorImplWord
import Derived.Maps.Own
import Derived.Maps.OwnOps
import Derived.Maps.OwnSet
import Derived.Maps.Views
namespace Go.Proofs.YtceabbbmgfeofaaGreatDoor.Rw
open Go.RowKit Words
set_option linter.unusedVariables false
set_option maxRecDepth 100000
/-- Whether no type has this name. -/
def freshB (nm : ByteArray) : List TypeP → Bool
  | [] => true
  | x :: l => if x.name = nm then false else freshB nm l
theorem fresh_hit {nm : ByteArray} {l : List TypeP} {i : Nat} {x : TypeP} (h : l[i]? = some x) (hx : x.name = nm) : freshB nm (l.drop i) = false := by
  obtain ⟨hl, rfl⟩ := List.getElem?_eq_some_iff.1 h
  rw [List.drop_eq_getElem_cons hl, freshB, if_pos hx]
theorem fresh_miss {nm : ByteArray} {l : List TypeP} {i : Nat} {x : TypeP} (h : l[i]? = some x) (hx : x.name ≠ nm) : freshB nm (l.drop i) = freshB nm (l.drop (i + 1)) := by
  obtain ⟨hl, rfl⟩ := List.getElem?_eq_some_iff.1 h
  rw [List.drop_eq_getElem_cons hl, freshB, if_neg hx]
noncomputable def typeOkB (s : List TypeP) (i : Nat) (x : TypeP) : Bool := (typeB x.name && partB s x) && freshB x.name (s.take i)
noncomputable def typesAll (s : List TypeP) : List TypeP → Nat → Bool
  | [], _ => true
  | x :: r, i => typeOkB s i x && typesAll s r (i + 1)
theorem typesAll_drop {s l : List TypeP} {i : Nat} {x : TypeP} (h : l[i]? = some x) : typesAll s (l.drop i) i = (typeOkB s i x && typesAll s (l.drop (i + 1)) (i + 1)) := by
  obtain ⟨hl, rfl⟩ := List.getElem?_eq_some_iff.1 h
  rw [List.drop_eq_getElem_cons hl, typesAll]
def headKind : List TypeP → Int
  | [] => 0
  | x :: _ => x.kind
/-- Whether a schema is right. -/
noncomputable def schemaB (s : List TypeP) : Bool := ((decide (1 ≤ s.length) && decide (s.length ≤ 12)) && (headKind s == 2)) && typesAll s s 0
set_option maxHeartbeats 4000000 in
theorem specSchemaRight (w : World) (A B : Nat) (v : Value) (s : List TypeP) (hv : SchemaAt w A B v s) (hB : B ≤ w.heap.size) :
    Calls Tryz.prog 52 #[v] w fun e w' => e = .returned (.bool (schemaB s)) ∧ Below w.heap.size w w' := by
  have CP : Hid (∀ (w' : World) (u : Value) (t : TypeP), TypeAt w' A B u t → Below w.heap.size w w' → Calls Tryz.prog 103 #[v, u] w' fun e w'' => e = .returned (.bool (partB s t)) ∧ Below w'.heap.size w' w'') := Lib.hid fun w' u t hu h => specPart w' A B v s (hv.below hB h) u t hu (Nat.le_trans hB h.size)
  obtain ⟨a, ca, rfl, hd, hcv⟩ := hv
  have hlen := hd.2.1
  have HS := Lib.hid hd
  have HA : Hid (∀ o1, Below w.heap.size w (w.alloc o1)) := Lib.hid fun o1 => (Below.refl _ _).alloc (Nat.le_refl _) o1
  have hS0 := Lib.hid (show schemaB s = (((decide (1 ≤ s.length) && decide (s.length ≤ 12)) && (headKind s == 2)) && typesAll s s 0) from rfl)
  clear hd
  by_cases c1 : s.length < 1
  · have hf := Lib.hid (show schemaB s = false by rw [hS0.out]; simp [show ¬ 1 ≤ s.length by omega])
    have c1i : (s.length : Int) < 1 := by omega
    clear c1
    go_enter Tryz.func52, Tryz.ntmps52
    go_wp2_with fail
    go_ret
    exact ⟨ret_bool hf.out.symm, HA.out _⟩
  have c1i : ¬ (s.length : Int) < 1 := by omega
  have c1j : 1 ≤ (s.length : Int) := by omega
  by_cases c2 : 12 < s.length
  · have hf := Lib.hid (show schemaB s = false by rw [hS0.out]; simp [show ¬ s.length ≤ 12 by omega])
    have c2i : (12 : Int) < (s.length : Int) := by omega
    clear c1 c2
    go_enter Tryz.func52, Tryz.ntmps52
    go_wp2_with fail
    go_ret
    exact ⟨ret_bool hf.out.symm, HA.out _⟩
  have c2i : ¬ (12 : Int) < (s.length : Int) := by omega
  have c2j : (s.length : Int) ≤ 12 := by omega
  obtain ⟨x0, hx0⟩ : ∃ x, s[0]? = some x := ⟨s[0], List.getElem?_eq_getElem (by omega)⟩
  obtain ⟨x1, b, off, hd, rfl, hAb, hbb, hok, a1, ca1, cm, ccm, hc, h2, h3⟩ := HS.out.at (i := 0) (by omega)
  obtain rfl : x1 = x0 := by rw [hd] at hx0; cases hx0; rfl
  obtain ⟨d0, d1, d2, d3, d4⟩ := row5 hc
  rw [Nat.zero_mul, Nat.add_zero] at d0 d1 d2 d3 d4
  have hhk := Lib.hid (show headKind s = x1.kind by
    obtain ⟨hl, rfl⟩ := List.getElem?_eq_some_iff.1 hd
    cases s with
    | nil => simp at hl
    | cons y l => rfl)
  obtain ⟨_, ⟨k1, k2⟩, _⟩ := hok
  obtain ⟨xk, hxk⟩ : ∃ k, x1.kind = k := ⟨_, rfl⟩
  rw [hxk] at hhk d1 k1 k2
  obtain ⟨e1, he1⟩ : ∃ p, (xk == 2) = p := ⟨_, rfl⟩
  have hbw : b < w.heap.size := by omega
  clear hx0 hc h2 h3 hxk d0 d2 d3 d4 hd
  cases e1
  · have hf := Lib.hid (show schemaB s = false by rw [hS0.out, hhk.out, he1]; simp)
    have hk : ¬ xk = 2 := by simpa using he1
    clear c1 c2
    go_enter Tryz.func52, Tryz.ntmps52
    go_wp2_with fail
    go_ret
    exact ⟨ret_bool hf.out.symm, HA.out _⟩
  have hk2 : (xk != 2) = false := by simp [bne, he1]
  have hS := Lib.hid (show schemaB s = typesAll s s 0 by rw [hS0.out, hhk.out, he1]; simp [show 1 ≤ s.length by omega, show s.length ≤ 12 by omega])
  clear hS0 hhk c1 c2
  go_enter Tryz.func52, Tryz.ntmps52
  go_wp2_with fail
  clear d1
  have k0 := heap_alloc_new w (.cells #[.slice (some ⟨b, off, none⟩) s.length ca] 25)
  go_loopw [3] (fun i wr => ∃ (i' : Nat), i' ≤ s.length ∧ Hid (typesAll s s 0 = typesAll s (s.drop i') i') ∧ i = .int .i64 i' ∧ wr.heap[w.heap.size]? = some (.cells #[.slice (some ⟨b, off, none⟩) s.length ca] 25 (0, 0)) ∧ Below w.heap.size w wr) (fun i _ => s.length - (intOf i).toNat)
  case atStart => exact ⟨0, by omega, Lib.hid (by rw [List.drop_zero]), rfl, k0, HA.out _⟩
  case round =>
    obtain ⟨i, hi, hm, rfl, hk0, hb⟩ := hrel
    have HB := Lib.hid hb
    clear k0
    have ⟨j0, _⟩ := keep1 hk0
    by_cases hlt : i < s.length
    · have hli : (i : Int) < (s.length : Int) := by omega
      obtain ⟨x, b', off', hd, he, hA', hbb', hok, a1, ca1, cm, ccm, hc, h2, h3⟩ := (HS.out.below typeLies (Nat.le_refl _) (hb.mono hB)).at hlt
      cases he
      obtain ⟨d0, d1, d2, d3, d4⟩ := row5 hc
      have hst := Lib.hid (typesAll_drop (s := s) hd)
      have HD := Lib.hid hd
      have HOK := Lib.hid hok
      have HX : Hid (TypeAt wr A B (.agg #[.string x.name, .int .i64 x.kind, .int .i64 x.bytes, .slice a1 x.fields.length ca1, .slice cm x.members.length ccm]) x) := Lib.hid ⟨a1, ca1, cm, ccm, rfl, hok, h2, h3⟩
      obtain ⟨p1, hp1⟩ : ∃ p, typeB x.name = p := ⟨_, rfl⟩
      obtain ⟨p2, hp2⟩ : ∃ p, partB s x = p := ⟨_, rfl⟩
      have HTB := Lib.hid (show typeOkB s i x = ((p1 && p2) && freshB x.name (s.take i)) by unfold typeOkB; rw [hp1, hp2])
      have C1 : Hid (∀ w, Calls Tryz.prog 102 #[.string x.name] w fun e w' => e = .returned (.bool p1) ∧ w = w') := Lib.hid fun w => by rw [← hp1]; exact specTypeWord _ (by unfold maxLen; exact HOK.out.1) w
      have HAA : Hid (∀ o, Below w.heap.size w (wr.alloc o)) := Lib.hid fun o => HB.out.alloc HB.out.size o
      have C2 : Hid (∀ o, Calls Tryz.prog 103 #[.agg #[.slice (some ⟨b, off, none⟩) s.length ca], .agg #[.string x.name, .int .i64 x.kind, .int .i64 x.bytes, .slice a1 x.fields.length ca1, .slice cm x.members.length ccm]] (wr.alloc o) fun e w' => e = .returned (.bool p2) ∧ Below (wr.alloc o).heap.size (wr.alloc o) w') := Lib.hid fun o => by
        rw [← hp2]; exact CP.out _ _ x (HX.out.below (C := wr.heap.size) (Nat.le_trans hB HB.out.size) ((Below.refl _ _).alloc (Nat.le_refl _) o)) (HAA.out o)
      have hl0 := lt_of_get hk0
      have hkf := Lib.hid ((Go.Deep.blk_alloc_lt wr (.cells #[.string x.name, .int .i64 x.kind, .int .i64 x.bytes, .slice a1 x.fields.length ca1, .slice cm x.members.length ccm] 48) w.heap.size hl0).trans hk0)
      have hnew := Lib.hid (heap_alloc_new wr (.cells #[.string x.name, .int .i64 x.kind, .int .i64 x.bytes, .slice a1 x.fields.length ca1, .slice cm x.members.length ccm] 48))
      have hoksz := hok.1
      unfold OkS at hoksz
      have HSI := Lib.hid (show s.take i = s.take i from rfl)
      clear hp1 hp2 hok hc h2 h3 hd hb hlt
      cases p1
      · have ho := Lib.hid (show typeOkB s i x = false from HTB.out)
        go_wp2_with (first
          | (go_at_call 102; refine (C1.out _).mono ?_; rintro e w' ⟨rfl, rfl⟩)
          | (go_at_call 103; refine (C2.out _).mono ?_; rintro e w1 ⟨rfl, hb1⟩))
        go_ret
        exact ⟨ret_bool (by rw [hS.out, all_no hm.out hst.out ho.out]), HAA.out _⟩
      cases p2
      · have ho := Lib.hid (show typeOkB s i x = false from HTB.out)
        go_wp2_with (first
          | (go_at_call 102; refine (C1.out _).mono ?_; rintro e w' ⟨rfl, rfl⟩)
          | (go_at_call 103; refine (C2.out _).mono ?_; rintro e w1 ⟨rfl, hb1⟩))
        go_ret
        exact ⟨ret_bool (by rw [hS.out, all_no hm.out hst.out ho.out]), (HAA.out _).trans (hb1.mono (HAA.out _).size)⟩
      · go_wp2_with (first
          | (go_at_call 102; refine (C1.out _).mono ?_; rintro e w' ⟨rfl, rfl⟩)
          | (go_at_call 103; refine (C2.out _).mono ?_; rintro e w1 ⟨rfl, hb1⟩))
        have HB1 := Lib.hid ((HAA.out _).trans (hb1.mono (HAA.out _).size))
        have hk1 := (hb1.block w.heap.size (by simp; omega)).trans hkf.out
        have ht1 := (hb1.block wr.heap.size (by simp)).trans hnew.out
        have hwr1 : wr.heap.size < w1.heap.size := lt_of_get ht1
        clear hb1
        go_loopw [5] (fun k wk => ∃ (k' : Nat), k' ≤ i ∧ Hid (freshB x.name (s.take i) = freshB x.name ((s.take i).drop k')) ∧ k = .int .i64 k' ∧ wk.heap[w.heap.size]? = some (.cells #[.slice (some ⟨b, off, none⟩) s.length ca] 25 (0, 0)) ∧ wk.heap[wr.heap.size]? = some (.cells #[.string x.name, .int .i64 x.kind, .int .i64 x.bytes, .slice a1 x.fields.length ca1, .slice cm x.members.length ccm] 48 (0, 0)) ∧ Below w.heap.size w wk) (fun k _ => i - (intOf k).toNat)
        case atStart => exact ⟨0, by omega, Lib.hid (by rw [List.drop_zero]), rfl, hk1, ht1, HB1.out⟩
        case round =>
          obtain ⟨k, hki, hfr, rfl, hk2', ht2, hbk⟩ := hrel
          have HBK := Lib.hid hbk
          have ⟨q0, _⟩ := keep1 hk2'
          have ⟨⟨t0, t1, t2, t3, t4⟩, _⟩ := keep5 ht2
          by_cases hlk : k < i
          · have hlki : (k : Int) < (i : Int) := by omega
            have hlks : (k : Int) < (s.length : Int) := by omega
            obtain ⟨y, b'', off'', hdy, hey, _, hby, hoky, a2, ca2, cm2, ccm2, hcy, _, _⟩ := (HS.out.below typeLies (Nat.le_refl _) (hbk.mono hB)).at (i := k) (by omega)
            cases hey
            obtain ⟨f0, _, _, _, _⟩ := row5 hcy
            have hdy2 : (s.take i)[k]? = some y := by rw [List.getElem?_take_of_lt hlk]; exact hdy
            by_cases hx : y.name = x.name
            · have ho := Lib.hid (show typeOkB s i x = false by rw [HTB.out, hfr.out, fresh_hit hdy2 hx]; rfl)
              have HXE := Lib.hid hx
              rw [hx] at f0
              clear hx hlk hdy hoky hcy hdy2 hbk
              go_wp2_with fail
              go_region
              go_wp2_with fail
              go_ret
              exact ⟨ret_bool (by rw [hS.out, all_no hm.out hst.out ho.out]), HBK.out.drew⟩
            · have hn1 := toList_ne hx
              have hn2 := toList_beq hx
              have hrel := Lib.hid (hfr.out.trans (fresh_miss hdy2 hx))
              clear hlk hdy hoky hcy hdy2 hbk
              go_wp2_with fail
              go_region
              go_wp2_with fail
              go_roundw
              case rel => exact ⟨k + 1, by omega, hrel, by go_num, hk2', ht2, HBK.out.drew⟩
              case measure => simp [intOf]; omega
          · obtain rfl : k = i := by omega
            have ho := Lib.hid (show typeOkB s k x = true by
              rw [HTB.out, hfr.out, List.drop_eq_nil_of_le (by rw [List.length_take]; omega)]; rfl)
            clear hlk hbk
            go_wp2_with fail
            go_roundw
            case rel => exact ⟨k + 1, by omega, Lib.hid (all_yes hm.out hst.out ho.out), by go_num, hk2', HBK.out⟩
            case measure => simp [intOf]; omega
    · obtain rfl : i = s.length := by omega
      have hf : Hid (schemaB s = true) := Lib.hid (by rw [hS.out, hm.out, List.drop_length]; rfl)
      clear hlt hb
      go_wp2_with fail
      go_ret
      exact ⟨ret_bool hf.out.symm, HB.out⟩
end Go.Proofs.YtceabbbmgfeofaaGreatDoor.Rw
namespace Go.Proofs.YtceabbbmgfeofaaGreatDoor.Rw
open Go.RowKit Words Go.Maps
set_option linter.unusedVariables false
set_option maxRecDepth 100000
/-! ### the map -/
abbrev RV : Value → Option (DataW Value × List MemPlace) := fun v => some (.held v, [])
theorem lawS : Keyed Tryz.prog 9 := string_keyed Tryz.underlying9
theorem zeroK (w : World) : (zeroValue 94).run Tryz.prog w = .ok .nilIface w := by kernel_rfl
abbrev keyL (nm : ByteArray) : Lit := .string nm.data.toList
theorem keyL_ne {a b : ByteArray} (h : a ≠ b) : keyL a ≠ keyL b := fun e => h (by
  injection e with e
  exact ByteArray.ext (Array.toList_inj.1 e))
abbrev OwnK (w : World) (b n : Nat) (D : DataW Value) : Prop := w.ownsMap Tryz.prog 9 RV b n D
/-- The type number of a kind. -/
def kindT (k : Int) : TypeId := if k = 1 then 234 else if k = 2 then 91 else 235
/-- A type as a kind. -/
def KindV (w : World) (A B : Nat) (v : Value) (x : TypeP) : Prop :=
  (x.kind = 1 ∨ x.kind = 2 ∨ x.kind = 3) ∧ ∃ a ca c cc, v = .iface (kindT x.kind) (.agg (x.cells a ca c cc).toArray) ∧ TypeAt w A B (.agg (x.cells a ca c cc).toArray) x
theorem KindV.below {w w' : World} {A B C : Nat} {v : Value} {x : TypeP} (h : KindV w A B v x) (hB : B ≤ C) (g : Below C w w') : KindV w' A B v x := by
  obtain ⟨h0, a, ca, c, cc, h1, h2⟩ := h
  exact ⟨h0, a, ca, c, cc, h1, h2.below hB g⟩
/-- The map D holds the types l by their names. -/
def KD (w : World) (A B : Nat) (l : List TypeP) (D : DataW Value) : Prop :=
  IsMap D ∧ ∀ nm, (freshB nm l = true → D.atKey (keyL nm) (.held .nilIface) = .held .nilIface ∧ Maps.has D (keyL nm) = false) ∧
    (freshB nm l = false → ∃ v, D.atKey (keyL nm) (.held .nilIface) = .held v ∧ KindV w A B v (typeIn nm l) ∧ Maps.has D (keyL nm) = true)
theorem KD.below {w w' : World} {A B C : Nat} {l : List TypeP} {D : DataW Value} (h : KD w A B l D) (hB : B ≤ C) (g : Below C w w') : KD w' A B l D :=
  ⟨h.1, fun nm => ⟨(h.2 nm).1, fun hf => let ⟨v, h1, h2, h3⟩ := (h.2 nm).2 hf; ⟨v, h1, h2.below hB g, h3⟩⟩⟩
theorem KD.nil (w : World) (A B : Nat) : KD w A B [] (.map []) := ⟨isMap_empty, fun nm => ⟨fun _ => ⟨rfl, rfl⟩, fun h => by cases h⟩⟩
theorem fresh_snoc (nm : ByteArray) (x : TypeP) : ∀ l : List TypeP, freshB nm (l ++ [x]) = (freshB nm l && !decide (x.name = nm))
  | [] => by simp only [List.nil_append, freshB]; split <;> simp_all
  | y :: l => by simp only [List.cons_append, freshB, fresh_snoc nm x l]; split <;> simp
theorem typeIn_snoc_old {nm : ByteArray} {x : TypeP} : ∀ {l : List TypeP}, freshB nm l = false → typeIn nm (l ++ [x]) = typeIn nm l
  | [], h => by cases h
  | y :: l, h => by
    simp only [freshB] at h
    simp only [List.cons_append, typeIn]
    split
    · rfl
    · rename_i hy; rw [if_neg hy] at h; exact typeIn_snoc_old h
theorem typeIn_snoc_new {nm : ByteArray} {x : TypeP} : ∀ {l : List TypeP}, freshB nm l = true → x.name = nm → typeIn nm (l ++ [x]) = x
  | [], _, hx => by simp [typeIn, hx]
  | y :: l, h, hx => by
    simp only [freshB] at h
    simp only [List.cons_append, typeIn]
    split
    · rename_i hy; rw [if_pos hy] at h; cases h
    · rename_i hy; rw [if_neg hy] at h; exact typeIn_snoc_new h hx
theorem KD.put {w : World} {A B : Nat} {l : List TypeP} {D : DataW Value} {x : TypeP} {v : Value} (h : KD w A B l D) (hf : freshB x.name l = true) (hv : KindV w A B v x) : KD w A B (l ++ [x]) (D.put (keyL x.name) (.held v)) := by
  refine ⟨h.1.put _ _, fun nm => ?_⟩
  rw [fresh_snoc]
  by_cases hx : x.name = nm
  · subst hx
    refine ⟨fun e => by simp at e, fun _ => ⟨v, atKey_put_same h.1 (show WideAt.IsKeyLit (keyL x.name) from trivial) _ _, ?_, has_put_same h.1 (show WideAt.IsKeyLit (keyL x.name) from trivial) _⟩⟩
    rw [typeIn_snoc_new hf rfl]; exact hv
  · have hne : keyL nm ≠ keyL x.name := fun e => keyL_ne (fun e => hx e.symm) e
    rw [show decide (x.name = nm) = false from decide_eq_false hx, Bool.not_false, Bool.and_true, atKey_put_other hne, has_put_other hne]
    refine ⟨(h.2 nm).1, fun hf' => ?_⟩
    obtain ⟨u, h1, h2, h3⟩ := (h.2 nm).2 hf'
    exact ⟨u, h1, by rw [typeIn_snoc_old hf']; exact h2, h3⟩
/-- What a look-up in it tells. -/
theorem KD.look {w : World} {A B b n : Nat} {l : List TypeP} {D : DataW Value} (h : KD w A B l D) (ho : OwnK w b n D) (nm : ByteArray) (hn : OkS nm) :
    ∃ v, (Instr.lookup 88 (.map (some b)) (.string nm) false).run Tryz.prog w = .ok v w ∧ (freshB nm l = true → v = .nilIface) ∧ (freshB nm l = false → KindV w A B v (typeIn nm l)) := by
  obtain ⟨v, ps, hr, hv⟩ := ho.lookup lawS Tryz.underlying88 (zeroK w) (zd := .held .nilIface) (zp := []) rfl (WideMaps.keyOf_string_mk Tryz.underlying9 (by unfold maxLen; exact hn))
  refine ⟨v, hr, fun hf => ?_, fun hf => ?_⟩
  · rw [((h.2 nm).1 hf).1] at hv; cases hv; rfl
  · obtain ⟨u, h1, h2, _⟩ := (h.2 nm).2 hf
    rw [h1] at hv; cases hv; exact h2
theorem KD.look_ok {w : World} {A B b n : Nat} {l : List TypeP} {D : DataW Value} (h : KD w A B l D) (ho : OwnK w b n D) (nm : ByteArray) (hn : OkS nm) :
    ∃ v, (Instr.lookup 88 (.map (some b)) (.string nm) true).run Tryz.prog w = .ok (.tuple #[v, .bool (!freshB nm l)]) w ∧ (freshB nm l = true → v = .nilIface) ∧ (freshB nm l = false → KindV w A B v (typeIn nm l)) := by
  obtain ⟨v, ps, hr, hv⟩ := ho.look_ok lawS Tryz.underlying88 (zeroK w) (zd := .held .nilIface) (zp := []) rfl (WideMaps.keyOf_string_mk Tryz.underlying9 (by unfold maxLen; exact hn))
  cases hf : freshB nm l with
  | true =>
    refine ⟨v, ?_, fun _ => ?_, fun h => (by cases h)⟩
    · rw [((h.2 nm).1 hf).2] at hr; exact hr
    · rw [((h.2 nm).1 hf).1] at hv; cases hv; rfl
  | false =>
    obtain ⟨u, h1, h2, h3⟩ := (h.2 nm).2 hf
    refine ⟨v, ?_, fun h => (by cases h), fun _ => ?_⟩
    · rw [h3] at hr; exact hr
    · rw [h1] at hv; cases hv; exact h2
/-! ### impl.listRight, kindOf -/
theorem implList (w : World) (x : FieldP) (hx : x.ok) :
    Calls Tryz.prog 266 #[.agg x.cells.toArray] w fun e w' => e = .returned (.bool (sizedB x)) ∧ Below w.heap.size w w' := by
  obtain ⟨nm, tp, ls, mu, sz, cp⟩ := x
  obtain ⟨_, _, ⟨hs1, hs2⟩, hc1, hc2⟩ := hx
  simp only [FieldP.cells] at hs1 hs2 hc1 hc2 ⊢
  have HA : Hid (∀ o, Below w.heap.size w (w.alloc o)) := Lib.hid fun o => (Below.refl _ _).alloc (Nat.le_refl _) o
  obtain ⟨e1, he1⟩ : ∃ p, (cp == 0) = p := ⟨_, rfl⟩
  obtain ⟨e2, he2⟩ : ∃ p, (sz == 0) = p := ⟨_, rfl⟩
  have hf := Lib.hid (show sizedB ⟨nm, tp, ls, mu, sz, cp⟩ = if ls = true then ((decide (0 ≤ sz) && decide (sz ≤ 100)) && e1) || (e2 && (decide (1 ≤ cp) && decide (cp ≤ 100))) else e2 && e1 by unfold sizedB; simp only [he1, he2])
  cases ls
  · cases e2
    · go_enter Tryz.func266, Tryz.ntmps266
      go_wp2_with fail
      go_ret
      exact ⟨ret_bool hf.out.symm, HA.out _⟩
    · go_enter Tryz.func266, Tryz.ntmps266
      go_wp2_with fail
      go_ret
      exact ⟨ret_bool hf.out.symm, HA.out _⟩
  · cases e1
    · have q1 : ¬ cp = 0 := by simpa using he1
      cases e2
      · have q2 : ¬ sz = 0 := by simpa using he2
        go_enter Tryz.func266, Tryz.ntmps266
        go_wp2_with fail
        go_ret
        exact ⟨ret_bool (by rw [hf.out]; simp), HA.out _⟩
      · have q2 := Lib.hid (show sz = 0 by simpa using he2)
        by_cases p1 : 0 < cp
        · by_cases p2 : cp ≤ 100
          · have hf2 := Lib.hid (show sizedB ⟨nm, tp, true, mu, sz, cp⟩ = true by rw [hf.out]; simp [show 1 ≤ cp by omega, p2])
            go_enter Tryz.func266, Tryz.ntmps266
            go_wp2_with fail
            go_ret
            exact ⟨ret_bool hf2.out.symm, HA.out _⟩
          · have hf2 := Lib.hid (show sizedB ⟨nm, tp, true, mu, sz, cp⟩ = false by rw [hf.out]; simp [p2])
            have p2b : decide (cp ≤ 100) = false := decide_eq_false p2
            go_enter Tryz.func266, Tryz.ntmps266
            go_wp2_with fail
            go_ret
            exact ⟨ret_bool hf2.out.symm, HA.out _⟩
        · have hf2 := Lib.hid (show sizedB ⟨nm, tp, true, mu, sz, cp⟩ = false by rw [hf.out]; simp [show ¬ 1 ≤ cp by omega])
          have p1b : decide (0 < cp) = false := decide_eq_false p1
          go_enter Tryz.func266, Tryz.ntmps266
          go_wp2_with fail
          go_ret
          exact ⟨ret_bool hf2.out.symm, HA.out _⟩
    · have q1 := Lib.hid (show cp = 0 by simpa using he1)
      by_cases p1 : 0 ≤ sz
      · by_cases p2 : sz ≤ 100
        · have hf2 := Lib.hid (show sizedB ⟨nm, tp, true, mu, sz, cp⟩ = true by rw [hf.out]; simp [p1, p2])
          go_enter Tryz.func266, Tryz.ntmps266
          go_wp2_with fail
          go_ret
          exact ⟨ret_bool hf2.out.symm, HA.out _⟩
        · have hf2 := Lib.hid (show sizedB ⟨nm, tp, true, mu, sz, cp⟩ = false by rw [hf.out, q1.out]; simp [p2])
          have p2b : decide (sz ≤ 100) = false := decide_eq_false p2
          go_enter Tryz.func266, Tryz.ntmps266
          go_wp2_with fail
          go_ret
          exact ⟨ret_bool hf2.out.symm, HA.out _⟩
      · have hf2 := Lib.hid (show sizedB ⟨nm, tp, true, mu, sz, cp⟩ = false by rw [hf.out, q1.out]; simp [p1])
        have p1b : decide (0 ≤ sz) = false := decide_eq_false p1
        go_enter Tryz.func266, Tryz.ntmps266
        go_wp2_with fail
        go_ret
        exact ⟨ret_bool hf2.out.symm, HA.out _⟩
def isKind (k : Int) : Bool := (k == 1 || k == 2) || k == 3
theorem implKindOf (w : World) (A B : Nat) (x : TypeP) (a : Option Addr) (ca : Nat) (c : Option Addr) (cc : Nat) (hs : TypeAt w A B (.agg (x.cells a ca c cc).toArray) x) (hB : B ≤ w.heap.size) :
    Calls Tryz.prog 89 #[.agg (x.cells a ca c cc).toArray] w fun e w' => ∃ v, e = .returned (.tuple #[v, .bool (isKind x.kind)]) ∧ (isKind x.kind = true → v = .iface (kindT x.kind) (.agg (x.cells a ca c cc).toArray)) ∧ (isKind x.kind = false → v = .nilIface) ∧ Below w.heap.size w w' := by
  obtain ⟨_, _, _, _, _, hk, _⟩ := hs
  obtain ⟨nm, kd, by_, fs, ms⟩ := x
  obtain ⟨hk, ⟨hs1, hs2⟩, hs3, hs4⟩ := hk
  simp only [TypeP.cells] at hs1 hs2 hs3 hs4 ⊢
  have HA : Hid (∀ o, Below w.heap.size w (w.alloc o)) := Lib.hid fun o => (Below.refl _ _).alloc (Nat.le_refl _) o
  by_cases k1 : kd = 1
  · have b1 : (kd == 1) = true := by rw [k1]; rfl
    have H1 : Hid (isKind kd = true ∧ kindT kd = 234) := Lib.hid (by rw [k1]; exact ⟨rfl, rfl⟩)
    clear k1
    go_enter Tryz.func89, Tryz.ntmps89
    go_wp2_with fail
    exact bodyPost_ret (v := .tuple #[.iface 234 (.agg #[.string nm, .int .i64 kd, .int .i64 by_, .slice a fs.length ca, .slice c ms.length cc]), .bool true]) (by simp [results, Tryz.results89, go_sem]) rfl ⟨_, by rw [H1.out.1], fun _ => by rw [H1.out.2], fun h => (by rw [H1.out.1] at h; cases h), HA.out _⟩
  have b1 : (kd == 1) = false := by rw [beq_eq_false_iff_ne]; exact k1
  by_cases k2 : kd = 2
  · have b2 : (kd == 2) = true := by rw [k2]; rfl
    have H1 : Hid (isKind kd = true ∧ kindT kd = 91) := Lib.hid (by rw [k2]; exact ⟨rfl, rfl⟩)
    clear k2
    go_enter Tryz.func89, Tryz.ntmps89
    go_wp2_with fail
    exact bodyPost_ret (v := .tuple #[.iface 91 (.agg #[.string nm, .int .i64 kd, .int .i64 by_, .slice a fs.length ca, .slice c ms.length cc]), .bool true]) (by simp [results, Tryz.results89, go_sem]) rfl ⟨_, by rw [H1.out.1], fun _ => by rw [H1.out.2], fun h => (by rw [H1.out.1] at h; cases h), HA.out _⟩
  have b2 : (kd == 2) = false := by rw [beq_eq_false_iff_ne]; exact k2
  by_cases k3 : kd = 3
  · have b3 : (kd == 3) = true := by rw [k3]; rfl
    have H1 : Hid (isKind kd = true ∧ kindT kd = 235) := Lib.hid (by rw [k3]; exact ⟨rfl, rfl⟩)
    clear k3
    go_enter Tryz.func89, Tryz.ntmps89
    go_wp2_with fail
    exact bodyPost_ret (v := .tuple #[.iface 235 (.agg #[.string nm, .int .i64 kd, .int .i64 by_, .slice a fs.length ca, .slice c ms.length cc]), .bool true]) (by simp [results, Tryz.results89, go_sem]) rfl ⟨_, by rw [H1.out.1], fun _ => by rw [H1.out.2], fun h => (by rw [H1.out.1] at h; cases h), HA.out _⟩
  have b3 : (kd == 3) = false := by rw [beq_eq_false_iff_ne]; exact k3
  have H1 : Hid (isKind kd = false) := Lib.hid (by unfold isKind; rw [b1, b2, b3]; rfl)
  go_enter Tryz.func89, Tryz.ntmps89
  go_wp2_with fail
  exact bodyPost_ret (v := .tuple #[.nilIface, .bool false]) (by simp [results, Tryz.results89, go_sem]) rfl ⟨_, by rw [H1.out], fun h => (by rw [H1.out] at h; cases h), fun _ => rfl, HA.out _⟩
theorem implPlace1 (w : World) (x : FieldP) (hx : x.ok) (nm : ByteArray) (hn : OkS nm) (p : Nat) (hp : w.cell? ⟨p, 0, none⟩ = some (.string nm)) :
    Calls Tryz.prog 265 #[.agg x.cells.toArray, .pointer (some ⟨p, 0, none⟩)] w fun e w' => e = .returned (.bool (decide (x.name = nm))) ∧ Below w.heap.size w w' := by
  obtain ⟨xn, tp, ls, mu, sz, cp⟩ := x
  obtain ⟨hk, hk2, _⟩ := hx
  unfold OkS at hk hn
  simp only [FieldP.cells] at hk ⊢
  have hlt := lt_of_cell hp
  have HA : Hid (∀ o, Below w.heap.size w (w.alloc o)) := Lib.hid fun o => (Below.refl _ _).alloc (Nat.le_refl _) o
  have hp2 : ∀ o, (w.alloc o).cell? ⟨p, 0, none⟩ = some (.string nm) := fun o => ((HA.out o).cell (p := ⟨p, 0, none⟩) hlt).trans hp
  by_cases hx : xn = nm
  · have hf := Lib.hid (show decide (xn = nm) = true from decide_eq_true hx)
    subst hx
    go_enter Tryz.func265, Tryz.ntmps265
    go_wp2_with fail
    go_ret
    exact ⟨ret_bool hf.out.symm, HA.out _⟩
  · have hf := Lib.hid (show decide (xn = nm) = false from decide_eq_false hx)
    have hn1 := toList_ne hx
    have hn2 := toList_beq hx
    go_enter Tryz.func265, Tryz.ntmps265
    go_wp2_with fail
    go_ret
    exact ⟨ret_bool (by first | exact hf.out.symm | rfl), HA.out _⟩
theorem implIndexFunc (w : World) (A B : Nat) (a : Option Addr) (len cap : Nat) (l : List FieldP) (nm : ByteArray) (hn : OkS nm) (hs : FieldsAt w A B a len l) (hB : B ≤ w.heap.size) (p : Nat) (hp : w.cell? ⟨p, 0, none⟩ = some (.string nm)) :
    Calls Tryz.prog 264 #[.slice a len cap, .func (.func 265) #[] #[.pointer (some ⟨p, 0, none⟩)]] w fun e w' => e = .returned (.int .i64 (findF nm l 0)) ∧ Below w.heap.size w w' := by
  have hlen := hs.2.1
  have HS := Lib.hid hs
  have hplt := lt_of_cell hp
  have HN := Lib.hid hn
  obtain ⟨hll, _⟩ := hs
  subst hll
  go_enter Tryz.func264, Tryz.ntmps264
  go_wp2_with fail
  go_loopw [8] (fun i wr => ∃ (i' : Nat), i' ≤ l.length ∧ Hid (findF nm l 0 = findF nm (l.drop i') i') ∧ i = .int .i64 i' ∧ Hid (wr.cell? ⟨p, 0, none⟩ = some (.string nm)) ∧ Below w.heap.size w wr) (fun i _ => l.length - (intOf i).toNat)
  case atStart => exact ⟨0, by omega, Lib.hid (by rw [List.drop_zero]), rfl, Lib.hid hp, Below.refl _ _⟩
  case round =>
    obtain ⟨i, hi, hm, rfl, hpc, hb⟩ := hrel
    have HB := Lib.hid hb
    by_cases hlt : i < l.length
    · have hli : (i : Int) < (l.length : Int) := by omega
      obtain ⟨x, b, off, hd, rfl, hA, hbb, hok, hc⟩ := (HS.out.below fieldLies (Nat.le_refl _) (hb.mono hB)).at hlt
      obtain ⟨c0, c1, c2, c3, c4, c5⟩ := row6 hc
      have CC : Hid (Calls Tryz.prog 265 #[.agg #[.string x.name, .string x.typ, .bool x.list, .bool x.must, .int .i64 x.size, .int .i64 x.cap], .pointer (some ⟨p, 0, none⟩)] wr fun e w' => e = .returned (.bool (decide (x.name = nm))) ∧ Below wr.heap.size wr w') := Lib.hid (implPlace1 wr x hok nm HN.out p hpc.out)
      by_cases hx : x.name = nm
      · have hf := Lib.hid (hm.out.trans (findF_hit hd hx))
        have hde : decide (x.name = nm) = true := decide_eq_true hx
        rw [hde] at CC
        clear hlt hd hb hok hc hx hde
        go_wp2_with fail
        refine CC.out.mono ?_
        rintro e w1 ⟨rfl, hb1⟩
        have HB1 := Lib.hid (HB.out.trans (hb1.mono HB.out.size))
        clear hb1
        go_wp2_with fail
        go_ret
        exact ⟨ret_i hf.out.symm, HB1.out⟩
      · have hrel := Lib.hid (hm.out.trans (findF_miss hd hx))
        have hde : decide (x.name = nm) = false := decide_eq_false hx
        rw [hde] at CC
        clear hlt hd hb hok hc hx hde
        go_wp2_with fail
        refine CC.out.mono ?_
        rintro e w1 ⟨rfl, hb1⟩
        have HB1 := Lib.hid (HB.out.trans (hb1.mono HB.out.size))
        have hp1 := Lib.hid ((hb1.cell (p := ⟨p, 0, none⟩) (lt_of_cell hpc.out)).trans hpc.out)
        clear hb1
        go_wp2_with fail
        go_roundw
        case rel => exact ⟨i + 1, by omega, hrel, by go_num, hp1, HB1.out⟩
        case measure => simp [intOf]; omega
    · obtain rfl : i = l.length := by omega
      have hf : Hid (findF nm l 0 = -1) := Lib.hid (by rw [hm.out, List.drop_length]; rfl)
      clear hlt hb
      go_wp2_with fail
      go_ret
      exact ⟨ret_i hf.out.symm, HB.out⟩
theorem implPlace (w : World) (A B : Nat) (a : Option Addr) (len cap : Nat) (l : List FieldP) (nm : ByteArray) (hn : OkS nm) (hs : FieldsAt w A B a len l) (hB : B ≤ w.heap.size) :
    Calls Tryz.prog 260 #[.slice a len cap, .string nm] w fun e w' => e = .returned (.int .i64 (findF nm l 0)) ∧ Below w.heap.size w w' := by
  have HS := Lib.hid hs
  have HN := Lib.hid hn
  have HA : Hid (∀ o, Below w.heap.size w (w.alloc o)) := Lib.hid fun o => (Below.refl _ _).alloc (Nat.le_refl _) o
  clear hs hn
  go_enter Tryz.func260, Tryz.ntmps260
  go_wp2_with fail
  refine (implIndexFunc _ A B a len cap l nm HN.out (HS.out.below fieldLies hB (HA.out _)) (Nat.le_trans hB (HA.out _).size) w.heap.size (by simp)).mono ?_
  rintro e w1 ⟨rfl, hb1⟩
  have HB1 := Lib.hid ((HA.out _).trans (hb1.mono (HA.out _).size))
  clear hb1
  go_wp2_with fail
  go_ret
  exact ⟨rfl, HB1.out⟩
/-- Whether a field is right for the program. -/
noncomputable def frB (s : List TypeP) (x : FieldP) : Bool := (!freshB x.typ s && wordB x.name) && sizedB x
theorem implFieldRight (w : World) (A B : Nat) (x : FieldP) (hx : x.ok) (b n : Nat) (D : DataW Value) (s : List TypeP) (hD : KD w A B s D) (ho : OwnK w b n D) (hB : B ≤ w.heap.size) :
    Calls Tryz.prog 262 #[.agg x.cells.toArray, .map (some b)] w fun e w' => e = .returned (.bool (frB s x)) ∧ Below w.heap.size w w' := by
  have HA : Hid (∀ o, Below w.heap.size w (w.alloc o)) := Lib.hid fun o => (Below.refl _ _).alloc (Nat.le_refl _) o
  have HL : Hid (∀ o, ∃ v, (Instr.lookup 88 (.map (some b)) (.string x.typ) true).run Tryz.prog (w.alloc o) = .ok (.tuple #[v, .bool (!freshB x.typ s)]) (w.alloc o) ∧ (freshB x.typ s = true → v = .nilIface) ∧ (freshB x.typ s = false → KindV (w.alloc o) A B v (typeIn x.typ s))) := Lib.hid fun o => (hD.below hB (HA.out o)).look_ok (ho.alloc o) x.typ hx.2.1
  have C1 : Hid (∀ w, Calls Tryz.prog 178 #[.string x.name] w fun e w' => e = .returned (.bool (wordB x.name)) ∧ w = w') := Lib.hid fun w => implWordRight _ (by unfold maxLen; exact hx.1) w
  have C2 : Hid (∀ w, Calls Tryz.prog 266 #[.agg x.cells.toArray] w fun e w' => e = .returned (.bool (sizedB x)) ∧ Below w.heap.size w w') := Lib.hid fun w => implList w x hx
  have hfr := Lib.hid (show frB s x = ((!freshB x.typ s && wordB x.name) && sizedB x) from rfl)
  obtain ⟨xn, tp, ls, mu, sz, cp⟩ := x
  obtain ⟨hk, hk2, ⟨hs1, hs2⟩, hc1, hc2⟩ := hx
  unfold OkS at hk hk2
  simp only [FieldP.cells] at hk hk2 hs1 hs2 hc1 hc2 HL C1 C2 ⊢
  obtain ⟨v, hrun, hv1, hv2⟩ := HL.out (.cells #[.string xn, .string tp, .bool ls, .bool mu, .int .i64 sz, .int .i64 cp] 50)
  obtain ⟨p1, hp1⟩ : ∃ p, freshB tp s = p := ⟨_, rfl⟩
  obtain ⟨p2, hp2⟩ : ∃ p, wordB xn = p := ⟨_, rfl⟩
  obtain ⟨p3, hp3⟩ : ∃ p, sizedB ⟨xn, tp, ls, mu, sz, cp⟩ = p := ⟨_, rfl⟩
  simp only [hp1, hp2, hp3] at hfr hrun C1 C2 hv1 hv2
  clear hD ho HL hp1 hp2 hp3
  cases p1
  · obtain ⟨_, ka, kca, kc, kcc, hve, _⟩ := hv2 rfl
    clear hv1 hv2
    subst hve
    generalize kindT (typeIn tp s).kind = T0 at *
    generalize (typeIn tp s).cells ka kca kc kcc = K0 at *
    cases p2
    · go_enter Tryz.func262, Tryz.ntmps262
      go_wp2_with (first
        | (go_at_call 178; refine (C1.out _).mono ?_; rintro e w' ⟨rfl, rfl⟩)
        | (go_at_call 266; refine (C2.out _).mono ?_; rintro e w1 ⟨rfl, hb1⟩))
      go_ret
      exact ⟨ret_bool hfr.out.symm, HA.out _⟩
    · go_enter Tryz.func262, Tryz.ntmps262
      go_wp2_with (first
        | (go_at_call 178; refine (C1.out _).mono ?_; rintro e w' ⟨rfl, rfl⟩)
        | (go_at_call 266; refine (C2.out _).mono ?_; rintro e w1 ⟨rfl, hb1⟩))
      go_ret
      exact ⟨ret_bool hfr.out.symm, (HA.out _).trans (hb1.mono (HA.out _).size)⟩
  · obtain rfl := hv1 rfl
    clear hv1 hv2
    go_enter Tryz.func262, Tryz.ntmps262
    go_wp2_with fail
    go_ret
    exact ⟨ret_bool hfr.out.symm, HA.out _⟩
end Go.Proofs.YtceabbbmgfeofaaGreatDoor.Rw
