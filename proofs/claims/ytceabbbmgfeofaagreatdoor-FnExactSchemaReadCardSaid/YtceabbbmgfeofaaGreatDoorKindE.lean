/-
  Contracts: impl.kindsOf, SchemaRight: the types of a right schema in a map by their names; of what was there nothing is changed. Conditions: in memory.
-/
import Derived.Test.YtceabbbmgfeofaaGreatDoorRows
import Derived.Test.YtceabbbmgfeofaaGreatDoorKindD
import Derived.Carry
namespace Go.Proofs.YtceabbbmgfeofaaGreatDoor.Rw
open Go.RowKit Words Go.Maps
set_option linter.unusedVariables false
set_option maxRecDepth 100000

noncomputable def addI (s : List TypeP) (i : Nat) (x : TypeP) : Bool := (isKind x.kind && typeB x.name) && freshB x.name (s.take i)
noncomputable def addAll (s : List TypeP) : List TypeP → Nat → Bool
  | [], _ => true
  | x :: r, i => addI s i x && addAll s r (i + 1)
theorem addAll_drop {s l : List TypeP} {i : Nat} {x : TypeP} (h : l[i]? = some x) : addAll s (l.drop i) i = (addI s i x && addAll s (l.drop (i + 1)) (i + 1)) := by
  obtain ⟨hl, rfl⟩ := List.getElem?_eq_some_iff.1 h
  rw [List.drop_eq_getElem_cons hl, addAll]
noncomputable def partI (s : List TypeP) (x : TypeP) : Bool := if x.kind = 1 then leafB x else if x.kind = 2 then objI s x else oneI s x
noncomputable def rightAll (s : List TypeP) : List TypeP → Bool
  | [] => true
  | x :: r => partI s (typeIn x.name s) && rightAll s r
theorem rightAll_drop {s l : List TypeP} {i : Nat} {x : TypeP} (h : l[i]? = some x) : rightAll s (l.drop i) = (partI s (typeIn x.name s) && rightAll s (l.drop (i + 1))) := by
  obtain ⟨hl, rfl⟩ := List.getElem?_eq_some_iff.1 h
  rw [List.drop_eq_getElem_cons hl, rightAll]
/-- Whether a schema is right for the program. -/
noncomputable def kindsB (s : List TypeP) : Bool := (((decide (1 ≤ s.length) && decide (s.length ≤ 12)) && (headKind s == 2)) && addAll s s 0) && rightAll s s
theorem fresh_false_of_get {nm : ByteArray} : ∀ {l : List TypeP} {i : Nat} {x : TypeP}, l[i]? = some x → x.name = nm → freshB nm l = false
  | y :: l, 0, x, h, hx => by cases h; simp [freshB, hx]
  | y :: l, i + 1, x, h, hx => by
    have := fresh_false_of_get (l := l) (i := i) (by simpa using h) hx
    simp only [freshB, this]; split <;> rfl
/-- What kindsOf tells. -/
def KindsOut (A B : Nat) (s : List TypeP) (e : Ending) (w' : World) : Prop :=
  (kindsB s = true ∧ ∃ b n D, e = .returned (.tuple #[.map (some b), .bool true]) ∧ KD w' A B s D ∧ OwnK w' b n D) ∨ (kindsB s = false ∧ e = .returned (.tuple #[.map none, .bool false]))
theorem neqNil (T : TypeId) (v : Value) (W : World) : (binOp .neq 94 (.iface T v) .nilIface).run Tryz.prog W = .ok (.bool true) W := by rfl
theorem neqNilN (W : World) : (binOp .neq 94 .nilIface .nilIface).run Tryz.prog W = .ok (.bool false) W := by rfl

theorem mRight1 (v : Value) (W : World) : (method 475 234 v "loop.example/g00836/impl.right").run Tryz.prog W = .ok (280, v) W := by kernel_rfl
theorem mRight2 (v : Value) (W : World) : (method 475 91 v "loop.example/g00836/impl.right").run Tryz.prog W = .ok (258, v) W := by kernel_rfl
theorem mRight3 (v : Value) (W : World) : (method 475 235 v "loop.example/g00836/impl.right").run Tryz.prog W = .ok (285, v) W := by kernel_rfl

set_option maxHeartbeats 4000000 in
theorem implKindsOf (w : World) (A B : Nat) (v : Value) (s : List TypeP) (hv : SchemaAt w A B v s) (hB : B ≤ w.heap.size) :
    Calls Tryz.prog 41 #[v] w fun e w' => KindsOut A B s e w' ∧ Below w.heap.size w w' := by
  obtain ⟨a, ca, rfl, hd, hcv⟩ := hv
  have hlen := hd.2.1
  have HS := Lib.hid hd
  have HA : Hid (∀ o1, Below w.heap.size w (w.alloc o1)) := Lib.hid fun o1 => (Below.refl _ _).alloc (Nat.le_refl _) o1
  have hS0 := Lib.hid (show kindsB s = ((((decide (1 ≤ s.length) && decide (s.length ≤ 12)) && (headKind s == 2)) && addAll s s 0) && rightAll s s) from rfl)
  clear hd
  by_cases c1 : s.length < 1
  · have hf := Lib.hid (show kindsB s = false by rw [hS0.out]; simp [show ¬ 1 ≤ s.length by omega])
    have c1i : (s.length : Int) < 1 := by omega
    clear c1
    go_enter Tryz.func41, Tryz.ntmps41
    go_wp2_with fail
    go_ret2
    exact ⟨.inr ⟨hf.out, rfl⟩, HA.out _⟩
  have c1i : ¬ (s.length : Int) < 1 := by omega
  have c1j : 1 ≤ (s.length : Int) := by omega
  by_cases c2 : 12 < s.length
  · have hf := Lib.hid (show kindsB s = false by rw [hS0.out]; simp [show ¬ s.length ≤ 12 by omega])
    have c2i : (12 : Int) < (s.length : Int) := by omega
    clear c1 c2
    go_enter Tryz.func41, Tryz.ntmps41
    go_wp2_with fail
    go_ret2
    exact ⟨.inr ⟨hf.out, rfl⟩, HA.out _⟩
  have c2i : ¬ (12 : Int) < (s.length : Int) := by omega
  have c2j : (s.length : Int) ≤ 12 := by omega
  obtain ⟨x0, hx0⟩ : ∃ x, s[0]? = some x := ⟨s[0], List.getElem?_eq_getElem (by omega)⟩
  obtain ⟨x1, b, off, hd, rfl, hAb, hbb, hok, a1, ca1, cm, ccm, hc, h2, h3⟩ := HS.out.at (i := 0) (by omega)
  obtain rfl : x1 = x0 := by rw [hd] at hx0; cases hx0; rfl
  obtain ⟨d0, d1, d2, d3, d4⟩ := row5 hc
  rw [Nat.zero_mul, Nat.add_zero] at d0 d1 d2 d3 d4
  have hhk := Lib.hid (show headKind s = x1.kind by
    obtain ⟨hl, rfl⟩ := List.getElem?_eq_some_iff.1 hd
    cases s with
    | nil => simp at hl
    | cons y l => rfl)
  obtain ⟨_, ⟨k1, k2⟩, _⟩ := hok
  obtain ⟨xk, hxk⟩ : ∃ k, x1.kind = k := ⟨_, rfl⟩
  rw [hxk] at hhk d1 k1 k2
  obtain ⟨e1, he1⟩ : ∃ p, (xk == 2) = p := ⟨_, rfl⟩
  have hbw : b < w.heap.size := by omega
  clear hx0 hc h2 h3 hxk d0 d2 d3 d4 hd
  cases e1
  · have hf := Lib.hid (show kindsB s = false by rw [hS0.out, hhk.out, he1]; simp)
    have hk : ¬ xk = 2 := by simpa using he1
    clear c1 c2
    go_enter Tryz.func41, Tryz.ntmps41
    go_wp2_with fail
    go_ret2
    exact ⟨.inr ⟨hf.out, rfl⟩, HA.out _⟩
  have hk2 : (xk != 2) = false := by simp [bne, he1]
  have hS := Lib.hid (show kindsB s = (addAll s s 0 && rightAll s s) by rw [hS0.out, hhk.out, he1]; simp [show 1 ≤ s.length by omega, show s.length ≤ 12 by omega])
  clear hS0 hhk c1 c2
  have hmm := @run_makeMap Tryz.prog
  go_enter Tryz.func41, Tryz.ntmps41
  go_wp2_with fail
  clear d1
  have k0 : ((w.alloc (.cells #[.slice (some ⟨b, off, none⟩) s.length ca] 25)).alloc (.map #[] 0)).heap[w.heap.size]? = some (.cells #[.slice (some ⟨b, off, none⟩) s.length ca] 25 (0, 0)) := by
    rw [Go.Deep.blk_alloc_lt _ _ _ (by simp)]; exact heap_alloc_new w _
  have HM0 : Hid (OwnK ((w.alloc (.cells #[.slice (some ⟨b, off, none⟩) s.length ca] 25)).alloc (.map #[] 0)) (w.heap.size + 1) 0 (.map [])) := Lib.hid (by
    have := World.ownsMap_made (w.alloc (.cells #[.slice (some ⟨b, off, none⟩) s.length ca] 25)) Tryz.prog 9 RV
    simpa using this)
  have HB0 : Hid (Below w.heap.size w ((w.alloc (.cells #[.slice (some ⟨b, off, none⟩) s.length ca] 25)).alloc (.map #[] 0))) := Lib.hid ((HA.out _).alloc (by simp) _)
  clear hmm
  go_loopw [33] (fun i wr => ∃ (i' : Nat) (D : DataW Value), i' ≤ s.length ∧ Hid (addAll s s 0 = addAll s (s.drop i') i') ∧ i = .int .i64 i' ∧ wr.heap[w.heap.size]? = some (.cells #[.slice (some ⟨b, off, none⟩) s.length ca] 25 (0, 0)) ∧ Hid (OwnK wr (w.heap.size + 1) i' D) ∧ Hid (KD wr A B (s.take i') D) ∧ Below w.heap.size w wr) (fun i _ => s.length - (intOf i).toNat)
  case atStart => exact ⟨0, .map [], by omega, Lib.hid (by rw [List.drop_zero]), rfl, k0, HM0, Lib.hid (by rw [List.take_zero]; exact KD.nil _ _ _), HB0.out⟩
  case round =>
    obtain ⟨i, D, hi, hm, rfl, hk0, HO, HD, hb⟩ := hrel
    have HB := Lib.hid hb
    clear k0
    have ⟨j0, _⟩ := keep1 hk0
    have hml : w.heap.size + 1 < wr.heap.size := HO.out.lt
    by_cases hlt : i < s.length
    · have hli : (i : Int) < (s.length : Int) := by omega
      obtain ⟨x, b', off', hd, he, hA', hbb', hok, a1, ca1, cm, ccm, hc, h2, h3⟩ := (HS.out.below typeLies (Nat.le_refl _) (hb.mono hB)).at hlt
      cases he
      obtain ⟨d0, d1, d2, d3, d4⟩ := row5 hc
      have hst := Lib.hid (addAll_drop (s := s) hd)
      have HGD := Lib.hid hd
      have HX : Hid (TypeAt wr A B (.agg #[.string x.name, .int .i64 x.kind, .int .i64 x.bytes, .slice a1 x.fields.length ca1, .slice cm x.members.length ccm]) x) := Lib.hid ⟨a1, ca1, cm, ccm, rfl, hok, h2, h3⟩
      obtain ⟨p1, hp1⟩ : ∃ p, isKind x.kind = p := ⟨_, rfl⟩
      obtain ⟨p2, hp2⟩ : ∃ p, typeB x.name = p := ⟨_, rfl⟩
      obtain ⟨p3, hp3⟩ : ∃ p, freshB x.name (s.take i) = p := ⟨_, rfl⟩
      have HTB := Lib.hid (show addI s i x = ((p1 && p2) && p3) by unfold addI; rw [hp1, hp2, hp3])
      have C1 : Hid (∀ w, Calls Tryz.prog 90 #[.string x.name] w fun e w' => e = .returned (.bool p2) ∧ w = w') := Lib.hid fun w => by rw [← hp2]; exact implTypeWord _ (by unfold maxLen; exact hok.1) w
      have HAA : Hid (∀ o, Below w.heap.size w (wr.alloc o)) := Lib.hid fun o => HB.out.alloc HB.out.size o
      have C2 := Lib.hid (fun o => implKindOf (wr.alloc o) A B x a1 ca1 cm ccm (HX.out.below (C := wr.heap.size) (Nat.le_trans hB HB.out.size) ((Below.refl _ _).alloc (Nat.le_refl _) o)) (Nat.le_trans hB (HAA.out o).size))
      simp only [TypeP.cells] at C2
      rw [hp1] at C2
      have HKT : Hid (p1 = true → x.kind = 1 ∨ x.kind = 2 ∨ x.kind = 3) := Lib.hid fun h => by rw [h] at hp1; unfold isKind at hp1; simp at hp1; omega
      have HP3 := Lib.hid hp3
      have hl0 := lt_of_get hk0
      have hkf := Lib.hid ((Go.Deep.blk_alloc_lt wr (.cells #[.string x.name, .int .i64 x.kind, .int .i64 x.bytes, .slice a1 x.fields.length ca1, .slice cm x.members.length ccm] 48) w.heap.size hl0).trans hk0)
      have hnew := Lib.hid (heap_alloc_new wr (.cells #[.string x.name, .int .i64 x.kind, .int .i64 x.bytes, .slice a1 x.fields.length ca1, .slice cm x.members.length ccm] 48))
      have HOK := Lib.hid hok
      have hoksz := hok.1
      unfold OkS at hoksz
      clear hp1 hp2 hp3 hok hc h2 h3 hd hb hlt
      go_wp2_with fail
      refine (C2.out _).mono ?_
      rintro e w1 ⟨kv, rfl, hv1, hv2, hb1⟩
      have HB1 := Lib.hid ((HAA.out _).trans (hb1.mono (HAA.out _).size))
      have hk1 := (hb1.block w.heap.size (by simp; omega)).trans hkf.out
      have ht1 := (hb1.block wr.heap.size (by simp)).trans hnew.out
      have hwr1 : wr.heap.size < w1.heap.size := lt_of_get ht1
      have HO1 : Hid (OwnK w1 (w.heap.size + 1) i D) := Lib.hid (World.ownsMap.same HO.out ((hb1.block (w.heap.size + 1) (by simp; omega)).trans (Go.Deep.blk_alloc_lt _ _ _ hml)))
      have HD1 : Hid (KD w1 A B (s.take i) D) := Lib.hid (HD.out.below (C := wr.heap.size) (Nat.le_trans hB HB.out.size) (((Below.refl _ _).alloc (Nat.le_refl _) _).trans (hb1.mono (by simp))))
      have HX1 := Lib.hid (HX.out.below (C := wr.heap.size) (Nat.le_trans hB HB.out.size) (((Below.refl _ _).alloc (Nat.le_refl _) _).trans (hb1.mono (by simp))))
      have ⟨⟨y0, y1, y2, y3, y4⟩, _⟩ := keep5 ht1
      clear hb1 ht1
      cases p1
      · obtain rfl := hv2 rfl
        have ho := Lib.hid (show addI s i x = false from HTB.out)
        clear hv1 hv2
        go_wp2_with fail
        go_ret2
        exact ⟨.inr ⟨by rw [hS.out, all_no hm.out hst.out ho.out]; rfl, rfl⟩, HB1.out⟩
      obtain rfl := hv1 rfl
      clear hv1 hv2
      have HKV : Hid (KindV w1 A B (.iface (kindT x.kind) (.agg #[.string x.name, .int .i64 x.kind, .int .i64 x.bytes, .slice a1 x.fields.length ca1, .slice cm x.members.length ccm])) x) := Lib.hid ⟨HKT.out rfl, a1, ca1, cm, ccm, rfl, HX1.out⟩
      generalize kindT x.kind = T0 at *
      cases p2
      · have ho := Lib.hid (show addI s i x = false from HTB.out)
        go_wp2_with (go_at_call 90; refine (C1.out _).mono ?_; rintro e w' ⟨rfl, rfl⟩)
        go_ret2
        exact ⟨.inr ⟨by rw [hS.out, all_no hm.out hst.out ho.out]; rfl, rfl⟩, HB1.out⟩
      obtain ⟨lv, hrun, hl1, hl2⟩ := HD1.out.look HO1.out x.name HOK.out.1
      have nq := neqNil
      have nn := neqNilN
      cases p3
      · obtain ⟨_, ka, kca, kc, kcc, hve, _⟩ := hl2 HP3.out
        clear hl1 hl2
        subst hve
        generalize kindT (typeIn x.name (s.take i)).kind = T1 at *
        generalize (typeIn x.name (s.take i)).cells ka kca kc kcc = K1 at *
        have ho := Lib.hid (show addI s i x = false from HTB.out)
        go_wp2_with (go_at_call 90; refine (C1.out _).mono ?_; rintro e w' ⟨rfl, rfl⟩)
        go_ret2
        exact ⟨.inr ⟨by rw [hS.out, all_no hm.out hst.out ho.out]; rfl, rfl⟩, HB1.out⟩
      obtain rfl := hl1 HP3.out
      clear hl1 hl2
      have ho := Lib.hid (show addI s i x = true from HTB.out)
      have hkey : keyOf Tryz.prog 9 (.string x.name) = some (keyL x.name) := WideMaps.keyOf_string_mk Tryz.underlying9 (by unfold maxLen; exact hoksz)
      go_wp2_with (first
        | (go_at_call 90; refine (C1.out _).mono ?_; rintro e w' ⟨rfl, rfl⟩)
        | (at_mapUpdate; refine wpList_mapUpdate_own _ rfl _ _ _ 88 rfl 9 94 lawS Tryz.underlying88 RV (w.heap.size + 1) i D rfl HO1.out (by unfold maxLen; omega) _ _ _ rfl rfl hkey _ [] rfl ?_; intro w2 hown2 hgrow2))
      have HB2 := Lib.hid (HB1.out.grown hgrow2 HB1.out.size (fun j hj => by cases hj; exact Nat.le_succ _))
      have hk2 := (hgrow2.block w.heap.size (by omega) (by simp)).trans hk1
      have HD2 : Hid (KD w2 A B (s.take (i + 1)) (D.put (keyL x.name) (.held (.iface T0 (.agg #[.string x.name, .int .i64 x.kind, .int .i64 x.bytes, .slice a1 x.fields.length ca1, .slice cm x.members.length ccm]))))) := Lib.hid (by
        rw [List.take_add_one, HGD.out]
        exact (HD1.out.put HP3.out HKV.out).below (C := w.heap.size) hB ((Below.refl _ _).grown hgrow2 HB1.out.size (fun j hj => by cases hj; exact Nat.le_succ _)))
      go_roundw
      case rel => exact ⟨i + 1, _, by omega, Lib.hid (all_yes hm.out hst.out ho.out), by go_num, hk2, Lib.hid hown2, HD2, HB2.out⟩
      case measure => simp [intOf]; omega
    · obtain rfl : i = s.length := by omega
      have hS2 := Lib.hid (show kindsB s = rightAll s s by rw [hS.out, hm.out, List.drop_length]; rfl)
      have HD2 : Hid (KD wr A B s D) := Lib.hid (by have := HD.out; rwa [List.take_length] at this)
      clear hlt hb HD
      go_wp2_with fail
      go_loopw [65] (fun i wr => ∃ (i' : Nat), i' ≤ s.length ∧ Hid (rightAll s s = rightAll s (s.drop i')) ∧ i = .int .i64 i' ∧ wr.heap[w.heap.size]? = some (.cells #[.slice (some ⟨b, off, none⟩) s.length ca] 25 (0, 0)) ∧ Hid (OwnK wr (w.heap.size + 1) s.length D) ∧ Hid (KD wr A B s D) ∧ Below w.heap.size w wr) (fun i _ => s.length - (intOf i).toNat)
      case atStart => exact ⟨0, by omega, Lib.hid (by rw [List.drop_zero]), rfl, hk0, HO, HD2, HB.out⟩
      case round =>
        obtain ⟨i, hi, hm2, rfl, hk1, HO1, HD1, hb1⟩ := hrel
        clear hk0 j0 hml HO HD2 HB
        have HB := Lib.hid hb1
        have ⟨j0, _⟩ := keep1 hk1
        have hml : w.heap.size + 1 < wr.heap.size := HO1.out.lt
        by_cases hlt : i < s.length
        · have hli : (i : Int) < (s.length : Int) := by omega
          obtain ⟨x, b', off', hd, he, hA', hbb', hok, a1, ca1, cm, ccm, hc, h2, h3⟩ := (HS.out.below typeLies (Nat.le_refl _) (hb1.mono hB)).at hlt
          cases he
          obtain ⟨d0, d1, d2, d3, d4⟩ := row5 hc
          have hst := Lib.hid (rightAll_drop (s := s) hd)
          have HAA : Hid (∀ o, Below w.heap.size w (wr.alloc o)) := Lib.hid fun o => HB.out.alloc HB.out.size o
          have HON : Hid (∀ o, OwnK (wr.alloc o) (w.heap.size + 1) s.length D) := Lib.hid fun o => HO1.out.alloc o
          have HDN : Hid (∀ o, KD (wr.alloc o) A B s D) := Lib.hid fun o => HD1.out.below (C := wr.heap.size) (Nat.le_trans hB HB.out.size) ((Below.refl _ _).alloc (Nat.le_refl _) _)
          obtain ⟨lv, hrun, hl1, hl2⟩ := (HDN.out (.cells #[.string x.name, .int .i64 x.kind, .int .i64 x.bytes, .slice a1 x.fields.length ca1, .slice cm x.members.length ccm] 48)).look (HON.out (.cells #[.string x.name, .int .i64 x.kind, .int .i64 x.bytes, .slice a1 x.fields.length ca1, .slice cm x.members.length ccm] 48)) x.name hok.1
          obtain ⟨hk3, ka, kca, kc, kcc, rfl, hkt⟩ := hl2 (fresh_false_of_get hd rfl)
          have HKT := Lib.hid hkt
          obtain ⟨y, hy⟩ : ∃ y, typeIn x.name s = y := ⟨_, rfl⟩
          rw [hy] at HKT hk3 hst hrun
          have hoksz := hok.1
          unfold OkS at hoksz
          have hkf := Lib.hid (fun o => (Go.Deep.blk_alloc_lt wr o w.heap.size (by omega)).trans hk1)
          clear hl1 hl2 hkt hy hok hc h2 h3 hd hlt hb1 hk1
          obtain ⟨pr, hpr⟩ : ∃ p, partI s y = p := ⟨_, rfl⟩
          have CR : Hid ((y.kind = 1 → ∀ o, TypeAt (wr.alloc o) A B (.agg (y.cells ka kca kc kcc).toArray) y → Calls Tryz.prog 280 #[.agg (y.cells ka kca kc kcc).toArray, .map (some (w.heap.size + 1))] (wr.alloc o) fun e w' => e = .returned (.bool pr) ∧ Below (wr.alloc o).heap.size (wr.alloc o) w') ∧
              (y.kind = 2 → ∀ o, TypeAt (wr.alloc o) A B (.agg (y.cells ka kca kc kcc).toArray) y → Calls Tryz.prog 258 #[.agg (y.cells ka kca kc kcc).toArray, .map (some (w.heap.size + 1))] (wr.alloc o) fun e w' => e = .returned (.bool pr) ∧ Below (wr.alloc o).heap.size (wr.alloc o) w') ∧
              (y.kind = 3 → ∀ o, TypeAt (wr.alloc o) A B (.agg (y.cells ka kca kc kcc).toArray) y → Calls Tryz.prog 285 #[.agg (y.cells ka kca kc kcc).toArray, .map (some (w.heap.size + 1))] (wr.alloc o) fun e w' => e = .returned (.bool pr) ∧ Below (wr.alloc o).heap.size (wr.alloc o) w')) := Lib.hid (by
            refine ⟨fun h o hx => ?_, fun h o hx => ?_, fun h o hx => ?_⟩
            · rw [← hpr, show partI s y = leafB y from if_pos h]
              obtain ⟨_, _, _, _, _, q1, q2, q3, _⟩ := hx
              exact implLeaf _ y q1 ka kca kc kcc q2.1.2.1 q3.2.1 _
            · rw [← hpr, show partI s y = objI s y by unfold partI; rw [if_neg (by omega), if_pos h]]
              exact implObj _ A B y ka kca kc kcc hx _ _ D s (HDN.out o) (HON.out o) (Nat.le_trans hB (HAA.out o).size)
            · rw [← hpr, show partI s y = oneI s y by unfold partI; rw [if_neg (by omega), if_neg (by omega)]]
              exact implOne _ A B y ka kca kc kcc hx _ _ D s (HDN.out o) (HON.out o) (Nat.le_trans hB (HAA.out o).size))
          rw [hpr] at hst
          generalize hcells : Value.agg (y.cells ka kca kc kcc).toArray = yv at *
          clear hcells hpr
          have m1 := mRight1
          have m2 := mRight2
          have m3 := mRight3
          rcases hk3 with hk3 | hk3 | hk3
          · have e : kindT y.kind = 234 := by rw [hk3]; rfl
            rw [e] at hrun
            have C := Lib.hid (CR.out.1 hk3 _ HKT.out)
            clear hk3 e
            go_wp2_with fail
            refine C.out.mono ?_
            rintro e w1 ⟨rfl, hb1⟩
            have HB1 := Lib.hid ((HAA.out _).trans (hb1.mono (HAA.out _).size))
            have hk1 := (hb1.block w.heap.size (by simp; omega)).trans (hkf.out _)
            have HO2 : Hid (OwnK w1 (w.heap.size + 1) s.length D) := Lib.hid (World.ownsMap.same (HON.out _) (hb1.block (w.heap.size + 1) (by simp; omega)))
            have HD2 : Hid (KD w1 A B s D) := Lib.hid ((HDN.out _).below (C := w.heap.size) hB (hb1.mono (HAA.out _).size))
            clear hb1
            cases pr
            · have ho := Lib.hid (show kindsB s = false by rw [hS2.out, hm2.out, hst.out]; rfl)
              go_wp2_with fail
              go_ret2
              exact ⟨.inr ⟨ho.out, rfl⟩, HB1.out⟩
            · go_wp2_with fail
              go_roundw
              case rel => exact ⟨i + 1, by omega, Lib.hid (by rw [hm2.out, hst.out, Bool.true_and]), by go_num, hk1, HO2, HD2, HB1.out⟩
              case measure => simp [intOf]; omega
          · have e : kindT y.kind = 91 := by rw [hk3]; rfl
            rw [e] at hrun
            have C := Lib.hid (CR.out.2.1 hk3 _ HKT.out)
            clear hk3 e
            go_wp2_with fail
            refine C.out.mono ?_
            rintro e w1 ⟨rfl, hb1⟩
            have HB1 := Lib.hid ((HAA.out _).trans (hb1.mono (HAA.out _).size))
            have hk1 := (hb1.block w.heap.size (by simp; omega)).trans (hkf.out _)
            have HO2 : Hid (OwnK w1 (w.heap.size + 1) s.length D) := Lib.hid (World.ownsMap.same (HON.out _) (hb1.block (w.heap.size + 1) (by simp; omega)))
            have HD2 : Hid (KD w1 A B s D) := Lib.hid ((HDN.out _).below (C := w.heap.size) hB (hb1.mono (HAA.out _).size))
            clear hb1
            cases pr
            · have ho := Lib.hid (show kindsB s = false by rw [hS2.out, hm2.out, hst.out]; rfl)
              go_wp2_with fail
              go_ret2
              exact ⟨.inr ⟨ho.out, rfl⟩, HB1.out⟩
            · go_wp2_with fail
              go_roundw
              case rel => exact ⟨i + 1, by omega, Lib.hid (by rw [hm2.out, hst.out, Bool.true_and]), by go_num, hk1, HO2, HD2, HB1.out⟩
              case measure => simp [intOf]; omega
          · have e : kindT y.kind = 235 := by rw [hk3]; rfl
            rw [e] at hrun
            have C := Lib.hid (CR.out.2.2 hk3 _ HKT.out)
            clear hk3 e
            go_wp2_with fail
            refine C.out.mono ?_
            rintro e w1 ⟨rfl, hb1⟩
            have HB1 := Lib.hid ((HAA.out _).trans (hb1.mono (HAA.out _).size))
            have hk1 := (hb1.block w.heap.size (by simp; omega)).trans (hkf.out _)
            have HO2 : Hid (OwnK w1 (w.heap.size + 1) s.length D) := Lib.hid (World.ownsMap.same (HON.out _) (hb1.block (w.heap.size + 1) (by simp; omega)))
            have HD2 : Hid (KD w1 A B s D) := Lib.hid ((HDN.out _).below (C := w.heap.size) hB (hb1.mono (HAA.out _).size))
            clear hb1
            cases pr
            · have ho := Lib.hid (show kindsB s = false by rw [hS2.out, hm2.out, hst.out]; rfl)
              go_wp2_with fail
              go_ret2
              exact ⟨.inr ⟨ho.out, rfl⟩, HB1.out⟩
            · go_wp2_with fail
              go_roundw
              case rel => exact ⟨i + 1, by omega, Lib.hid (by rw [hm2.out, hst.out, Bool.true_and]), by go_num, hk1, HO2, HD2, HB1.out⟩
              case measure => simp [intOf]; omega
        · obtain rfl : i = s.length := by omega
          have ho := Lib.hid (show kindsB s = true by rw [hS2.out, hm2.out, List.drop_length]; rfl)
          clear hlt hb1
          go_wp2_with fail
          go_ret2
          exact ⟨.inl ⟨ho.out, _, _, D, rfl, HD1.out, HO1.out⟩, HB.out⟩

end Go.Proofs.YtceabbbmgfeofaaGreatDoor.Rw
