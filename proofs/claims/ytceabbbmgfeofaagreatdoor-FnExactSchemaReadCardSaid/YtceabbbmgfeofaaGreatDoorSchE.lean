/-
  What is right of what there is, plainly; and a contract: spec.SchemaRight answers so; of what was there nothing is changed. Conditions: in memory.
-/
import Derived.Test.YtceabbbmgfeofaaGreatDoorRows
import Derived.Test.YtceabbbmgfeofaaGreatDoorSchD
namespace Go.Proofs.YtceabbbmgfeofaaGreatDoor.Rw
open Go.RowKit Words
set_option linter.unusedVariables false
set_option maxRecDepth 100000

/-- Whether no type has this name. -/
def freshB (nm : ByteArray) : List TypeP → Bool
  | [] => true
  | x :: l => if x.name = nm then false else freshB nm l
theorem fresh_hit {nm : ByteArray} {l : List TypeP} {i : Nat} {x : TypeP} (h : l[i]? = some x) (hx : x.name = nm) : freshB nm (l.drop i) = false := by
  obtain ⟨hl, rfl⟩ := List.getElem?_eq_some_iff.1 h
  rw [List.drop_eq_getElem_cons hl, freshB, if_pos hx]
theorem fresh_miss {nm : ByteArray} {l : List TypeP} {i : Nat} {x : TypeP} (h : l[i]? = some x) (hx : x.name ≠ nm) : freshB nm (l.drop i) = freshB nm (l.drop (i + 1)) := by
  obtain ⟨hl, rfl⟩ := List.getElem?_eq_some_iff.1 h
  rw [List.drop_eq_getElem_cons hl, freshB, if_neg hx]
noncomputable def typeOkB (s : List TypeP) (i : Nat) (x : TypeP) : Bool := (typeB x.name && partB s x) && freshB x.name (s.take i)
noncomputable def typesAll (s : List TypeP) : List TypeP → Nat → Bool
  | [], _ => true
  | x :: r, i => typeOkB s i x && typesAll s r (i + 1)
theorem typesAll_drop {s l : List TypeP} {i : Nat} {x : TypeP} (h : l[i]? = some x) : typesAll s (l.drop i) i = (typeOkB s i x && typesAll s (l.drop (i + 1)) (i + 1)) := by
  obtain ⟨hl, rfl⟩ := List.getElem?_eq_some_iff.1 h
  rw [List.drop_eq_getElem_cons hl, typesAll]
def headKind : List TypeP → Int
  | [] => 0
  | x :: _ => x.kind
/-- Whether a schema is right. -/
noncomputable def schemaB (s : List TypeP) : Bool := ((decide (1 ≤ s.length) && decide (s.length ≤ 12)) && (headKind s == 2)) && typesAll s s 0

set_option maxHeartbeats 4000000 in
theorem specSchemaRight (w : World) (A B : Nat) (v : Value) (s : List TypeP) (hv : SchemaAt w A B v s) (hB : B ≤ w.heap.size) :
    Calls Tryz.prog 52 #[v] w fun e w' => e = .returned (.bool (schemaB s)) ∧ Below w.heap.size w w' := by
  have CP : Hid (∀ (w' : World) (u : Value) (t : TypeP), TypeAt w' A B u t → Below w.heap.size w w' → Calls Tryz.prog 103 #[v, u] w' fun e w'' => e = .returned (.bool (partB s t)) ∧ Below w'.heap.size w' w'') := Lib.hid fun w' u t hu h => specPart w' A B v s (hv.below hB h) u t hu (Nat.le_trans hB h.size)
  obtain ⟨a, ca, rfl, hd, hcv⟩ := hv
  have hlen := hd.2.1
  have HS := Lib.hid hd
  have HA : Hid (∀ o1, Below w.heap.size w (w.alloc o1)) := Lib.hid fun o1 => (Below.refl _ _).alloc (Nat.le_refl _) o1
  have hS0 := Lib.hid (show schemaB s = (((decide (1 ≤ s.length) && decide (s.length ≤ 12)) && (headKind s == 2)) && typesAll s s 0) from rfl)
  clear hd
  by_cases c1 : s.length < 1
  · have hf := Lib.hid (show schemaB s = false by rw [hS0.out]; simp [show ¬ 1 ≤ s.length by omega])
    have c1i : (s.length : Int) < 1 := by omega
    clear c1
    go_enter Tryz.func52, Tryz.ntmps52
    go_wp2_with fail
    go_ret
    exact ⟨ret_bool hf.out.symm, HA.out _⟩
  have c1i : ¬ (s.length : Int) < 1 := by omega
  have c1j : 1 ≤ (s.length : Int) := by omega
  by_cases c2 : 12 < s.length
  · have hf := Lib.hid (show schemaB s = false by rw [hS0.out]; simp [show ¬ s.length ≤ 12 by omega])
    have c2i : (12 : Int) < (s.length : Int) := by omega
    clear c1 c2
    go_enter Tryz.func52, Tryz.ntmps52
    go_wp2_with fail
    go_ret
    exact ⟨ret_bool hf.out.symm, HA.out _⟩
  have c2i : ¬ (12 : Int) < (s.length : Int) := by omega
  have c2j : (s.length : Int) ≤ 12 := by omega
  obtain ⟨x0, hx0⟩ : ∃ x, s[0]? = some x := ⟨s[0], List.getElem?_eq_getElem (by omega)⟩
  obtain ⟨x1, b, off, hd, rfl, hAb, hbb, hok, a1, ca1, cm, ccm, hc, h2, h3⟩ := HS.out.at (i := 0) (by omega)
  obtain rfl : x1 = x0 := by rw [hd] at hx0; cases hx0; rfl
  obtain ⟨d0, d1, d2, d3, d4⟩ := row5 hc
  rw [Nat.zero_mul, Nat.add_zero] at d0 d1 d2 d3 d4
  have hhk := Lib.hid (show headKind s = x1.kind by
    obtain ⟨hl, rfl⟩ := List.getElem?_eq_some_iff.1 hd
    cases s with
    | nil => simp at hl
    | cons y l => rfl)
  obtain ⟨_, ⟨k1, k2⟩, _⟩ := hok
  obtain ⟨xk, hxk⟩ : ∃ k, x1.kind = k := ⟨_, rfl⟩
  rw [hxk] at hhk d1 k1 k2
  obtain ⟨e1, he1⟩ : ∃ p, (xk == 2) = p := ⟨_, rfl⟩
  have hbw : b < w.heap.size := by omega
  clear hx0 hc h2 h3 hxk d0 d2 d3 d4 hd
  cases e1
  · have hf := Lib.hid (show schemaB s = false by rw [hS0.out, hhk.out, he1]; simp)
    have hk : ¬ xk = 2 := by simpa using he1
    clear c1 c2
    go_enter Tryz.func52, Tryz.ntmps52
    go_wp2_with fail
    go_ret
    exact ⟨ret_bool hf.out.symm, HA.out _⟩
  have hk2 : (xk != 2) = false := by simp [bne, he1]
  have hS := Lib.hid (show schemaB s = typesAll s s 0 by rw [hS0.out, hhk.out, he1]; simp [show 1 ≤ s.length by omega, show s.length ≤ 12 by omega])
  clear hS0 hhk c1 c2
  go_enter Tryz.func52, Tryz.ntmps52
  go_wp2_with fail
  clear d1
  have k0 := heap_alloc_new w (.cells #[.slice (some ⟨b, off, none⟩) s.length ca] 25)
  go_loopw [3] (fun i wr => ∃ (i' : Nat), i' ≤ s.length ∧ Hid (typesAll s s 0 = typesAll s (s.drop i') i') ∧ i = .int .i64 i' ∧ wr.heap[w.heap.size]? = some (.cells #[.slice (some ⟨b, off, none⟩) s.length ca] 25 (0, 0)) ∧ Below w.heap.size w wr) (fun i _ => s.length - (intOf i).toNat)
  case atStart => exact ⟨0, by omega, Lib.hid (by rw [List.drop_zero]), rfl, k0, HA.out _⟩
  case round =>
    obtain ⟨i, hi, hm, rfl, hk0, hb⟩ := hrel
    have HB := Lib.hid hb
    clear k0
    have ⟨j0, _⟩ := keep1 hk0
    by_cases hlt : i < s.length
    · have hli : (i : Int) < (s.length : Int) := by omega
      obtain ⟨x, b', off', hd, he, hA', hbb', hok, a1, ca1, cm, ccm, hc, h2, h3⟩ := (HS.out.below typeLies (Nat.le_refl _) (hb.mono hB)).at hlt
      cases he
      obtain ⟨d0, d1, d2, d3, d4⟩ := row5 hc
      have hst := Lib.hid (typesAll_drop (s := s) hd)
      have HD := Lib.hid hd
      have HOK := Lib.hid hok
      have HX : Hid (TypeAt wr A B (.agg #[.string x.name, .int .i64 x.kind, .int .i64 x.bytes, .slice a1 x.fields.length ca1, .slice cm x.members.length ccm]) x) := Lib.hid ⟨a1, ca1, cm, ccm, rfl, hok, h2, h3⟩
      obtain ⟨p1, hp1⟩ : ∃ p, typeB x.name = p := ⟨_, rfl⟩
      obtain ⟨p2, hp2⟩ : ∃ p, partB s x = p := ⟨_, rfl⟩
      have HTB := Lib.hid (show typeOkB s i x = ((p1 && p2) && freshB x.name (s.take i)) by unfold typeOkB; rw [hp1, hp2])
      have C1 : Hid (∀ w, Calls Tryz.prog 102 #[.string x.name] w fun e w' => e = .returned (.bool p1) ∧ w = w') := Lib.hid fun w => by rw [← hp1]; exact specTypeWord _ (by unfold maxLen; exact HOK.out.1) w
      have HAA : Hid (∀ o, Below w.heap.size w (wr.alloc o)) := Lib.hid fun o => HB.out.alloc HB.out.size o
      have C2 : Hid (∀ o, Calls Tryz.prog 103 #[.agg #[.slice (some ⟨b, off, none⟩) s.length ca], .agg #[.string x.name, .int .i64 x.kind, .int .i64 x.bytes, .slice a1 x.fields.length ca1, .slice cm x.members.length ccm]] (wr.alloc o) fun e w' => e = .returned (.bool p2) ∧ Below (wr.alloc o).heap.size (wr.alloc o) w') := Lib.hid fun o => by
        rw [← hp2]; exact CP.out _ _ x (HX.out.below (C := wr.heap.size) (Nat.le_trans hB HB.out.size) ((Below.refl _ _).alloc (Nat.le_refl _) o)) (HAA.out o)
      have hl0 := lt_of_get hk0
      have hkf := Lib.hid ((Go.Deep.blk_alloc_lt wr (.cells #[.string x.name, .int .i64 x.kind, .int .i64 x.bytes, .slice a1 x.fields.length ca1, .slice cm x.members.length ccm] 48) w.heap.size hl0).trans hk0)
      have hnew := Lib.hid (heap_alloc_new wr (.cells #[.string x.name, .int .i64 x.kind, .int .i64 x.bytes, .slice a1 x.fields.length ca1, .slice cm x.members.length ccm] 48))
      have hoksz := hok.1
      unfold OkS at hoksz
      have HSI := Lib.hid (show s.take i = s.take i from rfl)
      clear hp1 hp2 hok hc h2 h3 hd hb hlt
      cases p1
      · have ho := Lib.hid (show typeOkB s i x = false from HTB.out)
        go_wp2_with (first
          | (go_at_call 102; refine (C1.out _).mono ?_; rintro e w' ⟨rfl, rfl⟩)
          | (go_at_call 103; refine (C2.out _).mono ?_; rintro e w1 ⟨rfl, hb1⟩))
        go_ret
        exact ⟨ret_bool (by rw [hS.out, all_no hm.out hst.out ho.out]), HAA.out _⟩
      cases p2
      · have ho := Lib.hid (show typeOkB s i x = false from HTB.out)
        go_wp2_with (first
          | (go_at_call 102; refine (C1.out _).mono ?_; rintro e w' ⟨rfl, rfl⟩)
          | (go_at_call 103; refine (C2.out _).mono ?_; rintro e w1 ⟨rfl, hb1⟩))
        go_ret
        exact ⟨ret_bool (by rw [hS.out, all_no hm.out hst.out ho.out]), (HAA.out _).trans (hb1.mono (HAA.out _).size)⟩
      · go_wp2_with (first
          | (go_at_call 102; refine (C1.out _).mono ?_; rintro e w' ⟨rfl, rfl⟩)
          | (go_at_call 103; refine (C2.out _).mono ?_; rintro e w1 ⟨rfl, hb1⟩))
        have HB1 := Lib.hid ((HAA.out _).trans (hb1.mono (HAA.out _).size))
        have hk1 := (hb1.block w.heap.size (by simp; omega)).trans hkf.out
        have ht1 := (hb1.block wr.heap.size (by simp)).trans hnew.out
        have hwr1 : wr.heap.size < w1.heap.size := lt_of_get ht1
        clear hb1
        go_loopw [5] (fun k wk => ∃ (k' : Nat), k' ≤ i ∧ Hid (freshB x.name (s.take i) = freshB x.name ((s.take i).drop k')) ∧ k = .int .i64 k' ∧ wk.heap[w.heap.size]? = some (.cells #[.slice (some ⟨b, off, none⟩) s.length ca] 25 (0, 0)) ∧ wk.heap[wr.heap.size]? = some (.cells #[.string x.name, .int .i64 x.kind, .int .i64 x.bytes, .slice a1 x.fields.length ca1, .slice cm x.members.length ccm] 48 (0, 0)) ∧ Below w.heap.size w wk) (fun k _ => i - (intOf k).toNat)
        case atStart => exact ⟨0, by omega, Lib.hid (by rw [List.drop_zero]), rfl, hk1, ht1, HB1.out⟩
        case round =>
          obtain ⟨k, hki, hfr, rfl, hk2', ht2, hbk⟩ := hrel
          have HBK := Lib.hid hbk
          have ⟨q0, _⟩ := keep1 hk2'
          have ⟨⟨t0, t1, t2, t3, t4⟩, _⟩ := keep5 ht2
          by_cases hlk : k < i
          · have hlki : (k : Int) < (i : Int) := by omega
            have hlks : (k : Int) < (s.length : Int) := by omega
            obtain ⟨y, b'', off'', hdy, hey, _, hby, hoky, a2, ca2, cm2, ccm2, hcy, _, _⟩ := (HS.out.below typeLies (Nat.le_refl _) (hbk.mono hB)).at (i := k) (by omega)
            cases hey
            obtain ⟨f0, _, _, _, _⟩ := row5 hcy
            have hdy2 : (s.take i)[k]? = some y := by rw [List.getElem?_take_of_lt hlk]; exact hdy
            by_cases hx : y.name = x.name
            · have ho := Lib.hid (show typeOkB s i x = false by rw [HTB.out, hfr.out, fresh_hit hdy2 hx]; rfl)
              have HXE := Lib.hid hx
              rw [hx] at f0
              clear hx hlk hdy hoky hcy hdy2 hbk
              go_wp2_with fail
              go_region
              go_wp2_with fail
              go_ret
              exact ⟨ret_bool (by rw [hS.out, all_no hm.out hst.out ho.out]), HBK.out.drew⟩
            · have hn1 := toList_ne hx
              have hn2 := toList_beq hx
              have hrel := Lib.hid (hfr.out.trans (fresh_miss hdy2 hx))
              clear hlk hdy hoky hcy hdy2 hbk
              go_wp2_with fail
              go_region
              go_wp2_with fail
              go_roundw
              case rel => exact ⟨k + 1, by omega, hrel, by go_num, hk2', ht2, HBK.out.drew⟩
              case measure => simp [intOf]; omega
          · obtain rfl : k = i := by omega
            have ho := Lib.hid (show typeOkB s k x = true by
              rw [HTB.out, hfr.out, List.drop_eq_nil_of_le (by rw [List.length_take]; omega)]; rfl)
            clear hlk hbk
            go_wp2_with fail
            go_roundw
            case rel => exact ⟨k + 1, by omega, Lib.hid (all_yes hm.out hst.out ho.out), by go_num, hk2', HBK.out⟩
            case measure => simp [intOf]; omega
    · obtain rfl : i = s.length := by omega
      have hf : Hid (schemaB s = true) := Lib.hid (by rw [hS.out, hm.out, List.drop_length]; rfl)
      clear hlt hb
      go_wp2_with fail
      go_ret
      exact ⟨ret_bool hf.out.symm, HB.out⟩
end Go.Proofs.YtceabbbmgfeofaaGreatDoor.Rw
