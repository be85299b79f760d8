/-
  Contracts: spec.l03Frag tells the place of a Frag; spec.DocRight whether a Doc is right; of what was there nothing is changed. Conditions: in memory.
-/
import Derived.Test.YthdncjdopejkkaaDoorRows
import Derived.Test.YthdncjdopejkkaaDoorSelsB
import Derived.Lib.Strings
namespace Go.Proofs.YthdncjdopejkkaaDoor.Selss
open Go.RowKit Words
set_option linter.unusedVariables false
set_option maxRecDepth 100000

/-- The place of the first Frag of a name, or -1. -/
def findN (nm : ByteArray) : List FragP → Nat → Int
  | [], _ => -1
  | x :: l, k => if x.name = nm then (k : Int) else findN nm l (k + 1)
theorem findN_hit {nm : ByteArray} {l : List FragP} {i : Nat} {x : FragP} (h : l[i]? = some x) (hx : x.name = nm) : findN nm (l.drop i) i = i := by
  obtain ⟨hl, rfl⟩ := List.getElem?_eq_some_iff.1 h
  rw [List.drop_eq_getElem_cons hl, findN, if_pos hx]
theorem findN_miss {nm : ByteArray} {l : List FragP} {i : Nat} {x : FragP} (h : l[i]? = some x) (hx : x.name ≠ nm) : findN nm (l.drop i) i = findN nm (l.drop (i + 1)) (i + 1) := by
  obtain ⟨hl, rfl⟩ := List.getElem?_eq_some_iff.1 h
  rw [List.drop_eq_getElem_cons hl, findN, if_neg hx]

theorem toList_ne {a b : ByteArray} (h : a ≠ b) : a.toList ≠ b.toList := fun e => h (by
  rw [Lib.toList_data, Lib.toList_data] at e
  exact ByteArray.ext (Array.toList_inj.1 e))
theorem toList_beq {a b : ByteArray} (h : a ≠ b) : (a.toList == b.toList) = false := by
  rw [beq_eq_false_iff_ne]; exact toList_ne h
theorem specFrag (w : World) (A B : Nat) (v : Value) (d : DocP) (nm : ByteArray) (hn : OkS nm) (hs : DocAt w A B v d) (hB : B ≤ w.heap.size) :
    Calls Tryd.prog 29 #[v, .string nm] w fun e w' => e = .returned (.int .i64 (findN nm d.frags 0)) ∧ Below w.heap.size w w' := by
  obtain ⟨a, ca, b, cb, rfl, hd, hf, _⟩ := hs
  have HF := Lib.hid hf
  have HA : Hid (∀ o, Below w.heap.size w (w.alloc o)) := Lib.hid fun o => (Below.refl _ _).alloc (Nat.le_refl _) o
  have hlen := hf.2.1
  clear hd hf
  go_enter Tryd.func29, Tryd.ntmps29
  go_wp2_with fail
  have k1 : (w.alloc (.cells #[.slice a d.sels.len ca, .slice b d.frags.length cb] 31)).cell? ⟨w.heap.size, 1, none⟩ = some (.slice b d.frags.length cb) := by simp
  go_loopw [5] (fun i wr => ∃ (i' : Nat), i' ≤ d.frags.length ∧ Hid (findN nm d.frags 0 = findN nm (d.frags.drop i') i') ∧ i = .int .i64 i' ∧ wr.cell? ⟨w.heap.size, 1, none⟩ = some (.slice b d.frags.length cb) ∧ w.heap.size < wr.heap.size ∧ Below w.heap.size w wr) (fun i _ => d.frags.length - (intOf i).toNat)
  case atStart => exact ⟨0, by omega, Lib.hid (by rw [List.drop_zero]), rfl, k1, by simp, HA.out _⟩
  case round =>
    obtain ⟨i, hi, hm, rfl, hk, hz, hb⟩ := hrel
    have HB := Lib.hid hb
    clear k1
    by_cases hlt : i < d.frags.length
    · have hli : (i : Int) < (d.frags.length : Int) := by omega
      obtain ⟨x, fb, off, a', cap', hd, rfl, hbb, hok, ⟨hc0, hc1, hc2⟩, hu⟩ := (HF.out.below (Nat.le_refl _) (hb.mono hB)).at hlt
      by_cases hx : x.name = nm
      · have hf := Lib.hid (hm.out.trans (findN_hit hd hx))
        clear hlt hd hb hok hc1 hc2 hu
        go_wp2_with fail
        go_ret
        exact ⟨ret_i hf.out.symm, HB.out⟩
      · have hn1 := toList_ne hx
        have hn2 := toList_beq hx
        have hrel := Lib.hid (hm.out.trans (findN_miss hd hx))
        clear hlt hd hb hok hc1 hc2 hu
        go_wp2_with fail
        go_roundw
        case rel => exact ⟨i + 1, by omega, hrel, by go_num, hk, hz, HB.out⟩
        case measure => simp [intOf]; omega
    · obtain rfl : i = d.frags.length := by omega
      have hf : Hid (findN nm d.frags 0 = -1) := Lib.hid (by rw [hm.out, List.drop_length]; rfl)
      clear hlt hb
      go_wp2_with fail
      go_ret
      exact ⟨ret_i hf.out.symm, HB.out⟩

/-- Whether Frag x at place i of l is right. -/
noncomputable def fragB (l : List FragP) (i : Nat) (x : FragP) : Bool :=
  (((wordB x.name && (findN x.name l 0 == (i : Int))) && typeB x.on) && decide (0 < x.sels.len)) && selsB x.sels 6
noncomputable def fragsB (l : List FragP) : List FragP → Nat → Bool
  | [], _ => true
  | x :: r, i => fragB l i x && fragsB l r (i + 1)
theorem fragsB_drop {l : List FragP} {i : Nat} {x : FragP} (h : l[i]? = some x) : fragsB l (l.drop i) i = (fragB l i x && fragsB l (l.drop (i + 1)) (i + 1)) := by
  obtain ⟨hl, rfl⟩ := List.getElem?_eq_some_iff.1 h
  rw [List.drop_eq_getElem_cons hl, fragsB]
/-- Whether a Doc is right. -/
noncomputable def docB (d : DocP) : Bool :=
  (((decide (0 < d.sels.len) && decide (d.frags.length ≤ 5)) && decide (d.all ≤ 60)) && selsB d.sels 6) && fragsB d.frags d.frags 0
theorem upto_big (d : DocP) : 60 < d.upto ↔ 60 < d.all := by unfold DocP.upto; split <;> omega

theorem frags_no {x y a c : Bool} (h : x = y) (h1 : y = (a && c)) (ha : a = false) : x = false := by rw [h, h1, ha]; rfl
theorem frags_yes {x y a c : Bool} (h : x = y) (h1 : y = (a && c)) (ha : a = true) : x = c := by rw [h, h1, ha]; simp
set_option maxRecDepth 100000 in
set_option maxHeartbeats 4000000 in
theorem specDocRight (w : World) (A B : Nat) (v : Value) (d : DocP) (hs : DocAt w A B v d) (hB : B ≤ w.heap.size) :
    Calls Tryd.prog 14 #[v] w fun e w' => e = .returned (.bool (docB d)) ∧ Below w.heap.size w w' := by
  have CA : Hid (∀ w' : World, Below w.heap.size w w' → Calls Tryd.prog 26 #[v] w' fun e w'' => e = .returned (.int .i64 d.upto) ∧ Below w'.heap.size w' w'') := Lib.hid fun w' h => specAll w' A B v d (hs.below hB h) (Nat.le_trans hB h.size)
  have CF : Hid (∀ (w' : World) (nm : ByteArray), OkS nm → Below w.heap.size w w' → Calls Tryd.prog 29 #[v, .string nm] w' fun e w'' => e = .returned (.int .i64 (findN nm d.frags 0)) ∧ Below w'.heap.size w' w'') := Lib.hid fun w' nm hn h => specFrag w' A B v d nm hn (hs.below hB h) (Nat.le_trans hB h.size)
  obtain ⟨a, ca, b, cb, rfl, hd, hf, _⟩ := hs
  have CS : Hid (∀ (w' : World), Below w.heap.size w w' → Calls Tryd.prog 27 #[.slice a d.sels.len ca, .int .i64 6] w' fun e w'' => e = .returned (.bool (selsB d.sels 6)) ∧ Below w'.heap.size w' w'') :=
    Lib.hid fun w' h => specSels (d.sels.all + 1) d.sels (Nat.lt_succ_self _) w' A B a ca 6 (hd.below hB h) (Nat.le_trans hB h.size) (by omega) (by omega)
  have HF := Lib.hid hf
  have HA : Hid (∀ o, Below w.heap.size w (w.alloc o)) := Lib.hid fun o => (Below.refl _ _).alloc (Nat.le_refl _) o
  have hlen := hf.2.1
  have hlen2 := hd.2.1
  clear hd hf
  by_cases c1 : d.sels.len = 0
  · have hf := Lib.hid (show docB d = false by unfold docB; rw [show decide (0 < d.sels.len) = false from decide_eq_false (by omega)]; simp)
    have c1i : (d.sels.len : Int) = 0 := by omega
    clear c1
    go_enter Tryd.func14, Tryd.ntmps14
    go_wp2_with fail
    go_ret
    exact ⟨ret_bool hf.out.symm, HA.out _⟩
  have c1i : 0 < (d.sels.len : Int) := by omega
  have c1b : ((d.sels.len : Int) == 0) = false := by rw [beq_eq_false_iff_ne]; omega
  by_cases c2 : 5 < d.frags.length
  · have hf := Lib.hid (show docB d = false by unfold docB; rw [show decide (d.frags.length ≤ 5) = false from decide_eq_false (by omega)]; simp)
    have c2i : (5 : Int) < (d.frags.length : Int) := by omega
    clear c2
    go_enter Tryd.func14, Tryd.ntmps14
    go_wp2_with fail
    go_ret
    exact ⟨ret_bool hf.out.symm, HA.out _⟩
  have c2i : (d.frags.length : Int) ≤ 5 := by omega
  have hub := upto_big d
  by_cases c3 : 60 < d.upto
  · have hf := Lib.hid (show docB d = false by unfold docB; rw [show decide (d.all ≤ 60) = false from decide_eq_false (by omega)]; simp)
    clear c2 hub
    generalize d.upto = up at *
    go_enter Tryd.func14, Tryd.ntmps14
    go_wp2_with (go_at_call 26; refine (CA.out _ (HA.out _)).mono ?_; rintro e w1 ⟨rfl, hb1⟩)
    have HB1 := Lib.hid ((HA.out _).trans (hb1.mono (HA.out _).size))
    clear hb1
    go_ret
    exact ⟨ret_bool hf.out.symm, HB1.out⟩
  have c3i : d.upto ≤ 60 := by omega
  have hok : Hid (docB d = (selsB d.sels 6 && fragsB d.frags d.frags 0)) := Lib.hid (by
    unfold docB; rw [show decide (0 < d.sels.len) = true from decide_eq_true (by omega), show decide (d.frags.length ≤ 5) = true from decide_eq_true (by omega), show decide (d.all ≤ 60) = true from decide_eq_true (by omega)]; simp)
  clear c2 c3 hub
  go_enter Tryd.func14, Tryd.ntmps14
  go_wp2_with fail
  refine (CA.out _ (HA.out _)).mono ?_
  rintro e w1 ⟨rfl, hb1⟩
  have HB1 := Lib.hid ((HA.out _).trans (hb1.mono (HA.out _).size))
  have k0 := hb1.cell (p := ⟨w.heap.size, 0, none⟩) (by simp)
  have k1 := hb1.cell (p := ⟨w.heap.size, 1, none⟩) (by simp)
  simp at k0 k1
  have hz1 : w.heap.size < w1.heap.size := by have := hb1.size; simp at this; omega
  clear hb1
  go_wp2_with fail
  refine (CS.out _ HB1.out).mono ?_
  rintro e w2 ⟨rfl, hb2⟩
  have HB2 := Lib.hid (HB1.out.trans (hb2.mono HB1.out.size))
  have k2 := (hb2.cell (p := ⟨w.heap.size, 0, none⟩) hz1).trans k0
  have k3 := (hb2.cell (p := ⟨w.heap.size, 1, none⟩) hz1).trans k1
  have hz2 : w.heap.size < w2.heap.size := Nat.lt_of_lt_of_le hz1 hb2.size
  clear hb2 k0 k1 hz1
  generalize selsB d.sels 6 = sb at *
  cases sb
  · have hf : Hid (docB d = false) := Lib.hid hok.out
    go_wp2_with fail
    go_ret
    exact ⟨ret_bool hf.out.symm, HB2.out⟩
  have hf0 : Hid (docB d = fragsB d.frags (d.frags.drop 0) 0) := Lib.hid (by rw [hok.out, List.drop_zero]; rfl)
  clear hok CS CA
  go_wp2_with fail
  go_loopw [3] (fun i wr => ∃ (i' : Nat), i' ≤ d.frags.length ∧ Hid (docB d = fragsB d.frags (d.frags.drop i') i') ∧ i = .int .i64 i' ∧ wr.cell? ⟨w.heap.size, 0, none⟩ = some (.slice a d.sels.len ca) ∧ wr.cell? ⟨w.heap.size, 1, none⟩ = some (.slice b d.frags.length cb) ∧ w.heap.size < wr.heap.size ∧ Below w.heap.size w wr) (fun i _ => d.frags.length - (intOf i).toNat)
  case atStart => exact ⟨0, by omega, hf0, rfl, k2, k3, hz2, HB2.out⟩
  case round =>
    obtain ⟨i, hi, hm, rfl, hk0, hk1, hz, hb⟩ := hrel
    have HB := Lib.hid hb
    clear k2 k3 hz2 hf0 HB2 HB1
    by_cases hlt : i < d.frags.length
    · have hli : (i : Int) < (d.frags.length : Int) := by omega
      obtain ⟨x, fb, off, a', cap', hd, rfl, hbb, hox, ⟨hc0, hc1, hc2⟩, hu⟩ := (HF.out.below (Nat.le_refl _) (hb.mono hB)).at hlt
      have hst := Lib.hid (fragsB_drop hd)
      have hul := hu.2.1
      have HU := Lib.hid hu
      have HOX := Lib.hid hox
      have CX : Hid (∀ (w' : World), Below wr.heap.size wr w' → Calls Tryd.prog 27 #[.slice a' x.sels.len cap', .int .i64 6] w' fun e w'' => e = .returned (.bool (selsB x.sels 6)) ∧ Below w'.heap.size w' w'') :=
        Lib.hid fun w' h => specSels (x.sels.all + 1) x.sels (Nat.lt_succ_self _) w' A B a' cap' 6 (HU.out.below (Nat.le_trans hB HB.out.size) h) (Nat.le_trans (Nat.le_trans hB HB.out.size) h.size) (by omega) (by omega)
      have CW : Hid (∀ w, Calls Tryd.prog 28 #[.string x.name] w fun e w' => e = .returned (.bool (wordB x.name)) ∧ w = w') := Lib.hid fun w => specWordRight _ (by unfold maxLen; exact HOX.out.1) w
      have CT : Hid (∀ w, Calls Tryd.prog 30 #[.string x.on] w fun e w' => e = .returned (.bool (typeB x.on)) ∧ w = w') := Lib.hid fun w => specTypeWord _ (by unfold maxLen; exact HOX.out.2) w
      have hfb : Hid (fragB d.frags i x = ((((wordB x.name && (findN x.name d.frags 0 == (i : Int))) && typeB x.on) && decide (0 < x.sels.len)) && selsB x.sels 6)) := Lib.hid rfl
      have CN : Hid (∀ (w' : World), Below w.heap.size w w' → Calls Tryd.prog 29 #[.agg #[.slice a d.sels.len ca, .slice (some ⟨fb, off, none⟩) d.frags.length cb], .string x.name] w' fun e w'' => e = .returned (.int .i64 (findN x.name d.frags 0)) ∧ Below w'.heap.size w' w'') := Lib.hid fun w' h => CF.out w' x.name HOX.out.1 h
      generalize wordB x.name = p1 at *
      generalize typeB x.on = p2 at *
      generalize findN x.name d.frags 0 = fn at *
      generalize selsB x.sels 6 = p3 at *
      clear hlt hd hb hu hox CF
      have HA3 : Hid (∀ o, Below w.heap.size w (wr.alloc o)) := Lib.hid fun o => HB.out.alloc HB.out.size o
      have HA4 : Hid (∀ o, Below wr.heap.size wr (wr.alloc o)) := Lib.hid fun o => (Below.refl _ _).alloc (Nat.le_refl _) o
      cases p1
      · have ho : Hid (docB d = false) := Lib.hid (frags_no hm.out hst.out (by rw [hfb.out]; simp))
        go_wp2_with (go_at_call 28; refine (CW.out _).mono ?_; rintro e w' ⟨rfl, rfl⟩)
        go_ret
        exact ⟨ret_bool ho.out.symm, HA3.out _⟩
      go_wp2_with (go_at_call 28; refine (CW.out _).mono ?_; rintro e w' ⟨rfl, rfl⟩)
      refine (CN.out _ (HA3.out _)).mono ?_
      rintro e w4 ⟨rfl, hb4⟩
      have HB4 := Lib.hid ((HA3.out _).trans (hb4.mono (HA3.out _).size))
      have HX4 := Lib.hid ((HA4.out _).trans (hb4.mono (HA4.out _).size))
      have q0 := hb4.cell (p := ⟨wr.heap.size, 0, none⟩) (by simp)
      have q1 := hb4.cell (p := ⟨wr.heap.size, 1, none⟩) (by simp)
      have q2 := hb4.cell (p := ⟨wr.heap.size, 2, none⟩) (by simp)
      simp at q0 q1 q2
      have hk04 := (HX4.out.cell (p := ⟨w.heap.size, 0, none⟩) hz).trans hk0
      have hk14 := (HX4.out.cell (p := ⟨w.heap.size, 1, none⟩) hz).trans hk1
      have hz4 : w.heap.size < w4.heap.size := Nat.lt_of_lt_of_le hz HX4.out.size
      clear hb4 hk0 hk1
      by_cases hfi : fn = (i : Int)
      rotate_left
      · have ho : Hid (docB d = false) := Lib.hid (frags_no hm.out hst.out (by rw [hfb.out, show (fn == (i : Int)) = false from by rw [beq_eq_false_iff_ne]; exact hfi]; simp))
        have hfj : (fn == (i : Int)) = false := by rw [beq_eq_false_iff_ne]; exact hfi
        go_wp2_with fail
        go_ret
        exact ⟨ret_bool ho.out.symm, HB4.out⟩
      subst hfi
      cases p2
      · have ho : Hid (docB d = false) := Lib.hid (frags_no hm.out hst.out (by rw [hfb.out]; simp))
        go_wp2_with (go_at_call 30; refine (CT.out _).mono ?_; rintro e w' ⟨rfl, rfl⟩)
        go_ret
        exact ⟨ret_bool ho.out.symm, HB4.out⟩
      by_cases hxl : x.sels.len = 0
      · have ho : Hid (docB d = false) := Lib.hid (frags_no hm.out hst.out (by rw [hfb.out, show decide (0 < x.sels.len) = false from decide_eq_false (by omega)]; simp))
        have hxi : (x.sels.len : Int) = 0 := by omega
        have hxj : ((x.sels.len : Int) == 0) = true := by rw [hxi]; rfl
        go_wp2_with (go_at_call 30; refine (CT.out _).mono ?_; rintro e w' ⟨rfl, rfl⟩)
        go_ret
        exact ⟨ret_bool ho.out.symm, HB4.out⟩
      have hxi : (0 : Int) < (x.sels.len : Int) := by omega
      have hxj : ((x.sels.len : Int) == 0) = false := by rw [beq_eq_false_iff_ne]; omega
      go_wp2_with (go_at_call 30; refine (CT.out _).mono ?_; rintro e w' ⟨rfl, rfl⟩)
      refine (CX.out _ HX4.out).mono ?_
      rintro e w5 ⟨rfl, hb5⟩
      have HB5 := Lib.hid (HB4.out.trans (hb5.mono HB4.out.size))
      have hk05 := (hb5.cell (p := ⟨w.heap.size, 0, none⟩) hz4).trans hk04
      have hk15 := (hb5.cell (p := ⟨w.heap.size, 1, none⟩) hz4).trans hk14
      have hz5 : w.heap.size < w5.heap.size := Nat.lt_of_lt_of_le hz4 hb5.size
      clear hb5 hk04 hk14 q0 q1 q2
      cases p3
      · have ho : Hid (docB d = false) := Lib.hid (frags_no hm.out hst.out (by rw [hfb.out]; simp))
        go_wp2_with fail
        go_ret
        exact ⟨ret_bool ho.out.symm, HB5.out⟩
      have hrel : Hid (docB d = fragsB d.frags (d.frags.drop (i + 1)) (i + 1)) := Lib.hid (frags_yes hm.out hst.out (by rw [hfb.out, show decide (0 < x.sels.len) = true from decide_eq_true (by omega)]; simp))
      go_wp2_with fail
      go_roundw
      case rel => exact ⟨i + 1, by omega, hrel, by go_num, hk05, hk15, hz5, HB5.out⟩
      case measure => simp [intOf]; omega
    · obtain rfl : i = d.frags.length := by omega
      have hf : Hid (docB d = true) := Lib.hid (by rw [hm.out, List.drop_length]; rfl)
      clear hlt hb
      go_wp2_with fail
      go_ret
      exact ⟨ret_bool hf.out.symm, HB.out⟩

/-- How many selections a right Doc has; else 0. -/
noncomputable def countD (d : DocP) : Int := if docB d = true then (d.all : Int) else 0
theorem count_no {d : DocP} (h : docB d = false) : (0 : Int) = countD d := by unfold countD; rw [h]; rfl
theorem count_yes {d : DocP} (h : docB d = true) : d.upto = countD d := by
  have : d.all ≤ 60 := by
    unfold docB at h
    simp only [Bool.and_eq_true, decide_eq_true_eq] at h
    exact h.1.1.2
  unfold countD DocP.upto
  rw [if_pos this, if_pos h]
end Go.Proofs.YthdncjdopejkkaaDoor.Selss
