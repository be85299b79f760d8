/-
  Contracts: impl.fragRight, impl.countDoc, impl.DocRight: whether a Doc is right, how many selections it has; of what was there nothing is changed. Conditions: in memory.
-/
import Derived.Test.YthdncjdopejkkaaDoorRows
import Derived.Test.YthdncjdopejkkaaDoorDocB
import Derived.Test.YthdncjdopejkkaaDoorImplCount
namespace Go.Proofs.YthdncjdopejkkaaDoor.Selss
open Go.RowKit Words
set_option linter.unusedVariables false
set_option maxRecDepth 100000

theorem FragsAt.take {w : World} {A B len : Nat} {b off : Nat} {l : List FragP} (h : FragsAt w A B (some ⟨b, off, none⟩) len l) {i : Nat} (hi : i < len) : FragsAt w A B (some ⟨b, off, none⟩) i (l.take i) := by
  have hl := h.1
  have hn := h.2.1
  refine ⟨by rw [List.length_take]; omega, by omega, ?_⟩
  rcases h.2.2 with rfl | ⟨b', off', ha, hA, hB, hx⟩
  · simp at hl; omega
  · exact .inr ⟨b', off', ha, hA, hB, fun j x hj => hx j x (by
      have h2 := (List.getElem?_eq_some_iff.1 hj).1
      rw [List.length_take] at h2
      rw [List.getElem?_take_of_lt (by omega)] at hj; exact hj)⟩

theorem findN_range (nm : ByteArray) : ∀ (l : List FragP) (k : Nat), findN nm l k = -1 ∨ ((k : Int) ≤ findN nm l k ∧ findN nm l k < k + l.length)
  | [], k => .inl rfl
  | x :: l, k => by
    unfold findN
    split
    · right; simp only [List.length_cons]; omega
    · rcases findN_range nm l (k + 1) with h | h
      · exact .inl h
      · right; simp only [List.length_cons]; omega
theorem findN_app (nm : ByteArray) : ∀ (l r : List FragP) (k : Nat), findN nm (l ++ r) k = if findN nm l k = -1 then findN nm r (k + l.length) else findN nm l k
  | [], r, k => by simp [findN]
  | x :: l, r, k => by
    rw [List.cons_append, findN, findN]
    split
    · rw [if_neg (by omega)]
    · rw [findN_app nm l r (k + 1), List.length_cons, show k + 1 + l.length = k + (l.length + 1) by omega]
/-- The first of its name: none ahead has it. -/
theorem findN_first {l : List FragP} {i : Nat} {x : FragP} (h : l[i]? = some x) : (findN x.name l 0 == (i : Int)) = decide (findN x.name (l.take i) 0 = -1) := by
  have hl := (List.getElem?_eq_some_iff.1 h).1
  have hn : (l.take i).length = i := by rw [List.length_take]; omega
  have e2 := findN_app x.name (l.take i) (l.drop i) 0
  rw [List.take_append_drop, hn, Nat.zero_add, findN_hit h rfl] at e2
  rcases findN_range x.name (l.take i) 0 with g | ⟨g1, g2⟩
  · rw [e2, if_pos g, g]; simp
  · rw [hn] at g2
    have g3 : findN x.name (l.take i) 0 ≠ -1 := by omega
    rw [e2, if_neg g3, decide_eq_false g3, beq_eq_false_iff_ne]; omega

theorem implFragRight (w : World) (A B : Nat) (nm on : ByteArray) (a' : Option Addr) (len' cap' : Nat) (a : Option Addr) (n cap : Nat) (l : List FragP) (hn : OkS nm) (ho : OkS on) (hs : FragsAt w A B a n l) (hB : B ≤ w.heap.size) :
    Calls Tryd.prog 63 #[.agg #[.string nm, .string on, .slice a' len' cap'], .slice a n cap] w fun e w' => e = .returned (.bool (decide (findN nm l 0 = -1) && (wordB nm && typeB on))) ∧ Below w.heap.size w w' := by
  have HF := Lib.hid hs
  have HA : Hid (∀ o, Below w.heap.size w (w.alloc o)) := Lib.hid fun o => (Below.refl _ _).alloc (Nat.le_refl _) o
  have hlen := hs.2.1
  have CW : Hid (∀ w, Calls Tryd.prog 65 #[.string nm] w fun e w' => e = .returned (.bool (wordB nm)) ∧ w = w') := Lib.hid fun w => implWordRight _ (by unfold maxLen; exact hn) w
  have CT : Hid (∀ w, Calls Tryd.prog 66 #[.string on] w fun e w' => e = .returned (.bool (typeB on)) ∧ w = w') := Lib.hid fun w => implTypeWord _ (by unfold maxLen; exact ho) w
  generalize wordB nm = p1 at *
  generalize typeB on = p2 at *
  clear hs
  go_enter Tryd.func63, Tryd.ntmps63
  go_wp2_with fail
  have k0 : (w.alloc (.cells #[.string nm, .string on, .slice a' len' cap'] 59)).cell? ⟨w.heap.size, 0, none⟩ = some (.string nm) := by simp
  have k1 : (w.alloc (.cells #[.string nm, .string on, .slice a' len' cap'] 59)).cell? ⟨w.heap.size, 1, none⟩ = some (.string on) := by simp
  go_loopw [9] (fun i wr => ∃ (i' : Nat), i' ≤ n ∧ Hid (findN nm l 0 = findN nm (l.drop i') i') ∧ i = .int .i64 i' ∧ wr.cell? ⟨w.heap.size, 0, none⟩ = some (.string nm) ∧ wr.cell? ⟨w.heap.size, 1, none⟩ = some (.string on) ∧ w.heap.size < wr.heap.size ∧ Below w.heap.size w wr) (fun i _ => n - (intOf i).toNat)
  case atStart => exact ⟨0, by omega, Lib.hid (by rw [List.drop_zero]), rfl, k0, k1, by simp, HA.out _⟩
  case round =>
    obtain ⟨i, hi, hm, rfl, hk, hk1, hz, hb⟩ := hrel
    have HB := Lib.hid hb
    clear k0 k1
    by_cases hlt : i < n
    · have hli : (i : Int) < (n : Int) := by omega
      obtain ⟨x, fb, off, a2, cap2, hd, rfl, hbb, hok, ⟨hc0, hc1, hc2⟩, hu⟩ := (HF.out.below (Nat.le_refl _) (hb.mono hB)).at hlt
      have HW : Hid (∀ o, Below w.heap.size w (wr.alloc o)) := Lib.hid fun o => HB.out.alloc HB.out.size o
      have HK0 : Hid (∀ o, (wr.alloc o).cell? ⟨w.heap.size, 0, none⟩ = some (.string nm)) := Lib.hid fun o => (((Below.refl _ wr).alloc (Nat.le_refl _) o).cell (p := ⟨w.heap.size, 0, none⟩) hz).trans hk
      have HK1 : Hid (∀ o, (wr.alloc o).cell? ⟨w.heap.size, 1, none⟩ = some (.string on)) := Lib.hid fun o => (((Below.refl _ wr).alloc (Nat.le_refl _) o).cell (p := ⟨w.heap.size, 1, none⟩) hz).trans hk1
      by_cases hx : x.name = nm
      · have hf := Lib.hid (show false = (decide (findN nm l 0 = -1) && (p1 && p2)) by rw [hm.out, findN_hit hd hx, show decide ((i : Int) = -1) = false from decide_eq_false (by omega)]; rfl)
        clear hlt hd hb hok hu
        go_wp2_with fail
        go_ret
        exact ⟨ret_bool hf.out, HW.out _⟩
      · have hn1 := toList_ne hx
        have hn2 := toList_beq hx
        have hrel := Lib.hid (hm.out.trans (findN_miss hd hx))
        clear hlt hd hb hok hu
        go_wp2_with fail
        go_roundw
        case rel => exact ⟨i + 1, by omega, hrel, by go_num, HK0.out _, HK1.out _, by simp; omega, HW.out _⟩
        case measure => simp [intOf]; omega
    · obtain rfl : i = n := by omega
      have hf : Hid ((p1 && p2) = (decide (findN nm l 0 = -1) && (p1 && p2))) := Lib.hid (by rw [hm.out, List.drop_eq_nil_of_le (by rw [HF.out.1]; exact Nat.le_refl _)]; rfl)
      clear hlt hb
      cases p1 <;> cases p2
      all_goals
        go_wp2_with (first | (go_at_call 65; refine (CW.out _).mono ?_; rintro e w' ⟨rfl, rfl⟩) | (go_at_call 66; refine (CT.out _).mono ?_; rintro e w' ⟨rfl, rfl⟩))
        go_ret
        exact ⟨ret_bool hf.out, HB.out⟩

theorem doc_first {d : DocP} (h : cntB d.sels 6 = true) (h5 : d.frags.length ≤ 5) : docB d = (decide (d.all ≤ 60) && fragsB d.frags (d.frags.drop 0) 0) := by
  unfold cntB at h
  simp only [Bool.and_eq_true, decide_eq_true_eq] at h
  unfold docB
  rw [List.drop_zero, show selsB d.sels 6 = true from h.1.2, decide_eq_true h.1.1, decide_eq_true h5]
  simp
theorem doc_first_no {d : DocP} (h : cntB d.sels 6 = false) : docB d = false := by
  unfold docB
  by_cases h1 : 0 < d.sels.len
  · by_cases h2 : d.all ≤ 60
    · have h3 : d.sels.all ≤ 60 := by unfold DocP.all at h2; omega
      unfold cntB at h
      rw [decide_eq_true h1, decide_eq_true h3] at h
      have h4 : selsB d.sels 6 = false := by simpa using h
      rw [h4]; simp
    · rw [decide_eq_false h2]; simp
  · rw [decide_eq_false h1]; simp
theorem fragAll_in {x : FragP} : ∀ {l : List FragP} {i : Nat}, l[i]? = some x → x.sels.all ≤ fragAll l
  | y :: l, 0, h => by cases h; simp only [fragAll]; omega
  | y :: l, i + 1, h => by have := fragAll_in (l := l) (i := i) (by simpa using h); simp only [fragAll]; omega
theorem frag_no {d : DocP} {i : Nat} {x : FragP} (h : d.frags[i]? = some x) (hm : docB d = (decide (d.all ≤ 60) && fragsB d.frags (d.frags.drop i) i)) (hb : cntB x.sels 6 = false ∨ (decide (findN x.name (d.frags.take i) 0 = -1) && (wordB x.name && typeB x.on)) = false) : docB d = false := by
  rw [hm, fragsB_drop h]
  by_cases h2 : d.all ≤ 60
  rotate_left
  · rw [decide_eq_false h2]; simp
  have h3 : x.sels.all ≤ 60 := by have := fragAll_in h; unfold DocP.all at h2; omega
  have hf : fragB d.frags i x = false := by
    unfold fragB
    rw [findN_first h]
    rcases hb with hb | hb
    · unfold cntB at hb
      rw [decide_eq_true h3, Bool.and_true] at hb
      rw [Bool.and_assoc, hb, Bool.and_false]
    · have e : ((wordB x.name && decide (findN x.name (d.frags.take i) 0 = -1)) && typeB x.on) = false := by
        rw [← hb, Bool.and_comm (wordB x.name), Bool.and_assoc]
      rw [e]; rfl
  rw [hf]; simp
theorem frag_yes {d : DocP} {i : Nat} {x : FragP} (h : d.frags[i]? = some x) (hm : docB d = (decide (d.all ≤ 60) && fragsB d.frags (d.frags.drop i) i)) (h1 : cntB x.sels 6 = true) (h2 : (decide (findN x.name (d.frags.take i) 0 = -1) && (wordB x.name && typeB x.on)) = true) : docB d = (decide (d.all ≤ 60) && fragsB d.frags (d.frags.drop (i + 1)) (i + 1)) := by
  have hf : fragB d.frags i x = true := by
    unfold fragB
    rw [findN_first h]
    unfold cntB at h1
    simp only [Bool.and_eq_true] at h1 h2 ⊢
    exact ⟨⟨⟨⟨h2.2.1, h2.1⟩, h2.2.2⟩, h1.1.1⟩, h1.1.2⟩
  rw [hm, fragsB_drop h, hf]; rfl

set_option maxHeartbeats 4000000 in
theorem implCountDoc (w : World) (A B : Nat) (v : Value) (d : DocP) (hs : DocAt w A B v d) (hB : B ≤ w.heap.size) :
    Calls Tryd.prog 55 #[v] w fun e w' => e = .returned (.tuple #[.int .i64 (countD d), .bool (docB d)]) ∧ Below w.heap.size w w' := by
  obtain ⟨a, ca, b, cb, rfl, hd, hf, hcap⟩ := hs
  have CS : Hid (∀ (w' : World), Below w.heap.size w w' → Calls Tryd.prog 62 #[.slice a d.sels.len ca, .int .i64 6] w' fun e w'' => e = .returned (.tuple #[.int .i64 (cntN d.sels 6), .bool (cntB d.sels 6)]) ∧ Below w'.heap.size w' w'') :=
    Lib.hid fun w' h => implCountSels (d.sels.all + 1) d.sels (Nat.lt_succ_self _) w' A B a ca 6 (hd.below hB h) (Nat.le_trans hB h.size) (by omega) (by omega)
  have HF := Lib.hid hf
  have HA : Hid (∀ o, Below w.heap.size w (w.alloc o)) := Lib.hid fun o => (Below.refl _ _).alloc (Nat.le_refl _) o
  have hlen := hf.2.1
  have hlen2 := hd.2.1
  clear hd hf
  by_cases c2 : 5 < d.frags.length
  · have hf := Lib.hid (show docB d = false by unfold docB; rw [show decide (d.frags.length ≤ 5) = false from decide_eq_false (by omega)]; simp)
    have c2i : (5 : Int) < (d.frags.length : Int) := by omega
    clear c2
    go_enter Tryd.func55, Tryd.ntmps55
    go_wp2_with fail
    go_ret2
    exact ⟨ret_ib (count_no hf.out) hf.out.symm, HA.out _⟩
  have c2i : (d.frags.length : Int) ≤ 5 := by omega
  have hfirst : Hid ((cntB d.sels 6 = true → docB d = (decide (d.all ≤ 60) && fragsB d.frags (d.frags.drop 0) 0) ∧ cntN d.sels 6 + (fragAll (d.frags.drop 0) : Int) = d.all) ∧ (cntB d.sels 6 = false → docB d = false)) :=
    Lib.hid ⟨fun h => ⟨doc_first h (by omega), by unfold cntN DocP.all; rw [if_pos h, List.drop_zero]; omega⟩, doc_first_no⟩
  have hrn := cntN_range d.sels 6
  clear c2
  generalize cntB d.sels 6 = q0 at *
  generalize cntN d.sels 6 = m0 at *
  obtain ⟨hm0, hm1⟩ := hrn
  go_enter Tryd.func55, Tryd.ntmps55
  go_wp2_with fail
  refine (CS.out _ (HA.out _)).mono ?_
  rintro e w1 ⟨rfl, hb1⟩
  obtain ⟨B1, z1, k0, k1⟩ := kstep (HA.out _) (by simp) (by simp; rfl) (by simp; rfl) hb1
  have HB1 := Lib.hid B1
  clear hb1 B1 CS
  go_wp2_with fail
  go_loopw [4, 5, 23] (fun v q i wr => ∃ (i' : Nat) (m : Int) (qb : Bool), i' ≤ d.frags.length ∧ 0 ≤ m ∧ m ≤ 60 + 60 * (i' : Int) ∧ Hid ((qb = true → docB d = (decide (d.all ≤ 60) && fragsB d.frags (d.frags.drop i') i') ∧ m + (fragAll (d.frags.drop i') : Int) = d.all) ∧ (qb = false → docB d = false)) ∧ v = .int .i64 m ∧ q = .bool qb ∧ i = .int .i64 i' ∧ wr.cell? ⟨w.heap.size, 0, none⟩ = some (.slice a d.sels.len ca) ∧ wr.cell? ⟨w.heap.size, 1, none⟩ = some (.slice b d.frags.length cb) ∧ w.heap.size < wr.heap.size ∧ Below w.heap.size w wr) (fun _ _ i _ => d.frags.length - (intOf i).toNat)
  case atStart => exact ⟨0, m0, q0, by omega, hm0, by omega, hfirst, rfl, rfl, rfl, k0, k1, z1, HB1.out⟩
  case round =>
    obtain ⟨i, m, qb, hi, hmm0, hmm1, hm, rfl, rfl, rfl, hk0, hk1, hz, hb⟩ := hrel
    have HB := Lib.hid hb
    clear k0 k1 z1 hfirst HB1 hm0 hm1
    by_cases hlt : i < d.frags.length
    · have hli : (i : Int) < (d.frags.length : Int) := by omega
      obtain ⟨x, fb, off, a', cap', hd, rfl, hbb, hox, ⟨hc0, hc1, hc2⟩, hu⟩ := (HF.out.below (Nat.le_refl _) (hb.mono hB)).at hlt
      have hul := hu.2.1
      have HU := Lib.hid hu
      have HOX := Lib.hid hox
      have CX : Hid (∀ (w' : World), Below wr.heap.size wr w' → Calls Tryd.prog 62 #[.slice a' x.sels.len cap', .int .i64 6] w' fun e w'' => e = .returned (.tuple #[.int .i64 (cntN x.sels 6), .bool (cntB x.sels 6)]) ∧ Below w'.heap.size w' w'') :=
        Lib.hid fun w' h => implCountSels (x.sels.all + 1) x.sels (Nat.lt_succ_self _) w' A B a' cap' 6 (HU.out.below (Nat.le_trans hB HB.out.size) h) (Nat.le_trans (Nat.le_trans hB HB.out.size) h.size) (by omega) (by omega)
      have HFT : Hid (FragsAt w A B (some ⟨fb, off, none⟩) i (d.frags.take i)) := Lib.hid (HF.out.take hlt)
      have CF : Hid (∀ (w' : World), Below w.heap.size w w' → Calls Tryd.prog 63 #[.agg #[.string x.name, .string x.on, .slice a' x.sels.len cap'], .slice (some ⟨fb, off, none⟩) i cb] w' fun e w'' => e = .returned (.bool (decide (findN x.name (d.frags.take i) 0 = -1) && (wordB x.name && typeB x.on))) ∧ Below w'.heap.size w' w'') :=
        Lib.hid fun w' h => implFragRight w' A B x.name x.on a' x.sels.len cap' _ i cb (d.frags.take i) HOX.out.1 HOX.out.2 (HFT.out.below hB h) (Nat.le_trans hB h.size)
      have hst := Lib.hid (fragAll_drop hd)
      have hrx := cntN_range x.sels 6
      have hcx : Hid (cntB x.sels 6 = true → cntN x.sels 6 = x.sels.all) := Lib.hid fun h => by unfold cntN; rw [if_pos h]
      have hno : Hid (docB d = (decide (d.all ≤ 60) && fragsB d.frags (d.frags.drop i) i) → cntB x.sels 6 = false ∨ (decide (findN x.name (d.frags.take i) 0 = -1) && (wordB x.name && typeB x.on)) = false → docB d = false) := Lib.hid fun h1 h2 => frag_no hd h1 h2
      have hyes : Hid (docB d = (decide (d.all ≤ 60) && fragsB d.frags (d.frags.drop i) i) → cntB x.sels 6 = true → (decide (findN x.name (d.frags.take i) 0 = -1) && (wordB x.name && typeB x.on)) = true → docB d = (decide (d.all ≤ 60) && fragsB d.frags (d.frags.drop (i + 1)) (i + 1))) := Lib.hid fun h1 h2 h3 => frag_yes hd h1 h2 h3
      clear hlt hd hb hu hox
      generalize cntB x.sels 6 = cq at *
      generalize cntN x.sels 6 = cn at *
      generalize (decide (findN x.name (d.frags.take i) 0 = -1) && (wordB x.name && typeB x.on)) = fr at *
      obtain ⟨hn0, hn1⟩ := hrx
      have HA4 : Hid (∀ o, Below wr.heap.size wr (wr.alloc o)) := Lib.hid fun o => (Below.refl _ _).alloc (Nat.le_refl _) o
      go_wp2_with fail
      refine (CX.out _ (HA4.out _)).mono ?_
      rintro e w4 ⟨rfl, hb4⟩
      have HX4 := (HA4.out _).trans (hb4.mono (HA4.out _).size)
      have q0 := hb4.cell (p := ⟨wr.heap.size, 0, none⟩) (by simp)
      have q1 := hb4.cell (p := ⟨wr.heap.size, 1, none⟩) (by simp)
      have q2 := hb4.cell (p := ⟨wr.heap.size, 2, none⟩) (by simp)
      simp at q0 q1 q2
      obtain ⟨B4, z4, hk04, hk14⟩ := kstep HB.out hz hk0 hk1 HX4
      have HB4 := Lib.hid B4
      clear hb4 hk0 hk1 HX4 B4 HA4 CX
      cases qb
      · have hfalse : Hid (docB d = false) := Lib.hid (hm.out.2 rfl)
        go_wp2_with fail
        go_region
        go_wp2_with fail
        go_roundw
        case rel => exact ⟨i + 1, m + cn, false, by omega, by omega, by omega, Lib.hid ⟨fun h => (by cases h), fun _ => hfalse.out⟩, by go_num, rfl, by go_num, hk04, hk14, z4, HB4.out.drew⟩
        case measure => simp [intOf]; omega
      cases cq
      · have hfalse : Hid (docB d = false) := Lib.hid (hno.out (hm.out.1 rfl).1 (.inl rfl))
        go_wp2_with fail
        go_region
        go_wp2_with fail
        go_roundw
        case rel => exact ⟨i + 1, m + cn, false, by omega, by omega, by omega, Lib.hid ⟨fun h => (by cases h), fun _ => hfalse.out⟩, by go_num, rfl, by go_num, hk04, hk14, z4, HB4.out.drew⟩
        case measure => simp [intOf]; omega
      have hcapi : (i : Int) ≤ (cb : Int) := by omega
      have hrel : Hid ((fr = true → docB d = (decide (d.all ≤ 60) && fragsB d.frags (d.frags.drop (i + 1)) (i + 1)) ∧ m + cn + (fragAll (d.frags.drop (i + 1)) : Int) = d.all) ∧ (fr = false → docB d = false)) := Lib.hid ⟨fun h => ⟨hyes.out (hm.out.1 rfl).1 rfl h, by have e1 := (hm.out.1 rfl).2; have e2 := hst.out; have e3 := hcx.out rfl; omega⟩, fun h => hno.out (hm.out.1 rfl).1 (.inr h)⟩
      go_wp2_with fail
      have HB4d := Lib.hid HB4.out.drew
      go_region_with (go_at_call 63; refine (CF.out _ HB4d.out).mono ?_; rintro e w5 ⟨rfl, hb5⟩)
      all_goals
        have HB5 := Lib.hid (HB4d.out.trans (hb5.mono HB4d.out.size))
        have hk05 := kcell hb5 z4 hk04
        have hk15 := kcell hb5 z4 hk14
        have z5 : w.heap.size < w5.heap.size := Nat.lt_of_lt_of_le z4 hb5.size
        clear hb5 hk04 hk14 q0 q1 q2 hno hyes hcx hm CF
        go_wp2_with fail
        go_roundw
        case rel => exact ⟨i + 1, m + cn, fr, by omega, by omega, by omega, hrel, by go_num, by simp, by go_num, hk05, hk15, z5, HB5.out⟩
        case measure => simp [intOf]; omega
    · obtain rfl : i = d.frags.length := by omega
      have hall : Hid (qb = true → docB d = decide (d.all ≤ 60) ∧ m = d.all) := Lib.hid fun h => by
        have ⟨e1, e2⟩ := hm.out.1 h
        rw [List.drop_length] at e1 e2
        simp only [fragAll] at e2
        exact ⟨by rw [e1]; unfold fragsB; simp, by omega⟩
      have hno : Hid (qb = false → docB d = false) := Lib.hid hm.out.2
      clear hlt hb hm
      cases qb
      · have hf := Lib.hid (hno.out rfl)
        go_wp2_with fail
        go_ret2
        exact ⟨ret_ib (count_no hf.out) hf.out.symm, HB.out⟩
      by_cases hmx : 60 < m
      · have hf : Hid (docB d = false) := Lib.hid (by rw [(hall.out rfl).1, decide_eq_false]; have := (hall.out rfl).2; omega)
        go_wp2_with fail
        go_ret2
        exact ⟨ret_ib (count_no hf.out) hf.out.symm, HB.out⟩
      have hmy : m ≤ 60 := by omega
      have hf : Hid (docB d = true) := Lib.hid (by rw [(hall.out rfl).1, decide_eq_true]; have := (hall.out rfl).2; omega)
      have hc : Hid (m = countD d) := Lib.hid (by unfold countD; rw [if_pos hf.out]; exact (hall.out rfl).2)
      clear hmx
      go_wp2_with fail
      go_ret2
      exact ⟨ret_ib hc.out hf.out.symm, HB.out⟩

theorem implDocRight (w : World) (A B : Nat) (v : Value) (d : DocP) (hs : DocAt w A B v d) (hB : B ≤ w.heap.size) :
    Calls Tryd.prog 38 #[v] w fun e w' => e = .returned (.bool (docB d)) ∧ Below w.heap.size w w' := by
  have CA : Hid (∀ w' : World, Below w.heap.size w w' → Calls Tryd.prog 55 #[v] w' fun e w'' => e = .returned (.tuple #[.int .i64 (countD d), .bool (docB d)]) ∧ Below w'.heap.size w' w'') := Lib.hid fun w' h => implCountDoc w' A B v d (hs.below hB h) (Nat.le_trans hB h.size)
  obtain ⟨a, ca, b, cb, rfl, _, _⟩ := hs
  have HA : Hid (∀ o, Below w.heap.size w (w.alloc o)) := Lib.hid fun o => (Below.refl _ _).alloc (Nat.le_refl _) o
  generalize countD d = cn at *
  generalize docB d = db at *
  go_enter Tryd.func38, Tryd.ntmps38
  go_wp2_with fail
  refine (CA.out _ (HA.out _)).mono ?_
  rintro e w1 ⟨rfl, hb1⟩
  have HB1 := Lib.hid ((HA.out _).trans (hb1.mono (HA.out _).size))
  clear hb1
  go_wp2_with fail
  go_ret
  exact ⟨rfl, HB1.out⟩
end Go.Proofs.YthdncjdopejkkaaDoor.Selss
