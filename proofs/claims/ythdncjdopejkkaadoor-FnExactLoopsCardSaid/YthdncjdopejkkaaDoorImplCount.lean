/-
  Contracts: impl.selRight, impl.countSel, impl.countSels: what a selection may be, how many there are if they may be so; of what was there nothing is changed. Conditions: in memory.
-/
import Derived.Test.YthdncjdopejkkaaDoorRows
import Derived.Test.YthdncjdopejkkaaDoorSelsB
import Derived.Test.YthdncjdopejkkaaDoorImplWord
namespace Go.Proofs.YthdncjdopejkkaaDoor.Selss
open Go.RowKit Words
set_option linter.unusedVariables false
set_option maxRecDepth 100000

set_option maxHeartbeats 4000000 in
theorem implSelRight (w : World) (k : Int) (key nm : ByteArray) (f : Int) (a : Option Addr) (cap n : Nat) (hok : OkI k ∧ OkS key ∧ OkS nm ∧ OkI f) (hn : n ≤ 9223372036854775807) :
    Calls Tryd.prog 67 #[.agg #[.int .i64 k, .string key, .string nm, .int .i64 f, .slice a n cap]] w fun e w' => e = .returned (.bool (oneB k key nm f n)) ∧ Below w.heap.size w w' := by
  have HA : Hid (∀ o, Below w.heap.size w (w.alloc o)) := Lib.hid fun o => (Below.refl _ _).alloc (Nat.le_refl _) o
  obtain ⟨hk, hkey, hnm, hf⟩ := hok
  unfold OkI at hk hf
  obtain ⟨p1, hp1⟩ : ∃ p, wordB key = p := ⟨_, rfl⟩
  obtain ⟨p2, hp2⟩ : ∃ p, wordB nm = p := ⟨_, rfl⟩
  obtain ⟨p3, hp3⟩ : ∃ p, typeB nm = p := ⟨_, rfl⟩
  have C1 : Hid (∀ w, Calls Tryd.prog 65 #[.string key] w fun e w' => e = .returned (.bool p1) ∧ w = w') := Lib.hid fun w => by rw [← hp1]; exact implWordRight _ (by unfold maxLen; exact hkey) w
  have C2 : Hid (∀ w, Calls Tryd.prog 65 #[.string nm] w fun e w' => e = .returned (.bool p2) ∧ w = w') := Lib.hid fun w => by rw [← hp2]; exact implWordRight _ (by unfold maxLen; exact hnm) w
  have C3 : Hid (∀ w, Calls Tryd.prog 66 #[.string nm] w fun e w' => e = .returned (.bool p3) ∧ w = w') := Lib.hid fun w => by rw [← hp3]; exact implTypeWord _ (by unfold maxLen; exact hnm) w
  have HP : Hid (wordB key = p1 ∧ wordB nm = p2 ∧ typeB nm = p3) := Lib.hid ⟨hp1, hp2, hp3⟩
  clear hp1 hp2 hp3
  have e4 : Hid (((key.toList == []) = true ∧ key.toList = []) ∨ ((key.toList == []) = false ∧ key.toList ≠ [])) := Lib.hid (by
    by_cases h : key.toList = []
    · exact .inl ⟨by rw [h]; rfl, h⟩
    · exact .inr ⟨beq_eq_false_iff_ne.2 h, h⟩)
  have e5 : Hid ((f = -1 ∧ (f == -1) = true) ∨ (f ≠ -1 ∧ (f == -1) = false)) := Lib.hid (by
    by_cases h : f = -1
    · exact .inl ⟨h, by rw [h]; rfl⟩
    · exact .inr ⟨h, beq_eq_false_iff_ne.2 h⟩)
  have e6 : Hid (((n : Int) = 0 ∧ n = 0 ∧ ((n : Int) == 0) = true) ∨ (0 < (n : Int) ∧ n ≠ 0 ∧ ((n : Int) == 0) = false)) := Lib.hid (by
    by_cases h : n = 0
    · exact .inl ⟨by omega, h, by rw [h]; rfl⟩
    · exact .inr ⟨by omega, h, beq_eq_false_iff_ne.2 (by omega)⟩)
  by_cases k1 : k = 1
  · subst k1
    have e1 := Lib.hid (show oneB 1 key nm f n = (p1 && (p2 && (decide (-1 ≤ f) && decide (f ≤ 100)))) by rw [oneB_1, HP.out.1, HP.out.2.1])
    rcases (show f < -1 ∨ (-1 ≤ f ∧ f ≤ 100) ∨ 100 < f by omega) with f1 | ⟨f1, f2⟩ | f1
    all_goals cases p1 <;> cases p2
    all_goals
      go_enter Tryd.func67, Tryd.ntmps67
      go_wp2_with (first | (go_at_call 65; with_reducible refine (C1.out _).mono ?_; rintro e w' ⟨rfl, rfl⟩) | (go_at_call 65; with_reducible refine (C2.out _).mono ?_; rintro e w' ⟨rfl, rfl⟩))
      all_goals go_ret
      all_goals exact ⟨ret_bool (by rw [e1.out]; simp <;> omega), HA.out _⟩
  by_cases k2 : k = 2
  · subst k2
    have e1 := Lib.hid (show oneB 2 key nm f n = ((key.toList == []) && (p3 && ((f == -1) && decide (0 < n)))) by rw [oneB_2, HP.out.2.2])
    rcases e4.out with ⟨hke, hkf⟩ | ⟨hke, hkf⟩ <;> cases p3
    all_goals rcases e5.out with ⟨f1, f2⟩ | ⟨f1, f2⟩
    all_goals rcases e6.out with ⟨n1, n2, n3⟩ | ⟨n1, n2, n3⟩
    all_goals
      go_enter Tryd.func67, Tryd.ntmps67
      go_wp2_with (go_at_call 66; with_reducible refine (C3.out _).mono ?_; rintro e w' ⟨rfl, rfl⟩)
      all_goals go_ret
      all_goals exact ⟨ret_bool (by rw [e1.out]; first | (simp_all; done) | (simp_all; omega)), HA.out _⟩
  by_cases k3 : k = 3
  · subst k3
    have e1 := Lib.hid (show oneB 3 key nm f n = ((key.toList == []) && (p2 && ((f == -1) && decide (n = 0)))) by rw [oneB_3, HP.out.2.1])
    rcases e4.out with ⟨hke, hkf⟩ | ⟨hke, hkf⟩ <;> cases p2
    all_goals rcases e5.out with ⟨f1, f2⟩ | ⟨f1, f2⟩
    all_goals rcases e6.out with ⟨n1, n2, n3⟩ | ⟨n1, n2, n3⟩
    all_goals
      go_enter Tryd.func67, Tryd.ntmps67
      go_wp2_with (go_at_call 65; with_reducible refine (C2.out _).mono ?_; rintro e w' ⟨rfl, rfl⟩)
      all_goals go_ret
      all_goals exact ⟨ret_bool (by rw [e1.out]; first | (simp_all; done) | (simp_all; omega)), HA.out _⟩
  have e1 := Lib.hid (oneB_other k1 k2 k3 key nm f n)
  have k4 : (k == 1) = false := by rw [beq_eq_false_iff_ne]; exact k1
  have k5 : (k == 2) = false := by rw [beq_eq_false_iff_ne]; exact k2
  have k6 : (k == 3) = false := by rw [beq_eq_false_iff_ne]; exact k3
  go_enter Tryd.func67, Tryd.ntmps67
  go_wp2_with fail
  all_goals go_ret
  all_goals exact ⟨ret_bool e1.out.symm, HA.out _⟩

/-- Selections that may be so deep, not none, not too many. -/
noncomputable def cntB (s : Sels) (d : Int) : Bool := (decide (0 < s.len) && selsB s d) && decide (s.all ≤ 60)
noncomputable def cntN (s : Sels) (d : Int) : Int := if cntB s d = true then (s.all : Int) else 0
theorem cntN_range (s : Sels) (d : Int) : 0 ≤ cntN s d ∧ cntN s d ≤ 60 := by
  unfold cntN; split
  · rename_i h; simp [cntB] at h; omega
  · omega
theorem ret_ib {n m : Int} {a b : Bool} (h : n = m) (g : a = b) : Ending.returned (.tuple #[.int .i64 n, .bool a]) = .returned (.tuple #[.int .i64 m, .bool b]) := by rw [h, g]
/-- Whether one selection may be so deep. -/
noncomputable def selB (k : Int) (key nm : ByteArray) (f : Int) (u : Sels) (d : Int) : Bool := oneB k key nm f u.len && (decide (u.len = 0) || cntB u (d - 1))

theorem implCountSel (w : World) (A B : Nat) (hB : B ≤ w.heap.size) (k : Int) (key nm : ByteArray) (f : Int) (a : Option Addr) (cap : Nat) (u : Sels) (d : Int) (h1 : 1 ≤ d) (h6 : d ≤ 60)
    (ih : ∀ (w : World) (d : Int), SelsAt w A B a u.len u → B ≤ w.heap.size → 0 ≤ d → d ≤ 60 → Calls Tryd.prog 62 #[.slice a u.len cap, .int .i64 d] w fun e w' => e = .returned (.tuple #[.int .i64 (cntN u d), .bool (cntB u d)]) ∧ Below w.heap.size w w')
    (hs : SelsAt w A B a u.len u) (hok : OkI k ∧ OkS key ∧ OkS nm ∧ OkI f) :
    Calls Tryd.prog 64 #[.agg #[.int .i64 k, .string key, .string nm, .int .i64 f, .slice a u.len cap], .int .i64 d] w fun e w' => (∃ n : Int, 0 ≤ n ∧ n ≤ 61 ∧ (selB k key nm f u d = true → n = (u.all : Int) + 1) ∧ e = .returned (.tuple #[.int .i64 n, .bool (selB k key nm f u d)])) ∧ Below w.heap.size w w' := by
  have hul := hs.2.1
  have CS : Hid (∀ w, Calls Tryd.prog 67 #[.agg #[.int .i64 k, .string key, .string nm, .int .i64 f, .slice a u.len cap]] w fun e w' => e = .returned (.bool (oneB k key nm f u.len)) ∧ Below w.heap.size w w') := Lib.hid fun w => implSelRight w k key nm f a cap u.len hok hul
  have HA : Hid (∀ o, Below w.heap.size w (w.alloc o)) := Lib.hid fun o => (Below.refl _ _).alloc (Nat.le_refl _) o
  have IH : Hid (∀ (w' : World), Below w.heap.size w w' → Calls Tryd.prog 62 #[.slice a u.len cap, .int .i64 (d - 1)] w' fun e w'' => e = .returned (.tuple #[.int .i64 (cntN u (d - 1)), .bool (cntB u (d - 1))]) ∧ Below w'.heap.size w' w'') :=
    Lib.hid fun w' h => ih w' (d - 1) (hs.below hB h) (Nat.le_trans hB h.size) (by omega) (by omega)
  have hrn := cntN_range u (d - 1)
  have hyes : Hid (cntB u (d - 1) = true → cntN u (d - 1) = u.all) := Lib.hid fun h => by unfold cntN; rw [if_pos h]
  have hnil : Hid (u.len = 0 → u.all = 0) := Lib.hid fun h => by cases u with
    | nil => rfl
    | cons _ _ _ _ _ _ => simp [Sels.len] at h
  have hsel := Lib.hid (show selB k key nm f u d = (oneB k key nm f u.len && (decide (u.len = 0) || cntB u (d - 1))) from rfl)
  clear ih hs hok
  generalize selB k key nm f u d = sb at *
  generalize oneB k key nm f u.len = ob at *
  generalize cntB u (d - 1) = cb at *
  generalize cntN u (d - 1) = cn at *
  obtain ⟨c0, c1⟩ := hrn
  cases ob
  · have hf := Lib.hid (show false = sb by rw [hsel.out]; rfl)
    go_enter Tryd.func64, Tryd.ntmps64
    go_wp2_with fail
    refine (CS.out _).mono ?_
    rintro e w1 ⟨rfl, hb1⟩
    have HB1 := Lib.hid ((HA.out _).trans (hb1.mono (HA.out _).size))
    clear hb1
    go_wp2_with fail
    go_ret2
    exact ⟨⟨0, by omega, by omega, fun h => (by rw [← hf.out] at h; cases h), ret_ib rfl hf.out⟩, HB1.out⟩
  go_enter Tryd.func64, Tryd.ntmps64
  go_wp2_with fail
  refine (CS.out _).mono ?_
  rintro e w1 ⟨rfl, hb1⟩
  have HB1 := Lib.hid ((HA.out _).trans (hb1.mono (HA.out _).size))
  have k4 := hb1.cell (p := ⟨w.heap.size, 4, none⟩) (by simp)
  simp at k4
  clear hb1
  by_cases hz : u.len = 0
  · have hf := Lib.hid (show true = sb by rw [hsel.out, hz]; rfl)
    have hall := hnil.out hz
    have hzi : (u.len : Int) = 0 := by omega
    clear hz
    go_wp2_with fail
    go_ret2
    exact ⟨⟨1, by omega, by omega, fun _ => by omega, ret_ib rfl hf.out⟩, HB1.out⟩
  have hzi : 0 < (u.len : Int) := by omega
  have hzb : ((u.len : Int) == 0) = false := by rw [beq_eq_false_iff_ne]; omega
  have hf := Lib.hid (show cb = sb by rw [hsel.out]; simp [hz])
  clear hz
  go_wp2_with fail
  refine (IH.out _ HB1.out).mono ?_
  rintro e w2 ⟨rfl, hb2⟩
  have HB2 := Lib.hid (HB1.out.trans (hb2.mono HB1.out.size))
  clear hb2 k4
  go_wp2_with fail
  go_ret2
  exact ⟨⟨1 + cn, by omega, by omega, fun h => by have := hyes.out (by rw [hf.out]; exact h); omega, ret_ib rfl hf.out⟩, HB2.out⟩

theorem cnt_none {s : Sels} {d : Int} (h : s.len = 0) : cntB s d = false := by simp [cntB, h]
theorem cnt_many {s : Sels} {d : Int} (h : 60 < s.all) : cntB s d = false := by unfold cntB; rw [show decide (s.all ≤ 60) = false from decide_eq_false (by omega)]; simp
theorem cnt_not {s : Sels} {d : Int} (h : selsB s d = false) : cntB s d = false := by unfold cntB; rw [h]; simp
theorem cnt_N {s : Sels} {d : Int} (h : cntB s d = false) : (0 : Int) = cntN s d := by unfold cntN; rw [h]; rfl
theorem sels_deep {s : Sels} {d : Int} (h : 0 < s.len) (hd : d ≤ 0) : selsB s d = false := by
  cases s with
  | nil => simp [Sels.len] at h
  | cons k key nm f u r => simp only [selsB]; rw [show decide (0 < d) = false from decide_eq_false (by omega)]; simp
/-- A selection that may not be so: not all may. -/
theorem cnt_sub {i : Nat} {s : Sels} {k : Int} {key nm : ByteArray} {f : Int} {u r : Sels} {d : Int} (h : s.drop i = .cons k key nm f u r) (hm : selsB s d = selsB (s.drop i) d) (hb : selB k key nm f u d = false) : cntB s d = false := by
  have hall : u.all < s.all := Sels.all_drop h
  by_cases ho : oneB k key nm f u.len = true
  rotate_left
  · refine cnt_not ?_
    rw [hm, selsB_step h]
    have : oneB k key nm f u.len = false := by simpa using ho
    rw [this]; simp
  · unfold selB at hb
    rw [ho] at hb
    simp only [Bool.true_and, Bool.or_eq_false_iff, decide_eq_false_iff_not] at hb
    obtain ⟨h1, h2⟩ := hb
    by_cases hmany : 60 < u.all
    · exact cnt_many (by omega)
    · refine cnt_not ?_
      rw [hm, selsB_step h]
      unfold cntB at h2
      rw [show decide (0 < u.len) = true from decide_eq_true (by omega), show decide (u.all ≤ 60) = true from decide_eq_true (by omega)] at h2
      have h3 : selsB u (d - 1) = false := by simpa using h2
      rw [h3]; simp
/-- One that may: what is left to ask is asked of those behind it. -/
theorem cnt_on {i : Nat} {s : Sels} {k : Int} {key nm : ByteArray} {f : Int} {u r : Sels} {d : Int} (h : s.drop i = .cons k key nm f u r) (hm : selsB s d = selsB (s.drop i) d) (hd : 1 ≤ d) (hb : selB k key nm f u d = true) : selsB s d = selsB (s.drop (i + 1)) d := by
  rw [hm, selsB_step h]
  unfold selB at hb
  simp only [Bool.and_eq_true, Bool.or_eq_true, decide_eq_true_eq] at hb
  obtain ⟨h1, h2⟩ := hb
  rw [h1, show decide (0 < d) = true from decide_eq_true (by omega)]
  have h3 : selsB u (d - 1) = true := by
    rcases h2 with h2 | h2
    · cases u with
      | nil => rfl
      | cons _ _ _ _ _ _ => simp [Sels.len] at h2
    · unfold cntB at h2
      simp only [Bool.and_eq_true] at h2
      exact h2.1.2
  rw [h3]; simp

theorem implCountSels : ∀ (n : Nat) (s : Sels), s.all < n → ∀ (w : World) (A B : Nat) (a : Option Addr) (cap : Nat) (d : Int), SelsAt w A B a s.len s → B ≤ w.heap.size → 0 ≤ d → d ≤ 60 →
    Calls Tryd.prog 62 #[.slice a s.len cap, .int .i64 d] w fun e w' => e = .returned (.tuple #[.int .i64 (cntN s d), .bool (cntB s d)]) ∧ Below w.heap.size w w' := by
  intro n
  induction n with
  | zero => intro s h; omega
  | succ n ih =>
    intro s hall w A B a cap d hs hB h0 h60
    have hlen := hs.2.1
    have IH := Lib.hid ih
    have HS := Lib.hid hs
    clear ih hs
    by_cases hz : s.len = 0
    · have hf := Lib.hid (cnt_none (d := d) hz)
      have hzi : (s.len : Int) = 0 := by omega
      have hzb : ((s.len : Int) == 0) = true := by rw [hzi]; rfl
      clear hz
      go_enter Tryd.func62, Tryd.ntmps62
      go_wp2_with fail
      go_ret2
      exact ⟨ret_ib (cnt_N hf.out) hf.out.symm, Below.refl _ _⟩
    have hzi : 0 < (s.len : Int) := by omega
    have hzb : ((s.len : Int) == 0) = false := by rw [beq_eq_false_iff_ne]; omega
    by_cases hd : d = 0
    · have hf := Lib.hid (cnt_not (d := d) (sels_deep (s := s) (by omega) (by omega)))
      have hd0 : (d == 0) = true := by rw [hd]; rfl
      clear hz
      go_enter Tryd.func62, Tryd.ntmps62
      go_wp2_with fail
      go_ret2
      exact ⟨ret_ib (cnt_N hf.out) hf.out.symm, Below.refl _ _⟩
    have hd1 : 1 ≤ d := by omega
    have hd0 : (d == 0) = false := by rw [beq_eq_false_iff_ne]; exact hd
    have HZ := Lib.hid (show 0 < s.len by omega)
    clear hz hd
    go_enter Tryd.func62, Tryd.ntmps62
    go_wp2_with fail
    go_loopw [6, 20] (fun v i wr => ∃ (i' : Nat) (m : Int), i' ≤ s.len ∧ 0 ≤ m ∧ m ≤ 60 ∧ Hid (m + ((s.drop i').all : Int) = s.all) ∧ Hid (selsB s d = selsB (s.drop i') d) ∧ v = .int .i64 m ∧ i = .int .i64 i' ∧ Below w.heap.size w wr) (fun _ i _ => s.len - (intOf i).toNat)
    case atStart => exact ⟨0, 0, by omega, by omega, by omega, Lib.hid (by rw [Sels.drop_zero]; omega), Lib.hid (by rw [Sels.drop_zero]), rfl, rfl, Below.refl _ _⟩
    case round =>
      obtain ⟨i, m, hi, hm0, hm1, hm, hmb, rfl, rfl, hb⟩ := hrel
      have HB := Lib.hid hb
      by_cases hlt : i < s.len
      · have hli : (i : Int) < (s.len : Int) := by omega
        obtain ⟨k, key, nm, f, u, r, b, off, a', cap', hd, rfl, hbb, hok, ⟨hc0, hc1, hc2, hc3, hc4⟩, hu⟩ := (HS.out.below (Nat.le_refl _) (hb.mono hB)).at hlt
        have hua : u.all < n := by have := Sels.all_drop hd; omega
        have hst := Lib.hid (Sels.all_step hd)
        have HU := Lib.hid hu
        have CS : Hid (∀ w' : World, Below wr.heap.size wr w' → Calls Tryd.prog 64 #[.agg #[.int .i64 k, .string key, .string nm, .int .i64 f, .slice a' u.len cap'], .int .i64 d] w' fun e w'' => (∃ n : Int, 0 ≤ n ∧ n ≤ 61 ∧ (selB k key nm f u d = true → n = (u.all : Int) + 1) ∧ e = .returned (.tuple #[.int .i64 n, .bool (selB k key nm f u d)])) ∧ Below w'.heap.size w' w'') :=
          Lib.hid fun w' h => implCountSel w' A B (Nat.le_trans (Nat.le_trans hB HB.out.size) h.size) k key nm f a' cap' u d hd1 h60 (fun w d h1 h2 h3 h4 => IH.out u hua w A B a' cap' d h1 h2 h3 h4) (HU.out.below (Nat.le_trans hB HB.out.size) h) hok
        have hno : Hid (selB k key nm f u d = false → cntB s d = false) := Lib.hid fun h => cnt_sub hd hmb.out h
        have hyes : Hid (selB k key nm f u d = true → selsB s d = selsB (s.drop (i + 1)) d) := Lib.hid fun h => cnt_on hd hmb.out hd1 h
        have HA : Hid (∀ o, Below wr.heap.size wr (wr.alloc o)) := Lib.hid fun o => (Below.refl _ _).alloc (Nat.le_refl _) o
        clear hlt hd hb hu hok hmb
        generalize selB k key nm f u d = sb at *
        go_wp2_with fail
        refine (CS.out _ (HA.out _)).mono ?_
        rintro e w1 ⟨⟨x, x0, x1, hx, rfl⟩, hb1⟩
        have HX := Lib.hid hx
        have HB1 := Lib.hid (HB.out.trans (((HA.out _).trans (hb1.mono (HA.out _).size)).mono HB.out.size))
        clear hb1 hx
        cases sb
        · have hf := Lib.hid (hno.out rfl)
          go_wp2_with fail
          go_ret2
          exact ⟨ret_ib (cnt_N hf.out) hf.out.symm, HB1.out⟩
        have hxe := Lib.hid (HX.out rfl)
        have hrel2 := Lib.hid (hyes.out rfl)
        have hrel : Hid (m + x + ((s.drop (i + 1)).all : Int) = s.all) := Lib.hid (by have e1 := hm.out; have e2 := hst.out; have e3 := hxe.out; omega)
        by_cases hmx : 60 < m + x
        · have hf := Lib.hid (cnt_many (d := d) (s := s) (by have := hrel.out; omega))
          go_wp2_with fail
          go_ret2
          exact ⟨ret_ib (cnt_N hf.out) hf.out.symm, HB1.out⟩
        have hmy : m + x ≤ 60 := by omega
        clear hmx
        go_wp2_with fail
        go_roundw
        case rel => exact ⟨i + 1, m + x, by omega, by omega, hmy, hrel, hrel2, by go_num, by go_num, HB1.out⟩
        case measure => simp [intOf]; omega
      · obtain rfl : i = s.len := by omega
        have hall := Lib.hid (show m = s.all by have e1 := hm.out; rw [Sels.drop_end (Nat.le_refl _)] at e1; simp only [Sels.all] at e1; omega)
        have hf : Hid (cntB s d = true) := Lib.hid (by
          unfold cntB
          rw [hmb.out, Sels.drop_end (Nat.le_refl _), show decide (0 < s.len) = true from decide_eq_true HZ.out, show decide (s.all ≤ 60) = true from decide_eq_true (by have := hall.out; omega)]; rfl)
        clear hlt hb
        go_wp2_with fail
        go_ret2
        exact ⟨ret_ib (by unfold cntN; rw [if_pos hf.out]; exact hall.out) hf.out.symm, HB.out⟩
end Go.Proofs.YthdncjdopejkkaaDoor.Selss
