/-
  Contracts: spec.l03Sels says whether selections may be; of what was there nothing is changed. Conditions: in memory.
-/
import Derived.Test.YthdncjdopejkkaaDoorRows
import Derived.Test.YthdncjdopejkkaaDoorLeft
import Derived.Test.YthdncjdopejkkaaDoorWord
namespace Go.Proofs.YthdncjdopejkkaaDoor.Selss
open Go.RowKit Words
set_option linter.unusedVariables false

theorem specIs (n lo hi : Int) (hn : OkI n) (hlo : OkI lo) (hhi : OkI hi) (w : World) :
    Calls Tryd.prog 46 #[.int .i64 n, .int .i64 lo, .int .i64 hi] w fun e w' => e = .returned (.bool (decide (lo ≤ n) && decide (n ≤ hi))) ∧ w = w' := by
  unfold OkI at hn hlo hhi
  go_enter Tryd.func46, Tryd.ntmps46
  go_wp2_with fail
  all_goals go_ret
  all_goals exact ⟨ret_bool (by simp_all <;> omega), rfl⟩

/-- What one selection may be, beside what is within it. -/
noncomputable def oneB (k : Int) (key nm : ByteArray) (f : Int) (n : Nat) : Bool :=
  (k == 1 && (wordB key && (wordB nm && (decide (-1 ≤ f) && decide (f ≤ 100))))) ||
  (k == 2 && ((key.toList == []) && (typeB nm && ((f == -1) && decide (0 < n))))) ||
  (k == 3 && ((key.toList == []) && (wordB nm && ((f == -1) && decide (n = 0)))))
/-- What selections may be, so deep. -/
noncomputable def selsB : Sels → Int → Bool
  | .nil, _ => true
  | .cons k key nm f u r, deep => ((oneB k key nm f u.len && decide (0 < deep)) && selsB u (deep - 1)) && selsB r deep
theorem selsB_step {i : Nat} {s : Sels} {k : Int} {key nm : ByteArray} {f : Int} {u r : Sels} (h : s.drop i = .cons k key nm f u r) (deep : Int) : selsB (s.drop i) deep = (((oneB k key nm f u.len && decide (0 < deep)) && selsB u (deep - 1)) && selsB (s.drop (i + 1)) deep) := by
  rw [Sels.drop_succ i s h, h]; rfl

theorem oneB_1 (key nm : ByteArray) (f : Int) (n : Nat) : oneB 1 key nm f n = (wordB key && (wordB nm && (decide (-1 ≤ f) && decide (f ≤ 100)))) := by simp [oneB]
theorem oneB_2 (key nm : ByteArray) (f : Int) (n : Nat) : oneB 2 key nm f n = ((key.toList == []) && (typeB nm && ((f == -1) && decide (0 < n)))) := by simp [oneB]
theorem oneB_3 (key nm : ByteArray) (f : Int) (n : Nat) : oneB 3 key nm f n = ((key.toList == []) && (wordB nm && ((f == -1) && decide (n = 0)))) := by simp [oneB]
theorem oneB_other {k : Int} (h1 : k ≠ 1) (h2 : k ≠ 2) (h3 : k ≠ 3) (key nm : ByteArray) (f : Int) (n : Nat) : oneB k key nm f n = false := by simp [oneB, h1, h2, h3]
theorem sels_no {x deep : Int} {o a c : Bool} {s t : Bool} (hm : s = t) (h : t = (((o && decide (0 < deep)) && a) && c)) (ho : o = false ∨ deep ≤ 0 ∨ a = false) : false = s := by
  subst hm; subst h
  rcases ho with rfl | h | rfl
  · simp
  · have : decide (0 < deep) = false := decide_eq_false (by omega)
    rw [this]; simp
  · simp
theorem sels_yes {deep : Int} {o a c : Bool} {s t : Bool} (hm : s = t) (h : t = (((o && decide (0 < deep)) && a) && c)) (ho : o = true) (hd : 0 < deep) (ha : a = true) : s = c := by
  subst hm; subst h; subst ho; subst ha
  have : decide (0 < deep) = true := decide_eq_true hd
  rw [this]; simp

set_option maxRecDepth 100000 in
set_option maxHeartbeats 8000000 in
theorem specSels : ∀ (n : Nat) (s : Sels), s.all < n → ∀ (w : World) (A B : Nat) (a : Option Addr) (cap : Nat) (deep : Int), SelsAt w A B a s.len s → B ≤ w.heap.size → 0 ≤ deep → deep ≤ 1000 →
    Calls Tryd.prog 27 #[.slice a s.len cap, .int .i64 deep] w fun e w' => e = .returned (.bool (selsB s deep)) ∧ Below w.heap.size w w' := by
  intro n
  induction n with
  | zero => intro s h; omega
  | succ n ih =>
    intro s hall w A B a cap deep hs hB h0 h1
    have hlen := hs.2.1
    have IH := Lib.hid ih
    have HS := Lib.hid hs
    clear ih hs
    go_enter Tryd.func27, Tryd.ntmps27
    go_wp2_with fail
    go_loopw [5] (fun i wr => ∃ (i' : Nat), i' ≤ s.len ∧ Hid (selsB s deep = selsB (s.drop i') deep) ∧ i = .int .i64 i' ∧ Below w.heap.size w wr) (fun i _ => s.len - (intOf i).toNat)
    case atStart => exact ⟨0, by omega, Lib.hid rfl, rfl, Below.refl _ _⟩
    case round =>
      obtain ⟨i, hi, hm, rfl, hb⟩ := hrel
      have HB := Lib.hid hb
      by_cases hlt : i < s.len
      · have hli : (i : Int) < (s.len : Int) := by omega
        obtain ⟨k, key, nm, f, u, r, b, off, a', cap', hd, rfl, hbb, hok, ⟨hc0, hc1, hc2, hc3, hc4⟩, hu⟩ := (HS.out.below (Nat.le_refl _) (hb.mono hB)).at hlt
        have hua : u.all < n := by have := Sels.all_drop hd; omega
        have hst := Lib.hid (selsB_step hd deep)
        have hul := hu.2.1
        have HUN : Hid (∀ (w : World) (deep : Int), SelsAt w A B a' u.len u → B ≤ w.heap.size → 0 ≤ deep → deep ≤ 1000 → Calls Tryd.prog 27 #[.slice a' u.len cap', .int .i64 deep] w fun e w' => e = .returned (.bool (selsB u deep)) ∧ Below w.heap.size w w') := Lib.hid fun w left h1 h2 h3 h4 => IH.out u hua w A B a' cap' left h1 h2 h3 h4
        have HU := Lib.hid hu
        have HOK := Lib.hid hok
        clear hlt hd hb hu hok
        have CW : Hid (∀ s w, OkS s → Calls Tryd.prog 28 #[.string s] w fun e w' => e = .returned (.bool (wordB s)) ∧ w = w') := Lib.hid fun s w h => specWordRight s (by unfold maxLen; exact h) w
        have CT : Hid (∀ s w, OkS s → Calls Tryd.prog 30 #[.string s] w fun e w' => e = .returned (.bool (typeB s)) ∧ w = w') := Lib.hid fun s w h => specTypeWord s (by unfold maxLen; exact h) w
        have HA : Hid (∀ o, Below w.heap.size w (wr.alloc o)) := Lib.hid fun o => HB.out.alloc HB.out.size o
        have HA2 : Hid (∀ o, Below wr.heap.size wr (wr.alloc o)) := Lib.hid fun o => (Below.refl _ _).alloc (Nat.le_refl _) o
        obtain ⟨p1, hp1⟩ : ∃ p, wordB key = p := ⟨_, rfl⟩
        obtain ⟨p2, hp2⟩ : ∃ p, wordB nm = p := ⟨_, rfl⟩
        obtain ⟨p3, hp3⟩ : ∃ p, typeB nm = p := ⟨_, rfl⟩
        obtain ⟨p4, hp4⟩ : ∃ p, (decide (-1 ≤ f) && decide (f ≤ 100)) = p := ⟨_, rfl⟩
        have C1 : Hid (∀ w, Calls Tryd.prog 28 #[.string key] w fun e w' => e = .returned (.bool p1) ∧ w = w') := Lib.hid fun w => by rw [← hp1]; exact CW.out _ _ HOK.out.2.1
        have C2 : Hid (∀ w, Calls Tryd.prog 28 #[.string nm] w fun e w' => e = .returned (.bool p2) ∧ w = w') := Lib.hid fun w => by rw [← hp2]; exact CW.out _ _ HOK.out.2.2.1
        have C3 : Hid (∀ w, Calls Tryd.prog 30 #[.string nm] w fun e w' => e = .returned (.bool p3) ∧ w = w') := Lib.hid fun w => by rw [← hp3]; exact CT.out _ _ HOK.out.2.2.1
        have C4 : Hid (∀ w, Calls Tryd.prog 46 #[.int .i64 f, .int .i64 (-1), .int .i64 100] w fun e w' => e = .returned (.bool p4) ∧ w = w') := Lib.hid fun w => by rw [← hp4]; exact specIs _ _ _ HOK.out.2.2.2 (by unfold OkI; omega) (by unfold OkI; omega) _
        have HP1 := Lib.hid hp1
        have HP2 := Lib.hid hp2
        have HP3 := Lib.hid hp3
        have HP4 := Lib.hid hp4
        clear hp1 hp2 hp3 hp4 CW CT
        by_cases k1 : k = 1
        · subst k1
          have e1 := Lib.hid (show oneB 1 key nm f u.len = (p1 && (p2 && p4)) by rw [oneB_1, HP1.out, HP2.out, HP4.out])
          cases p1
          · have ho := Lib.hid (show oneB 1 key nm f u.len = false from e1.out)
            go_wp2_with (first | (go_at_call 28; with_reducible refine (C1.out _).mono ?_; rintro e w' ⟨rfl, rfl⟩) | (go_at_call 28; with_reducible refine (C2.out _).mono ?_; rintro e w' ⟨rfl, rfl⟩) | (go_at_call 46; refine (C4.out _).mono ?_; rintro e w' ⟨rfl, rfl⟩))
            go_ret
            exact ⟨ret_bool (sels_no (x := 0) hm.out hst.out (.inl ho.out)), HA.out _⟩
          cases p2
          · have ho := Lib.hid (show oneB 1 key nm f u.len = false from e1.out)
            go_wp2_with (first | (go_at_call 28; with_reducible refine (C1.out _).mono ?_; rintro e w' ⟨rfl, rfl⟩) | (go_at_call 28; with_reducible refine (C2.out _).mono ?_; rintro e w' ⟨rfl, rfl⟩) | (go_at_call 46; refine (C4.out _).mono ?_; rintro e w' ⟨rfl, rfl⟩))
            go_ret
            exact ⟨ret_bool (sels_no (x := 0) hm.out hst.out (.inl ho.out)), HA.out _⟩
          cases p4
          · have ho := Lib.hid (show oneB 1 key nm f u.len = false from e1.out)
            go_wp2_with (first | (go_at_call 28; with_reducible refine (C1.out _).mono ?_; rintro e w' ⟨rfl, rfl⟩) | (go_at_call 28; with_reducible refine (C2.out _).mono ?_; rintro e w' ⟨rfl, rfl⟩) | (go_at_call 46; refine (C4.out _).mono ?_; rintro e w' ⟨rfl, rfl⟩))
            go_ret
            exact ⟨ret_bool (sels_no (x := 0) hm.out hst.out (.inl ho.out)), HA.out _⟩
          have ho := Lib.hid (show oneB 1 key nm f u.len = true from e1.out)
          by_cases hdp : 0 < deep
          · have hdi : 0 ≤ deep - 1 := by omega
            go_wp2_with (first | (go_at_call 28; with_reducible refine (C1.out _).mono ?_; rintro e w' ⟨rfl, rfl⟩) | (go_at_call 28; with_reducible refine (C2.out _).mono ?_; rintro e w' ⟨rfl, rfl⟩) | (go_at_call 46; refine (C4.out _).mono ?_; rintro e w' ⟨rfl, rfl⟩))
            refine (HUN.out _ (deep - 1) (HU.out.below (Nat.le_trans hB HB.out.size) (HA2.out _)) (Nat.le_trans hB (HA.out _).size) hdi (by omega)).mono ?_
            rintro e w1 ⟨rfl, hb1⟩
            have HB1 := Lib.hid ((HA.out _).trans (hb1.mono (HA.out _).size))
            clear hb1
            cases hsb : selsB u (deep - 1)
            · go_wp2_with fail
              go_ret
              exact ⟨ret_bool (sels_no (x := 0) hm.out hst.out (.inr (.inr hsb))), HB1.out⟩
            · have hrel := Lib.hid (sels_yes hm.out hst.out ho.out hdp hsb)
              go_wp2_with fail
              go_roundw
              case rel => exact ⟨i + 1, by omega, hrel, by go_num, HB1.out⟩
              case measure => simp [intOf]; omega
          · have hdn : deep ≤ 0 := by omega
            clear hdp
            go_wp2_with (first | (go_at_call 28; with_reducible refine (C1.out _).mono ?_; rintro e w' ⟨rfl, rfl⟩) | (go_at_call 28; with_reducible refine (C2.out _).mono ?_; rintro e w' ⟨rfl, rfl⟩) | (go_at_call 46; refine (C4.out _).mono ?_; rintro e w' ⟨rfl, rfl⟩))
            go_ret
            exact ⟨ret_bool (sels_no (x := 0) hm.out hst.out (.inr (.inl hdn))), HA.out _⟩
        by_cases k2 : k = 2
        · subst k2
          have e1 := Lib.hid (show oneB 2 key nm f u.len = ((key.toList == []) && (p3 && ((f == -1) && decide (0 < u.len)))) by rw [oneB_2, HP3.out])
          by_cases hke : (key.toList == []) = true
          rotate_left
          · have hkf : (key.toList == []) = false := by simpa using hke
            have hkg : key.toList ≠ [] := by simpa using hke
            have ho := Lib.hid (show oneB 2 key nm f u.len = false by rw [e1.out, hkf]; rfl)
            clear hke
            go_wp2_with (go_at_call 30; refine (C3.out _).mono ?_; rintro e w' ⟨rfl, rfl⟩)
            go_ret
            exact ⟨ret_bool (sels_no (x := 0) hm.out hst.out (.inl ho.out)), HA.out _⟩
          have hkg : key.toList = [] := by simpa using hke
          cases p3
          · have ho := Lib.hid (show oneB 2 key nm f u.len = false by rw [e1.out, hke]; rfl)
            go_wp2_with (go_at_call 30; refine (C3.out _).mono ?_; rintro e w' ⟨rfl, rfl⟩)
            go_ret
            exact ⟨ret_bool (sels_no (x := 0) hm.out hst.out (.inl ho.out)), HA.out _⟩
          by_cases hf1 : f = -1
          rotate_left
          · have ho := Lib.hid (show oneB 2 key nm f u.len = false by rw [e1.out, hke]; simp [hf1])
            go_wp2_with (go_at_call 30; refine (C3.out _).mono ?_; rintro e w' ⟨rfl, rfl⟩)
            go_ret
            exact ⟨ret_bool (sels_no (x := 0) hm.out hst.out (.inl ho.out)), HA.out _⟩
          subst hf1
          by_cases hun : 0 < u.len
          rotate_left
          · have hui : (u.len : Int) ≤ 0 := by omega
            have ho := Lib.hid (show oneB 2 key nm (-1) u.len = false by rw [e1.out, hke]; simp; omega)
            clear hun
            go_wp2_with (go_at_call 30; refine (C3.out _).mono ?_; rintro e w' ⟨rfl, rfl⟩)
            go_ret
            exact ⟨ret_bool (sels_no (x := 0) hm.out hst.out (.inl ho.out)), HA.out _⟩
          have hui : (0 : Int) < (u.len : Int) := by omega
          have ho := Lib.hid (show oneB 2 key nm (-1) u.len = true by rw [e1.out, hke]; simp; omega)
          clear hun
          by_cases hdp : 0 < deep
          · have hdi : 0 ≤ deep - 1 := by omega
            go_wp2_with (go_at_call 30; refine (C3.out _).mono ?_; rintro e w' ⟨rfl, rfl⟩)
            refine (HUN.out _ (deep - 1) (HU.out.below (Nat.le_trans hB HB.out.size) (HA2.out _)) (Nat.le_trans hB (HA.out _).size) hdi (by omega)).mono ?_
            rintro e w1 ⟨rfl, hb1⟩
            have HB1 := Lib.hid ((HA.out _).trans (hb1.mono (HA.out _).size))
            clear hb1
            cases hsb : selsB u (deep - 1)
            · go_wp2_with fail
              go_ret
              exact ⟨ret_bool (sels_no (x := 0) hm.out hst.out (.inr (.inr hsb))), HB1.out⟩
            · have hrel := Lib.hid (sels_yes hm.out hst.out ho.out hdp hsb)
              go_wp2_with fail
              go_roundw
              case rel => exact ⟨i + 1, by omega, hrel, by go_num, HB1.out⟩
              case measure => simp [intOf]; omega
          · have hdn : deep ≤ 0 := by omega
            clear hdp
            go_wp2_with (go_at_call 30; refine (C3.out _).mono ?_; rintro e w' ⟨rfl, rfl⟩)
            go_ret
            exact ⟨ret_bool (sels_no (x := 0) hm.out hst.out (.inr (.inl hdn))), HA.out _⟩
        by_cases k3 : k = 3
        · subst k3
          have e1 := Lib.hid (show oneB 3 key nm f u.len = ((key.toList == []) && (p2 && ((f == -1) && decide (u.len = 0)))) by rw [oneB_3, HP2.out])
          by_cases hke : (key.toList == []) = true
          rotate_left
          · have hkf : (key.toList == []) = false := by simpa using hke
            have hkg : key.toList ≠ [] := by simpa using hke
            have ho := Lib.hid (show oneB 3 key nm f u.len = false by rw [e1.out, hkf]; rfl)
            clear hke
            go_wp2_with (go_at_call 28; refine (C2.out _).mono ?_; rintro e w' ⟨rfl, rfl⟩)
            go_ret
            exact ⟨ret_bool (sels_no (x := 0) hm.out hst.out (.inl ho.out)), HA.out _⟩
          have hkg : key.toList = [] := by simpa using hke
          cases p2
          · have ho := Lib.hid (show oneB 3 key nm f u.len = false by rw [e1.out, hke]; rfl)
            go_wp2_with (go_at_call 28; refine (C2.out _).mono ?_; rintro e w' ⟨rfl, rfl⟩)
            go_ret
            exact ⟨ret_bool (sels_no (x := 0) hm.out hst.out (.inl ho.out)), HA.out _⟩
          by_cases hf1 : f = -1
          rotate_left
          · have ho := Lib.hid (show oneB 3 key nm f u.len = false by rw [e1.out, hke]; simp [hf1])
            go_wp2_with (go_at_call 28; refine (C2.out _).mono ?_; rintro e w' ⟨rfl, rfl⟩)
            go_ret
            exact ⟨ret_bool (sels_no (x := 0) hm.out hst.out (.inl ho.out)), HA.out _⟩
          subst hf1
          by_cases hun : u.len = 0
          rotate_left
          · have hui : (0 : Int) < (u.len : Int) := by omega
            have ho := Lib.hid (show oneB 3 key nm (-1) u.len = false by rw [e1.out, hke]; simp; omega)
            clear hun
            go_wp2_with (go_at_call 28; refine (C2.out _).mono ?_; rintro e w' ⟨rfl, rfl⟩)
            go_ret
            exact ⟨ret_bool (sels_no (x := 0) hm.out hst.out (.inl ho.out)), HA.out _⟩
          have hui : (u.len : Int) = 0 := by omega
          have ho := Lib.hid (show oneB 3 key nm (-1) u.len = true by rw [e1.out, hke]; simp; omega)
          clear hun
          by_cases hdp : 0 < deep
          · have hdi : 0 ≤ deep - 1 := by omega
            go_wp2_with (go_at_call 28; refine (C2.out _).mono ?_; rintro e w' ⟨rfl, rfl⟩)
            refine (HUN.out _ (deep - 1) (HU.out.below (Nat.le_trans hB HB.out.size) (HA2.out _)) (Nat.le_trans hB (HA.out _).size) hdi (by omega)).mono ?_
            rintro e w1 ⟨rfl, hb1⟩
            have HB1 := Lib.hid ((HA.out _).trans (hb1.mono (HA.out _).size))
            clear hb1
            cases hsb : selsB u (deep - 1)
            · go_wp2_with fail
              go_ret
              exact ⟨ret_bool (sels_no (x := 0) hm.out hst.out (.inr (.inr hsb))), HB1.out⟩
            · have hrel := Lib.hid (sels_yes hm.out hst.out ho.out hdp hsb)
              go_wp2_with fail
              go_roundw
              case rel => exact ⟨i + 1, by omega, hrel, by go_num, HB1.out⟩
              case measure => simp [intOf]; omega
          · have hdn : deep ≤ 0 := by omega
            clear hdp
            go_wp2_with (go_at_call 28; refine (C2.out _).mono ?_; rintro e w' ⟨rfl, rfl⟩)
            go_ret
            exact ⟨ret_bool (sels_no (x := 0) hm.out hst.out (.inr (.inl hdn))), HA.out _⟩
        have ho := Lib.hid (oneB_other k1 k2 k3 key nm f u.len)
        go_wp2_with fail
        go_ret
        exact ⟨ret_bool (sels_no (x := 0) hm.out hst.out (.inl ho.out)), HA.out _⟩
      · obtain rfl : i = s.len := by omega
        have hf : Hid (selsB s deep = true) := Lib.hid (by rw [hm.out, Sels.drop_end (Nat.le_refl _)]; rfl)
        clear hlt hb
        go_wp2_with fail
        go_ret
        exact ⟨ret_bool hf.out.symm, HB.out⟩
end Go.Proofs.YthdncjdopejkkaaDoor.Selss
