/-
  Contracts: spec.l03Sels says whether selections may be; of what was there nothing is changed. Conditions: in memory.
-/
import Derived.Test.YtceabbbmgfeofaaGreatDoorRows
import Derived.Test.YtceabbbmgfeofaaGreatDoorFragM
import Derived.Test.YtceabbbmgfeofaaGreatDoorWord
namespace Go.Proofs.YtceabbbmgfeofaaGreatDoor.Selss
open Go.RowKit
set_option linter.unusedVariables false
theorem Sels.all_step {i : Nat} {s : Sels} {k : Int} {key nm : ByteArray} {f : Int} {u r : Sels} (h : s.drop i = .cons k key nm f u r) : (s.drop i).all = u.all + (s.drop (i + 1)).all + 1 := by
  rw [Sels.drop_succ i s h, h]; rfl
theorem specLeft : ∀ (n : Nat) (s : Sels), s.all < n → ∀ (w : World) (A B : Nat) (a : Option Addr) (cap : Nat) (left : Int), SelsAt w A B a s.len s → B ≤ w.heap.size → 0 ≤ left → left ≤ 1000 →
    Calls Tryz.prog 98 #[.slice a s.len cap, .int .i64 left] w fun e w' => e = .returned (.int .i64 (leftOf left s.all)) ∧ Below w.heap.size w w' := by
  intro n
  induction n with
  | zero => intro s h; omega
  | succ n ih =>
    intro s hall w A B a cap left hs hB h0 h1
    have hlen := hs.2.1
    have IH := Lib.hid ih
    have HS := Lib.hid hs
    clear ih hs
    go_enter Tryz.func98, Tryz.ntmps98
    go_wp2_with fail
    go_loopw [1, 5] (fun v i wr => ∃ (i' : Nat) (m : Int), i' ≤ s.len ∧ -1 ≤ m ∧ m ≤ 1000 ∧ Hid ((0 ≤ m → m + (s.all : Int) = left + ((s.drop i').all : Int)) ∧ (m < 0 → left < s.all)) ∧ v = .int .i64 m ∧ i = .int .i64 i' ∧ Below w.heap.size w wr) (fun _ i _ => s.len - (intOf i).toNat)
    case atStart => exact ⟨0, left, by omega, by omega, by omega, Lib.hid ⟨fun _ => by rw [Sels.drop_zero], fun h => by omega⟩, rfl, rfl, Below.refl _ _⟩
    case round =>
      obtain ⟨i, m, hi, hm0, hm1, hm, rfl, rfl, hb⟩ := hrel
      have HB := Lib.hid hb
      by_cases hneg : m < 0
      · obtain rfl : m = -1 := by omega
        have hf := Lib.hid (leftOf_no (left := left) (n := s.all) (hm.out.2 hneg))
        clear hb hm
        rcases (show (i : Int) < (s.len : Int) ∨ (s.len : Int) ≤ (i : Int) by omega) with hli | hli
        · go_wp2_with fail
          go_ret
          exact ⟨ret_i hf.out, HB.out⟩
        · go_wp2_with fail
          go_ret
          exact ⟨ret_i hf.out, HB.out⟩
      have hpos : 0 ≤ m := by omega
      have hm' := Lib.hid (hm.out.1 hpos)
      clear hneg hm
      by_cases hlt : i < s.len
      · have hli : (i : Int) < (s.len : Int) := by omega
        obtain ⟨k, key, nm, f, u, r, b, off, a', cap', hd, rfl, hbb, hok, ⟨hc0, hc1, hc2, hc3, hc4⟩, hu⟩ := (HS.out.below (Nat.le_refl _) (hb.mono hB)).at hlt
        have hua : u.all < n := by have := Sels.all_drop hd; omega
        have hst := Lib.hid (Sels.all_step hd)
        have HUN : Hid (∀ (w : World) (left : Int), SelsAt w A B a' u.len u → B ≤ w.heap.size → 0 ≤ left → left ≤ 1000 → Calls Tryz.prog 98 #[.slice a' u.len cap', .int .i64 left] w fun e w' => e = .returned (.int .i64 (leftOf left u.all)) ∧ Below w.heap.size w w') := Lib.hid fun w left h1 h2 h3 h4 => IH.out u hua w A B a' cap' left h1 h2 h3 h4
        have HU := Lib.hid hu
        clear hlt hd hb hu hok hc0 hc1 hc2 hc3
        by_cases hz : m = 0
        · subst hz
          have hrel : Hid ((0 ≤ (-1 : Int) → (-1 : Int) + (s.all : Int) = left + ((s.drop (i + 1)).all : Int)) ∧ ((-1 : Int) < 0 → left < s.all)) := Lib.hid ⟨fun h => by omega, fun _ => by have e1 := hm'.out; have e2 := hst.out; omega⟩
          go_wp2_with fail
          go_roundw
          case rel => exact ⟨i + 1, -1, by omega, by omega, by omega, hrel, rfl, by go_num, HB.out⟩
          case measure => simp [intOf]; omega
        · have hge : 0 ≤ m - 1 := by omega
          clear hz
          go_wp2_with fail
          refine (HUN.out _ (m - 1) HU.out (Nat.le_trans hB HB.out.size) hge (by omega)).mono ?_
          rintro e w1 ⟨rfl, hb1⟩
          have HB1 := Lib.hid (HB.out.trans (hb1.mono HB.out.size))
          clear hb1
          have hrel : Hid ((0 ≤ leftOf (m - 1) u.all → leftOf (m - 1) u.all + (s.all : Int) = left + ((s.drop (i + 1)).all : Int)) ∧ (leftOf (m - 1) u.all < 0 → left < s.all)) := Lib.hid (by
            have e1 := hm'.out; have e2 := hst.out
            unfold leftOf
            split
            · exact ⟨fun _ => by omega, fun h => by omega⟩
            · exact ⟨fun h => by omega, fun _ => by omega⟩)
          have hlo : -1 ≤ leftOf (m - 1) u.all := by unfold leftOf; split <;> omega
          have hhi : leftOf (m - 1) u.all ≤ 1000 := by unfold leftOf; split <;> omega
          generalize leftOf (m - 1) u.all = q at *
          go_wp2_with fail
          go_roundw
          case rel => exact ⟨i + 1, q, by omega, hlo, hhi, hrel, rfl, by go_num, HB1.out⟩
          case measure => simp [intOf]; omega
      · obtain rfl : i = s.len := by omega
        have hf := Lib.hid (leftOf_yes (left := left) (n := s.all) hpos (by have e1 := hm'.out; rw [Sels.drop_end (Nat.le_refl _)] at e1; simp only [Sels.all] at e1; omega))
        clear hlt hb hm'
        go_wp2_with fail
        go_ret
        exact ⟨ret_i hf.out, HB.out⟩
/-- How many selections Frags have. -/
def fragAll : List FragP → Nat
  | [] => 0
  | x :: l => x.sels.all + fragAll l
theorem fragAll_drop {l : List FragP} {i : Nat} {x : FragP} (h : l[i]? = some x) : fragAll (l.drop i) = x.sels.all + fragAll (l.drop (i + 1)) := by
  obtain ⟨hl, rfl⟩ := List.getElem?_eq_some_iff.1 h
  rw [List.drop_eq_getElem_cons hl]; rfl
def DocP.all (d : DocP) : Nat := d.sels.all + fragAll d.frags
/-- How many a Doc has, at most 61. -/
def DocP.upto (d : DocP) : Int := if d.all ≤ 60 then (d.all : Int) else 61
theorem upto_left (d : DocP) : 60 - leftOf 60 d.all = d.upto := by unfold leftOf DocP.upto; split <;> split <;> omega
theorem specAll (w : World) (A B : Nat) (v : Value) (d : DocP) (hs : DocAt w A B v d) (hB : B ≤ w.heap.size) :
    Calls Tryz.prog 104 #[v] w fun e w' => e = .returned (.int .i64 d.upto) ∧ Below w.heap.size w w' := by
  obtain ⟨a, ca, b, cb, rfl, hd, hf, _⟩ := hs
  have IH : Hid (∀ (w : World), SelsAt w A B a d.sels.len d.sels → B ≤ w.heap.size → Calls Tryz.prog 98 #[.slice a d.sels.len ca, .int .i64 60] w fun e w' => e = .returned (.int .i64 (leftOf 60 d.sels.all)) ∧ Below w.heap.size w w') :=
    Lib.hid fun w h2 h3 => specLeft (d.sels.all + 1) d.sels (Nat.lt_succ_self _) w A B a ca 60 h2 h3 (by omega) (by omega)
  have HD := Lib.hid hd
  have HF := Lib.hid hf
  have HA : Hid (∀ o, Below w.heap.size w (w.alloc o)) := Lib.hid fun o => (Below.refl _ _).alloc (Nat.le_refl _) o
  have hlen := hf.2.1
  clear hd hf
  go_enter Tryz.func104, Tryz.ntmps104
  go_wp2_with fail
  refine (IH.out _ (HD.out.below hB (HA.out _)) (Nat.le_trans hB (HA.out _).size)).mono ?_
  rintro e w1 ⟨rfl, hb1⟩
  have HB1 := Lib.hid ((HA.out _).trans (hb1.mono (HA.out _).size))
  have k1 := hb1.cell (p := ⟨w.heap.size, 1, none⟩) (by simp)
  simp at k1
  have HZ : Hid (w.heap.size < w1.heap.size) := Lib.hid (by have := hb1.size; simp at this; omega)
  clear hb1
  go_wp2_with fail
  have hq0 : Hid ((0 ≤ leftOf 60 d.sels.all → leftOf 60 d.sels.all + (d.all : Int) = 60 + (fragAll (d.frags.drop 0) : Int)) ∧ (leftOf 60 d.sels.all < 0 → 60 < (d.all : Int))) := Lib.hid (by
    unfold leftOf DocP.all; rw [List.drop_zero]
    split
    · exact ⟨fun _ => by omega, fun h => by omega⟩
    · exact ⟨fun h => by omega, fun _ => by omega⟩)
  have hlo0 : -1 ≤ leftOf 60 d.sels.all := by unfold leftOf; split <;> omega
  have hhi0 : leftOf 60 d.sels.all ≤ 1000 := by unfold leftOf; split <;> omega
  generalize leftOf 60 d.sels.all = q0 at *
  go_loopw [3, 4] (fun v i wr => ∃ (i' : Nat) (m : Int), i' ≤ d.frags.length ∧ -1 ≤ m ∧ m ≤ 1000 ∧ Hid ((0 ≤ m → m + (d.all : Int) = 60 + (fragAll (d.frags.drop i') : Int)) ∧ (m < 0 → 60 < (d.all : Int))) ∧ v = .int .i64 m ∧ i = .int .i64 i' ∧ wr.cell? ⟨w.heap.size, 1, none⟩ = some (.slice b d.frags.length cb) ∧ w.heap.size < wr.heap.size ∧ Below w.heap.size w wr) (fun _ i _ => d.frags.length - (intOf i).toNat)
  case atStart => exact ⟨0, q0, by omega, hlo0, hhi0, hq0, rfl, rfl, k1, HZ.out, HB1.out⟩
  case round =>
    obtain ⟨i, m, hi, hm0, hm1, hm, rfl, rfl, hk, hz, hb⟩ := hrel
    have HB := Lib.hid hb
    clear k1
    by_cases hneg : m < 0
    · obtain rfl : m = -1 := by omega
      have hf : Hid (60 - (-1 : Int) = d.upto) := Lib.hid (by have := hm.out.2 hneg; unfold DocP.upto; rw [if_neg (by omega)]; rfl)
      clear hb hm
      rcases (show (i : Int) < (d.frags.length : Int) ∨ (d.frags.length : Int) ≤ (i : Int) by omega) with hli | hli
      · go_wp2_with fail
        go_ret
        exact ⟨ret_i hf.out, HB.out⟩
      · go_wp2_with fail
        go_ret
        exact ⟨ret_i hf.out, HB.out⟩
    have hpos : 0 ≤ m := by omega
    have hm' := Lib.hid (hm.out.1 hpos)
    clear hneg hm
    by_cases hlt : i < d.frags.length
    · have hli : (i : Int) < (d.frags.length : Int) := by omega
      obtain ⟨x, fb, off, a', cap', hd, rfl, hbb, hok, ⟨hc0, hc1, hc2⟩, hu⟩ := (HF.out.below (Nat.le_refl _) (hb.mono hB)).at hlt
      have hst := Lib.hid (fragAll_drop hd)
      have HUN : Hid (∀ (w : World) (left : Int), SelsAt w A B a' x.sels.len x.sels → B ≤ w.heap.size → 0 ≤ left → left ≤ 1000 → Calls Tryz.prog 98 #[.slice a' x.sels.len cap', .int .i64 left] w fun e w' => e = .returned (.int .i64 (leftOf left x.sels.all)) ∧ Below w.heap.size w w') := Lib.hid fun w left h1 h2 h3 h4 => specLeft (x.sels.all + 1) x.sels (Nat.lt_succ_self _) w A B a' cap' left h1 h2 h3 h4
      have HU := Lib.hid hu
      clear hlt hd hb hu hok hc0 hc1
      go_wp2_with fail
      refine (HUN.out _ m HU.out (Nat.le_trans hB HB.out.size) hpos hm1).mono ?_
      rintro e w2 ⟨rfl, hb2⟩
      have HB2 := Lib.hid (HB.out.trans (hb2.mono HB.out.size))
      have k2 := (hb2.cell (p := ⟨w.heap.size, 1, none⟩) hz).trans hk
      have hz2 : w.heap.size < w2.heap.size := Nat.lt_of_lt_of_le hz hb2.size
      clear hb2 hk hc2
      have hrel : Hid ((0 ≤ leftOf m x.sels.all → leftOf m x.sels.all + (d.all : Int) = 60 + (fragAll (d.frags.drop (i + 1)) : Int)) ∧ (leftOf m x.sels.all < 0 → 60 < (d.all : Int))) := Lib.hid (by
        have e1 := hm'.out; have e2 := hst.out
        unfold leftOf
        split
        · exact ⟨fun _ => by omega, fun h => by omega⟩
        · exact ⟨fun h => by omega, fun _ => by omega⟩)
      have hlo : -1 ≤ leftOf m x.sels.all := by unfold leftOf; split <;> omega
      have hhi : leftOf m x.sels.all ≤ 1000 := by unfold leftOf; split <;> omega
      generalize leftOf m x.sels.all = q at *
      go_wp2_with fail
      go_roundw
      case rel => exact ⟨i + 1, q, by omega, hlo, hhi, hrel, rfl, by go_num, k2, hz2, HB2.out⟩
      case measure => simp [intOf]; omega
    · obtain rfl : i = d.frags.length := by omega
      have hf : Hid (60 - m = d.upto) := Lib.hid (by
        have e1 := hm'.out; rw [List.drop_length] at e1; simp only [fragAll] at e1; unfold DocP.upto; rw [if_pos (by omega)]; omega)
      clear hlt hb hm'
      go_wp2_with fail
      go_ret
      exact ⟨ret_i hf.out, HB.out⟩
end Go.Proofs.YtceabbbmgfeofaaGreatDoor.Selss
namespace Go.Proofs.YtceabbbmgfeofaaGreatDoor.Selss
open Go.RowKit Words
set_option linter.unusedVariables false
theorem specIs (n lo hi : Int) (hn : OkI n) (hlo : OkI lo) (hhi : OkI hi) (w : World) :
    Calls Tryz.prog 146 #[.int .i64 n, .int .i64 lo, .int .i64 hi] w fun e w' => e = .returned (.bool (decide (lo ≤ n) && decide (n ≤ hi))) ∧ w = w' := by
  unfold OkI at hn hlo hhi
  go_enter Tryz.func146, Tryz.ntmps146
  go_wp2_with fail
  all_goals go_ret
  all_goals exact ⟨ret_bool (by simp_all <;> omega), rfl⟩
/-- What one selection may be, beside what is within it. -/
noncomputable def oneB (k : Int) (key nm : ByteArray) (f : Int) (n : Nat) : Bool :=
  (k == 1 && (wordB key && (wordB nm && (decide (-1 ≤ f) && decide (f ≤ 100))))) ||
  (k == 2 && ((key.toList == []) && (typeB nm && ((f == -1) && decide (0 < n))))) ||
  (k == 3 && ((key.toList == []) && (wordB nm && ((f == -1) && decide (n = 0)))))
/-- What selections may be, so deep. -/
noncomputable def selsB : Sels → Int → Bool
  | .nil, _ => true
  | .cons k key nm f u r, deep => ((oneB k key nm f u.len && decide (0 < deep)) && selsB u (deep - 1)) && selsB r deep
theorem selsB_step {i : Nat} {s : Sels} {k : Int} {key nm : ByteArray} {f : Int} {u r : Sels} (h : s.drop i = .cons k key nm f u r) (deep : Int) : selsB (s.drop i) deep = (((oneB k key nm f u.len && decide (0 < deep)) && selsB u (deep - 1)) && selsB (s.drop (i + 1)) deep) := by
  rw [Sels.drop_succ i s h, h]; rfl
theorem oneB_1 (key nm : ByteArray) (f : Int) (n : Nat) : oneB 1 key nm f n = (wordB key && (wordB nm && (decide (-1 ≤ f) && decide (f ≤ 100)))) := by simp [oneB]
theorem oneB_2 (key nm : ByteArray) (f : Int) (n : Nat) : oneB 2 key nm f n = ((key.toList == []) && (typeB nm && ((f == -1) && decide (0 < n)))) := by simp [oneB]
theorem oneB_3 (key nm : ByteArray) (f : Int) (n : Nat) : oneB 3 key nm f n = ((key.toList == []) && (wordB nm && ((f == -1) && decide (n = 0)))) := by simp [oneB]
theorem oneB_other {k : Int} (h1 : k ≠ 1) (h2 : k ≠ 2) (h3 : k ≠ 3) (key nm : ByteArray) (f : Int) (n : Nat) : oneB k key nm f n = false := by simp [oneB, h1, h2, h3]
theorem sels_no {x deep : Int} {o a c : Bool} {s t : Bool} (hm : s = t) (h : t = (((o && decide (0 < deep)) && a) && c)) (ho : o = false ∨ deep ≤ 0 ∨ a = false) : false = s := by
  subst hm; subst h
  rcases ho with rfl | h | rfl
  · simp
  · have : decide (0 < deep) = false := decide_eq_false (by omega)
    rw [this]; simp
  · simp
theorem sels_yes {deep : Int} {o a c : Bool} {s t : Bool} (hm : s = t) (h : t = (((o && decide (0 < deep)) && a) && c)) (ho : o = true) (hd : 0 < deep) (ha : a = true) : s = c := by
  subst hm; subst h; subst ho; subst ha
  have : decide (0 < deep) = true := decide_eq_true hd
  rw [this]; simp
set_option maxRecDepth 100000 in
set_option maxHeartbeats 8000000 in
theorem specSels : ∀ (n : Nat) (s : Sels), s.all < n → ∀ (w : World) (A B : Nat) (a : Option Addr) (cap : Nat) (deep : Int), SelsAt w A B a s.len s → B ≤ w.heap.size → 0 ≤ deep → deep ≤ 1000 →
    Calls Tryz.prog 99 #[.slice a s.len cap, .int .i64 deep] w fun e w' => e = .returned (.bool (selsB s deep)) ∧ Below w.heap.size w w' := by
  intro n
  induction n with
  | zero => intro s h; omega
  | succ n ih =>
    intro s hall w A B a cap deep hs hB h0 h1
    have hlen := hs.2.1
    have IH := Lib.hid ih
    have HS := Lib.hid hs
    clear ih hs
    go_enter Tryz.func99, Tryz.ntmps99
    go_wp2_with fail
    go_loopw [5] (fun i wr => ∃ (i' : Nat), i' ≤ s.len ∧ Hid (selsB s deep = selsB (s.drop i') deep) ∧ i = .int .i64 i' ∧ Below w.heap.size w wr) (fun i _ => s.len - (intOf i).toNat)
    case atStart => exact ⟨0, by omega, Lib.hid rfl, rfl, Below.refl _ _⟩
    case round =>
      obtain ⟨i, hi, hm, rfl, hb⟩ := hrel
      have HB := Lib.hid hb
      by_cases hlt : i < s.len
      · have hli : (i : Int) < (s.len : Int) := by omega
        obtain ⟨k, key, nm, f, u, r, b, off, a', cap', hd, rfl, hbb, hok, ⟨hc0, hc1, hc2, hc3, hc4⟩, hu⟩ := (HS.out.below (Nat.le_refl _) (hb.mono hB)).at hlt
        have hua : u.all < n := by have := Sels.all_drop hd; omega
        have hst := Lib.hid (selsB_step hd deep)
        have hul := hu.2.1
        have HUN : Hid (∀ (w : World) (deep : Int), SelsAt w A B a' u.len u → B ≤ w.heap.size → 0 ≤ deep → deep ≤ 1000 → Calls Tryz.prog 99 #[.slice a' u.len cap', .int .i64 deep] w fun e w' => e = .returned (.bool (selsB u deep)) ∧ Below w.heap.size w w') := Lib.hid fun w left h1 h2 h3 h4 => IH.out u hua w A B a' cap' left h1 h2 h3 h4
        have HU := Lib.hid hu
        have HOK := Lib.hid hok
        clear hlt hd hb hu hok
        have CW : Hid (∀ s w, OkS s → Calls Tryz.prog 105 #[.string s] w fun e w' => e = .returned (.bool (wordB s)) ∧ w = w') := Lib.hid fun s w h => specWordRight s (by unfold maxLen; exact h) w
        have CT : Hid (∀ s w, OkS s → Calls Tryz.prog 102 #[.string s] w fun e w' => e = .returned (.bool (typeB s)) ∧ w = w') := Lib.hid fun s w h => specTypeWord s (by unfold maxLen; exact h) w
        have HA : Hid (∀ o, Below w.heap.size w (wr.alloc o)) := Lib.hid fun o => HB.out.alloc HB.out.size o
        have HA2 : Hid (∀ o, Below wr.heap.size wr (wr.alloc o)) := Lib.hid fun o => (Below.refl _ _).alloc (Nat.le_refl _) o
        obtain ⟨p1, hp1⟩ : ∃ p, wordB key = p := ⟨_, rfl⟩
        obtain ⟨p2, hp2⟩ : ∃ p, wordB nm = p := ⟨_, rfl⟩
        obtain ⟨p3, hp3⟩ : ∃ p, typeB nm = p := ⟨_, rfl⟩
        obtain ⟨p4, hp4⟩ : ∃ p, (decide (-1 ≤ f) && decide (f ≤ 100)) = p := ⟨_, rfl⟩
        have C1 : Hid (∀ w, Calls Tryz.prog 105 #[.string key] w fun e w' => e = .returned (.bool p1) ∧ w = w') := Lib.hid fun w => by rw [← hp1]; exact CW.out _ _ HOK.out.2.1
        have C2 : Hid (∀ w, Calls Tryz.prog 105 #[.string nm] w fun e w' => e = .returned (.bool p2) ∧ w = w') := Lib.hid fun w => by rw [← hp2]; exact CW.out _ _ HOK.out.2.2.1
        have C3 : Hid (∀ w, Calls Tryz.prog 102 #[.string nm] w fun e w' => e = .returned (.bool p3) ∧ w = w') := Lib.hid fun w => by rw [← hp3]; exact CT.out _ _ HOK.out.2.2.1
        have C4 : Hid (∀ w, Calls Tryz.prog 146 #[.int .i64 f, .int .i64 (-1), .int .i64 100] w fun e w' => e = .returned (.bool p4) ∧ w = w') := Lib.hid fun w => by rw [← hp4]; exact specIs _ _ _ HOK.out.2.2.2 (by unfold OkI; omega) (by unfold OkI; omega) _
        have HP1 := Lib.hid hp1
        have HP2 := Lib.hid hp2
        have HP3 := Lib.hid hp3
        have HP4 := Lib.hid hp4
        clear hp1 hp2 hp3 hp4 CW CT
        by_cases k1 : k = 1
        · subst k1
          have e1 := Lib.hid (show oneB 1 key nm f u.len = (p1 && (p2 && p4)) by rw [oneB_1, HP1.out, HP2.out, HP4.out])
          cases p1
          · have ho := Lib.hid (show oneB 1 key nm f u.len = false from e1.out)
            go_wp2_with (first | (go_at_call 105; with_reducible refine (C1.out _).mono ?_; rintro e w' ⟨rfl, rfl⟩) | (go_at_call 105; with_reducible refine (C2.out _).mono ?_; rintro e w' ⟨rfl, rfl⟩) | (go_at_call 146; refine (C4.out _).mono ?_; rintro e w' ⟨rfl, rfl⟩))
            go_ret
            exact ⟨ret_bool (sels_no (x := 0) hm.out hst.out (.inl ho.out)), HA.out _⟩
          cases p2
          · have ho := Lib.hid (show oneB 1 key nm f u.len = false from e1.out)
            go_wp2_with (first | (go_at_call 105; with_reducible refine (C1.out _).mono ?_; rintro e w' ⟨rfl, rfl⟩) | (go_at_call 105; with_reducible refine (C2.out _).mono ?_; rintro e w' ⟨rfl, rfl⟩) | (go_at_call 146; refine (C4.out _).mono ?_; rintro e w' ⟨rfl, rfl⟩))
            go_ret
            exact ⟨ret_bool (sels_no (x := 0) hm.out hst.out (.inl ho.out)), HA.out _⟩
          cases p4
          · have ho := Lib.hid (show oneB 1 key nm f u.len = false from e1.out)
            go_wp2_with (first | (go_at_call 105; with_reducible refine (C1.out _).mono ?_; rintro e w' ⟨rfl, rfl⟩) | (go_at_call 105; with_reducible refine (C2.out _).mono ?_; rintro e w' ⟨rfl, rfl⟩) | (go_at_call 146; refine (C4.out _).mono ?_; rintro e w' ⟨rfl, rfl⟩))
            go_ret
            exact ⟨ret_bool (sels_no (x := 0) hm.out hst.out (.inl ho.out)), HA.out _⟩
          have ho := Lib.hid (show oneB 1 key nm f u.len = true from e1.out)
          by_cases hdp : 0 < deep
          · have hdi : 0 ≤ deep - 1 := by omega
            go_wp2_with (first | (go_at_call 105; with_reducible refine (C1.out _).mono ?_; rintro e w' ⟨rfl, rfl⟩) | (go_at_call 105; with_reducible refine (C2.out _).mono ?_; rintro e w' ⟨rfl, rfl⟩) | (go_at_call 146; refine (C4.out _).mono ?_; rintro e w' ⟨rfl, rfl⟩))
            refine (HUN.out _ (deep - 1) (HU.out.below (Nat.le_trans hB HB.out.size) (HA2.out _)) (Nat.le_trans hB (HA.out _).size) hdi (by omega)).mono ?_
            rintro e w1 ⟨rfl, hb1⟩
            have HB1 := Lib.hid ((HA.out _).trans (hb1.mono (HA.out _).size))
            clear hb1
            cases hsb : selsB u (deep - 1)
            · go_wp2_with fail
              go_ret
              exact ⟨ret_bool (sels_no (x := 0) hm.out hst.out (.inr (.inr hsb))), HB1.out⟩
            · have hrel := Lib.hid (sels_yes hm.out hst.out ho.out hdp hsb)
              go_wp2_with fail
              go_roundw
              case rel => exact ⟨i + 1, by omega, hrel, by go_num, HB1.out⟩
              case measure => simp [intOf]; omega
          · have hdn : deep ≤ 0 := by omega
            clear hdp
            go_wp2_with (first | (go_at_call 105; with_reducible refine (C1.out _).mono ?_; rintro e w' ⟨rfl, rfl⟩) | (go_at_call 105; with_reducible refine (C2.out _).mono ?_; rintro e w' ⟨rfl, rfl⟩) | (go_at_call 146; refine (C4.out _).mono ?_; rintro e w' ⟨rfl, rfl⟩))
            go_ret
            exact ⟨ret_bool (sels_no (x := 0) hm.out hst.out (.inr (.inl hdn))), HA.out _⟩
        by_cases k2 : k = 2
        · subst k2
          have e1 := Lib.hid (show oneB 2 key nm f u.len = ((key.toList == []) && (p3 && ((f == -1) && decide (0 < u.len)))) by rw [oneB_2, HP3.out])
          by_cases hke : (key.toList == []) = true
          rotate_left
          · have hkf : (key.toList == []) = false := by simpa using hke
            have hkg : key.toList ≠ [] := by simpa using hke
            have ho := Lib.hid (show oneB 2 key nm f u.len = false by rw [e1.out, hkf]; rfl)
            clear hke
            go_wp2_with (go_at_call 102; refine (C3.out _).mono ?_; rintro e w' ⟨rfl, rfl⟩)
            go_ret
            exact ⟨ret_bool (sels_no (x := 0) hm.out hst.out (.inl ho.out)), HA.out _⟩
          have hkg : key.toList = [] := by simpa using hke
          cases p3
          · have ho := Lib.hid (show oneB 2 key nm f u.len = false by rw [e1.out, hke]; rfl)
            go_wp2_with (go_at_call 102; refine (C3.out _).mono ?_; rintro e w' ⟨rfl, rfl⟩)
            go_ret
            exact ⟨ret_bool (sels_no (x := 0) hm.out hst.out (.inl ho.out)), HA.out _⟩
          by_cases hf1 : f = -1
          rotate_left
          · have ho := Lib.hid (show oneB 2 key nm f u.len = false by rw [e1.out, hke]; simp [hf1])
            go_wp2_with (go_at_call 102; refine (C3.out _).mono ?_; rintro e w' ⟨rfl, rfl⟩)
            go_ret
            exact ⟨ret_bool (sels_no (x := 0) hm.out hst.out (.inl ho.out)), HA.out _⟩
          subst hf1
          by_cases hun : 0 < u.len
          rotate_left
          · have hui : (u.len : Int) ≤ 0 := by omega
            have ho := Lib.hid (show oneB 2 key nm (-1) u.len = false by rw [e1.out, hke]; simp; omega)
            clear hun
            go_wp2_with (go_at_call 102; refine (C3.out _).mono ?_; rintro e w' ⟨rfl, rfl⟩)
            go_ret
            exact ⟨ret_bool (sels_no (x := 0) hm.out hst.out (.inl ho.out)), HA.out _⟩
          have hui : (0 : Int) < (u.len : Int) := by omega
          have ho := Lib.hid (show oneB 2 key nm (-1) u.len = true by rw [e1.out, hke]; simp; omega)
          clear hun
          by_cases hdp : 0 < deep
          · have hdi : 0 ≤ deep - 1 := by omega
            go_wp2_with (go_at_call 102; refine (C3.out _).mono ?_; rintro e w' ⟨rfl, rfl⟩)
            refine (HUN.out _ (deep - 1) (HU.out.below (Nat.le_trans hB HB.out.size) (HA2.out _)) (Nat.le_trans hB (HA.out _).size) hdi (by omega)).mono ?_
            rintro e w1 ⟨rfl, hb1⟩
            have HB1 := Lib.hid ((HA.out _).trans (hb1.mono (HA.out _).size))
            clear hb1
            cases hsb : selsB u (deep - 1)
            · go_wp2_with fail
              go_ret
              exact ⟨ret_bool (sels_no (x := 0) hm.out hst.out (.inr (.inr hsb))), HB1.out⟩
            · have hrel := Lib.hid (sels_yes hm.out hst.out ho.out hdp hsb)
              go_wp2_with fail
              go_roundw
              case rel => exact ⟨i + 1, by omega, hrel, by go_num, HB1.out⟩
              case measure => simp [intOf]; omega
          · have hdn : deep ≤ 0 := by omega
            clear hdp
            go_wp2_with (go_at_call 102; refine (C3.out _).mono ?_; rintro e w' ⟨rfl, rfl⟩)
            go_ret
            exact ⟨ret_bool (sels_no (x := 0) hm.out hst.out (.inr (.inl hdn))), HA.out _⟩
        by_cases k3 : k = 3
        · subst k3
          have e1 := Lib.hid (show oneB 3 key nm f u.len = ((key.toList == []) && (p2 && ((f == -1) && decide (u.len = 0)))) by rw [oneB_3, HP2.out])
          by_cases hke : (key.toList == []) = true
          rotate_left
          · have hkf : (key.toList == []) = false := by simpa using hke
            have hkg : key.toList ≠ [] := by simpa using hke
            have ho := Lib.hid (show oneB 3 key nm f u.len = false by rw [e1.out, hkf]; rfl)
            clear hke
            go_wp2_with (go_at_call 105; refine (C2.out _).mono ?_; rintro e w' ⟨rfl, rfl⟩)
            go_ret
            exact ⟨ret_bool (sels_no (x := 0) hm.out hst.out (.inl ho.out)), HA.out _⟩
          have hkg : key.toList = [] := by simpa using hke
          cases p2
          · have ho := Lib.hid (show oneB 3 key nm f u.len = false by rw [e1.out, hke]; rfl)
            go_wp2_with (go_at_call 105; refine (C2.out _).mono ?_; rintro e w' ⟨rfl, rfl⟩)
            go_ret
            exact ⟨ret_bool (sels_no (x := 0) hm.out hst.out (.inl ho.out)), HA.out _⟩
          by_cases hf1 : f = -1
          rotate_left
          · have ho := Lib.hid (show oneB 3 key nm f u.len = false by rw [e1.out, hke]; simp [hf1])
            go_wp2_with (go_at_call 105; refine (C2.out _).mono ?_; rintro e w' ⟨rfl, rfl⟩)
            go_ret
            exact ⟨ret_bool (sels_no (x := 0) hm.out hst.out (.inl ho.out)), HA.out _⟩
          subst hf1
          by_cases hun : u.len = 0
          rotate_left
          · have hui : (0 : Int) < (u.len : Int) := by omega
            have ho := Lib.hid (show oneB 3 key nm (-1) u.len = false by rw [e1.out, hke]; simp; omega)
            clear hun
            go_wp2_with (go_at_call 105; refine (C2.out _).mono ?_; rintro e w' ⟨rfl, rfl⟩)
            go_ret
            exact ⟨ret_bool (sels_no (x := 0) hm.out hst.out (.inl ho.out)), HA.out _⟩
          have hui : (u.len : Int) = 0 := by omega
          have ho := Lib.hid (show oneB 3 key nm (-1) u.len = true by rw [e1.out, hke]; simp; omega)
          clear hun
          by_cases hdp : 0 < deep
          · have hdi : 0 ≤ deep - 1 := by omega
            go_wp2_with (go_at_call 105; refine (C2.out _).mono ?_; rintro e w' ⟨rfl, rfl⟩)
            refine (HUN.out _ (deep - 1) (HU.out.below (Nat.le_trans hB HB.out.size) (HA2.out _)) (Nat.le_trans hB (HA.out _).size) hdi (by omega)).mono ?_
            rintro e w1 ⟨rfl, hb1⟩
            have HB1 := Lib.hid ((HA.out _).trans (hb1.mono (HA.out _).size))
            clear hb1
            cases hsb : selsB u (deep - 1)
            · go_wp2_with fail
              go_ret
              exact ⟨ret_bool (sels_no (x := 0) hm.out hst.out (.inr (.inr hsb))), HB1.out⟩
            · have hrel := Lib.hid (sels_yes hm.out hst.out ho.out hdp hsb)
              go_wp2_with fail
              go_roundw
              case rel => exact ⟨i + 1, by omega, hrel, by go_num, HB1.out⟩
              case measure => simp [intOf]; omega
          · have hdn : deep ≤ 0 := by omega
            clear hdp
            go_wp2_with (go_at_call 105; refine (C2.out _).mono ?_; rintro e w' ⟨rfl, rfl⟩)
            go_ret
            exact ⟨ret_bool (sels_no (x := 0) hm.out hst.out (.inr (.inl hdn))), HA.out _⟩
        have ho := Lib.hid (oneB_other k1 k2 k3 key nm f u.len)
        go_wp2_with fail
        go_ret
        exact ⟨ret_bool (sels_no (x := 0) hm.out hst.out (.inl ho.out)), HA.out _⟩
      · obtain rfl : i = s.len := by omega
        have hf : Hid (selsB s deep = true) := Lib.hid (by rw [hm.out, Sels.drop_end (Nat.le_refl _)]; rfl)
        clear hlt hb
        go_wp2_with fail
        go_ret
        exact ⟨ret_bool hf.out.symm, HB.out⟩
end Go.Proofs.YtceabbbmgfeofaaGreatDoor.Selss
