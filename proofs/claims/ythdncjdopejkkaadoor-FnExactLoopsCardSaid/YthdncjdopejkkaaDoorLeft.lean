/-
  Contracts: spec.l03Left, spec.l03All: what is left of a number behind selections, how many a Doc has; of what was there nothing is changed. Conditions: in memory.
-/
import Derived.Test.YthdncjdopejkkaaDoorRows
import Derived.Test.YthdncjdopejkkaaDoorFragM
namespace Go.Proofs.YthdncjdopejkkaaDoor.Selss
open Go.RowKit
set_option linter.unusedVariables false

theorem Sels.all_step {i : Nat} {s : Sels} {k : Int} {key nm : ByteArray} {f : Int} {u r : Sels} (h : s.drop i = .cons k key nm f u r) : (s.drop i).all = u.all + (s.drop (i + 1)).all + 1 := by
  rw [Sels.drop_succ i s h, h]; rfl

theorem specLeft : ∀ (n : Nat) (s : Sels), s.all < n → ∀ (w : World) (A B : Nat) (a : Option Addr) (cap : Nat) (left : Int), SelsAt w A B a s.len s → B ≤ w.heap.size → 0 ≤ left → left ≤ 1000 →
    Calls Tryd.prog 45 #[.slice a s.len cap, .int .i64 left] w fun e w' => e = .returned (.int .i64 (leftOf left s.all)) ∧ Below w.heap.size w w' := by
  intro n
  induction n with
  | zero => intro s h; omega
  | succ n ih =>
    intro s hall w A B a cap left hs hB h0 h1
    have hlen := hs.2.1
    have IH := Lib.hid ih
    have HS := Lib.hid hs
    clear ih hs
    go_enter Tryd.func45, Tryd.ntmps45
    go_wp2_with fail
    go_loopw [1, 5] (fun v i wr => ∃ (i' : Nat) (m : Int), i' ≤ s.len ∧ -1 ≤ m ∧ m ≤ 1000 ∧ Hid ((0 ≤ m → m + (s.all : Int) = left + ((s.drop i').all : Int)) ∧ (m < 0 → left < s.all)) ∧ v = .int .i64 m ∧ i = .int .i64 i' ∧ Below w.heap.size w wr) (fun _ i _ => s.len - (intOf i).toNat)
    case atStart => exact ⟨0, left, by omega, by omega, by omega, Lib.hid ⟨fun _ => by rw [Sels.drop_zero], fun h => by omega⟩, rfl, rfl, Below.refl _ _⟩
    case round =>
      obtain ⟨i, m, hi, hm0, hm1, hm, rfl, rfl, hb⟩ := hrel
      have HB := Lib.hid hb
      by_cases hneg : m < 0
      · obtain rfl : m = -1 := by omega
        have hf := Lib.hid (leftOf_no (left := left) (n := s.all) (hm.out.2 hneg))
        clear hb hm
        rcases (show (i : Int) < (s.len : Int) ∨ (s.len : Int) ≤ (i : Int) by omega) with hli | hli
        · go_wp2_with fail
          go_ret
          exact ⟨ret_i hf.out, HB.out⟩
        · go_wp2_with fail
          go_ret
          exact ⟨ret_i hf.out, HB.out⟩
      have hpos : 0 ≤ m := by omega
      have hm' := Lib.hid (hm.out.1 hpos)
      clear hneg hm
      by_cases hlt : i < s.len
      · have hli : (i : Int) < (s.len : Int) := by omega
        obtain ⟨k, key, nm, f, u, r, b, off, a', cap', hd, rfl, hbb, hok, ⟨hc0, hc1, hc2, hc3, hc4⟩, hu⟩ := (HS.out.below (Nat.le_refl _) (hb.mono hB)).at hlt
        have hua : u.all < n := by have := Sels.all_drop hd; omega
        have hst := Lib.hid (Sels.all_step hd)
        have HUN : Hid (∀ (w : World) (left : Int), SelsAt w A B a' u.len u → B ≤ w.heap.size → 0 ≤ left → left ≤ 1000 → Calls Tryd.prog 45 #[.slice a' u.len cap', .int .i64 left] w fun e w' => e = .returned (.int .i64 (leftOf left u.all)) ∧ Below w.heap.size w w') := Lib.hid fun w left h1 h2 h3 h4 => IH.out u hua w A B a' cap' left h1 h2 h3 h4
        have HU := Lib.hid hu
        clear hlt hd hb hu hok hc0 hc1 hc2 hc3
        by_cases hz : m = 0
        · subst hz
          have hrel : Hid ((0 ≤ (-1 : Int) → (-1 : Int) + (s.all : Int) = left + ((s.drop (i + 1)).all : Int)) ∧ ((-1 : Int) < 0 → left < s.all)) := Lib.hid ⟨fun h => by omega, fun _ => by have e1 := hm'.out; have e2 := hst.out; omega⟩
          go_wp2_with fail
          go_roundw
          case rel => exact ⟨i + 1, -1, by omega, by omega, by omega, hrel, rfl, by go_num, HB.out⟩
          case measure => simp [intOf]; omega
        · have hge : 0 ≤ m - 1 := by omega
          clear hz
          go_wp2_with fail
          refine (HUN.out _ (m - 1) HU.out (Nat.le_trans hB HB.out.size) hge (by omega)).mono ?_
          rintro e w1 ⟨rfl, hb1⟩
          have HB1 := Lib.hid (HB.out.trans (hb1.mono HB.out.size))
          clear hb1
          have hrel : Hid ((0 ≤ leftOf (m - 1) u.all → leftOf (m - 1) u.all + (s.all : Int) = left + ((s.drop (i + 1)).all : Int)) ∧ (leftOf (m - 1) u.all < 0 → left < s.all)) := Lib.hid (by
            have e1 := hm'.out; have e2 := hst.out
            unfold leftOf
            split
            · exact ⟨fun _ => by omega, fun h => by omega⟩
            · exact ⟨fun h => by omega, fun _ => by omega⟩)
          have hlo : -1 ≤ leftOf (m - 1) u.all := by unfold leftOf; split <;> omega
          have hhi : leftOf (m - 1) u.all ≤ 1000 := by unfold leftOf; split <;> omega
          generalize leftOf (m - 1) u.all = q at *
          go_wp2_with fail
          go_roundw
          case rel => exact ⟨i + 1, q, by omega, hlo, hhi, hrel, rfl, by go_num, HB1.out⟩
          case measure => simp [intOf]; omega
      · obtain rfl : i = s.len := by omega
        have hf := Lib.hid (leftOf_yes (left := left) (n := s.all) hpos (by have e1 := hm'.out; rw [Sels.drop_end (Nat.le_refl _)] at e1; simp only [Sels.all] at e1; omega))
        clear hlt hb hm'
        go_wp2_with fail
        go_ret
        exact ⟨ret_i hf.out, HB.out⟩

/-- How many selections Frags have. -/
def fragAll : List FragP → Nat
  | [] => 0
  | x :: l => x.sels.all + fragAll l
theorem fragAll_drop {l : List FragP} {i : Nat} {x : FragP} (h : l[i]? = some x) : fragAll (l.drop i) = x.sels.all + fragAll (l.drop (i + 1)) := by
  obtain ⟨hl, rfl⟩ := List.getElem?_eq_some_iff.1 h
  rw [List.drop_eq_getElem_cons hl]; rfl
def DocP.all (d : DocP) : Nat := d.sels.all + fragAll d.frags
/-- How many a Doc has, at most 61. -/
def DocP.upto (d : DocP) : Int := if d.all ≤ 60 then (d.all : Int) else 61
theorem upto_left (d : DocP) : 60 - leftOf 60 d.all = d.upto := by unfold leftOf DocP.upto; split <;> split <;> omega

theorem specAll (w : World) (A B : Nat) (v : Value) (d : DocP) (hs : DocAt w A B v d) (hB : B ≤ w.heap.size) :
    Calls Tryd.prog 26 #[v] w fun e w' => e = .returned (.int .i64 d.upto) ∧ Below w.heap.size w w' := by
  obtain ⟨a, ca, b, cb, rfl, hd, hf, _⟩ := hs
  have IH : Hid (∀ (w : World), SelsAt w A B a d.sels.len d.sels → B ≤ w.heap.size → Calls Tryd.prog 45 #[.slice a d.sels.len ca, .int .i64 60] w fun e w' => e = .returned (.int .i64 (leftOf 60 d.sels.all)) ∧ Below w.heap.size w w') :=
    Lib.hid fun w h2 h3 => specLeft (d.sels.all + 1) d.sels (Nat.lt_succ_self _) w A B a ca 60 h2 h3 (by omega) (by omega)
  have HD := Lib.hid hd
  have HF := Lib.hid hf
  have HA : Hid (∀ o, Below w.heap.size w (w.alloc o)) := Lib.hid fun o => (Below.refl _ _).alloc (Nat.le_refl _) o
  have hlen := hf.2.1
  clear hd hf
  go_enter Tryd.func26, Tryd.ntmps26
  go_wp2_with fail
  refine (IH.out _ (HD.out.below hB (HA.out _)) (Nat.le_trans hB (HA.out _).size)).mono ?_
  rintro e w1 ⟨rfl, hb1⟩
  have HB1 := Lib.hid ((HA.out _).trans (hb1.mono (HA.out _).size))
  have k1 := hb1.cell (p := ⟨w.heap.size, 1, none⟩) (by simp)
  simp at k1
  have HZ : Hid (w.heap.size < w1.heap.size) := Lib.hid (by have := hb1.size; simp at this; omega)
  clear hb1
  go_wp2_with fail
  have hq0 : Hid ((0 ≤ leftOf 60 d.sels.all → leftOf 60 d.sels.all + (d.all : Int) = 60 + (fragAll (d.frags.drop 0) : Int)) ∧ (leftOf 60 d.sels.all < 0 → 60 < (d.all : Int))) := Lib.hid (by
    unfold leftOf DocP.all; rw [List.drop_zero]
    split
    · exact ⟨fun _ => by omega, fun h => by omega⟩
    · exact ⟨fun h => by omega, fun _ => by omega⟩)
  have hlo0 : -1 ≤ leftOf 60 d.sels.all := by unfold leftOf; split <;> omega
  have hhi0 : leftOf 60 d.sels.all ≤ 1000 := by unfold leftOf; split <;> omega
  generalize leftOf 60 d.sels.all = q0 at *
  go_loopw [3, 4] (fun v i wr => ∃ (i' : Nat) (m : Int), i' ≤ d.frags.length ∧ -1 ≤ m ∧ m ≤ 1000 ∧ Hid ((0 ≤ m → m + (d.all : Int) = 60 + (fragAll (d.frags.drop i') : Int)) ∧ (m < 0 → 60 < (d.all : Int))) ∧ v = .int .i64 m ∧ i = .int .i64 i' ∧ wr.cell? ⟨w.heap.size, 1, none⟩ = some (.slice b d.frags.length cb) ∧ w.heap.size < wr.heap.size ∧ Below w.heap.size w wr) (fun _ i _ => d.frags.length - (intOf i).toNat)
  case atStart => exact ⟨0, q0, by omega, hlo0, hhi0, hq0, rfl, rfl, k1, HZ.out, HB1.out⟩
  case round =>
    obtain ⟨i, m, hi, hm0, hm1, hm, rfl, rfl, hk, hz, hb⟩ := hrel
    have HB := Lib.hid hb
    clear k1
    by_cases hneg : m < 0
    · obtain rfl : m = -1 := by omega
      have hf : Hid (60 - (-1 : Int) = d.upto) := Lib.hid (by have := hm.out.2 hneg; unfold DocP.upto; rw [if_neg (by omega)]; rfl)
      clear hb hm
      rcases (show (i : Int) < (d.frags.length : Int) ∨ (d.frags.length : Int) ≤ (i : Int) by omega) with hli | hli
      · go_wp2_with fail
        go_ret
        exact ⟨ret_i hf.out, HB.out⟩
      · go_wp2_with fail
        go_ret
        exact ⟨ret_i hf.out, HB.out⟩
    have hpos : 0 ≤ m := by omega
    have hm' := Lib.hid (hm.out.1 hpos)
    clear hneg hm
    by_cases hlt : i < d.frags.length
    · have hli : (i : Int) < (d.frags.length : Int) := by omega
      obtain ⟨x, fb, off, a', cap', hd, rfl, hbb, hok, ⟨hc0, hc1, hc2⟩, hu⟩ := (HF.out.below (Nat.le_refl _) (hb.mono hB)).at hlt
      have hst := Lib.hid (fragAll_drop hd)
      have HUN : Hid (∀ (w : World) (left : Int), SelsAt w A B a' x.sels.len x.sels → B ≤ w.heap.size → 0 ≤ left → left ≤ 1000 → Calls Tryd.prog 45 #[.slice a' x.sels.len cap', .int .i64 left] w fun e w' => e = .returned (.int .i64 (leftOf left x.sels.all)) ∧ Below w.heap.size w w') := Lib.hid fun w left h1 h2 h3 h4 => specLeft (x.sels.all + 1) x.sels (Nat.lt_succ_self _) w A B a' cap' left h1 h2 h3 h4
      have HU := Lib.hid hu
      clear hlt hd hb hu hok hc0 hc1
      go_wp2_with fail
      refine (HUN.out _ m HU.out (Nat.le_trans hB HB.out.size) hpos hm1).mono ?_
      rintro e w2 ⟨rfl, hb2⟩
      have HB2 := Lib.hid (HB.out.trans (hb2.mono HB.out.size))
      have k2 := (hb2.cell (p := ⟨w.heap.size, 1, none⟩) hz).trans hk
      have hz2 : w.heap.size < w2.heap.size := Nat.lt_of_lt_of_le hz hb2.size
      clear hb2 hk hc2
      have hrel : Hid ((0 ≤ leftOf m x.sels.all → leftOf m x.sels.all + (d.all : Int) = 60 + (fragAll (d.frags.drop (i + 1)) : Int)) ∧ (leftOf m x.sels.all < 0 → 60 < (d.all : Int))) := Lib.hid (by
        have e1 := hm'.out; have e2 := hst.out
        unfold leftOf
        split
        · exact ⟨fun _ => by omega, fun h => by omega⟩
        · exact ⟨fun h => by omega, fun _ => by omega⟩)
      have hlo : -1 ≤ leftOf m x.sels.all := by unfold leftOf; split <;> omega
      have hhi : leftOf m x.sels.all ≤ 1000 := by unfold leftOf; split <;> omega
      generalize leftOf m x.sels.all = q at *
      go_wp2_with fail
      go_roundw
      case rel => exact ⟨i + 1, q, by omega, hlo, hhi, hrel, rfl, by go_num, k2, hz2, HB2.out⟩
      case measure => simp [intOf]; omega
    · obtain rfl : i = d.frags.length := by omega
      have hf : Hid (60 - m = d.upto) := Lib.hid (by
        have e1 := hm'.out; rw [List.drop_length] at e1; simp only [fragAll] at e1; unfold DocP.upto; rw [if_pos (by omega)]; omega)
      clear hlt hb hm'
      go_wp2_with fail
      go_ret
      exact ⟨ret_i hf.out, HB.out⟩
end Go.Proofs.YthdncjdopejkkaaDoor.Selss
