/-
  Contracts: laws.szSel, szSelS, szFrag, szFragS, szDoc tell what is left of a number behind what is in memory; of what was there nothing is changed. Conditions: in memory.
-/
import Derived.Test.YthdncjdopejkkaaDoorRows
import Derived.Test.YthdncjdopejkkaaDoorFragM
namespace Go.Proofs.YthdncjdopejkkaaDoor.Selss
open Go.RowKit
set_option linter.unusedVariables false
set_option maxRecDepth 100000

theorem szSel (w : World) (A B : Nat) (hB : B ≤ w.heap.size) (k : Int) (key nm : ByteArray) (f : Int) (a : Option Addr) (cap : Nat) (u : Sels)
    (ih : ∀ (w : World) (left : Int), SelsAt w A B a u.len u → B ≤ w.heap.size → 0 ≤ left → left ≤ 1048576 → Calls Tryd.prog 12 #[.slice a u.len cap, .int .i64 left] w fun e w' => e = .returned (.int .i64 (leftOf left (u.len + u.wt))) ∧ Below w.heap.size w w')
    (hs : SelsAt w A B a u.len u) (hk : OkS key) (hn : OkS nm) (left : Int) (h0 : 0 ≤ left) (h1 : left ≤ 1048576) :
    Calls Tryd.prog 24 #[.agg #[.int .i64 k, .string key, .string nm, .int .i64 f, .slice a u.len cap], .int .i64 left] w fun e w' => e = .returned (.int .i64 (leftOf left (key.size + nm.size + u.len + u.wt))) ∧ Below w.heap.size w w' := by
  unfold OkS at hk hn
  have IH := Lib.hid ih
  have HS := Lib.hid hs
  have HA : Hid (∀ o, Below w.heap.size w (w.alloc o)) := Lib.hid fun o => (Below.refl _ _).alloc (Nat.le_refl _) o
  have HR : Hid (∀ m : Int, m < 0 → m ≤ left - key.size → leftOf left (key.size + nm.size + u.len + u.wt) = leftOf left (key.size + nm.size + u.len + u.wt)) := Lib.hid fun _ _ _ => rfl
  clear ih hs HR
  by_cases c1 : left - (key.size : Int) < 0
  · have hf := Lib.hid (leftOf_no (left := left) (n := key.size + nm.size + u.len + u.wt) (by omega))
    go_enter Tryd.func24, Tryd.ntmps24
    go_wp2_with fail
    go_ret
    exact ⟨ret_i hf.out, HA.out _⟩
  have c1' : 0 ≤ left - (key.size : Int) := by omega
  clear c1
  by_cases c2 : left - (key.size : Int) - (nm.size : Int) < 0
  · have hf := Lib.hid (leftOf_no (left := left) (n := key.size + nm.size + u.len + u.wt) (by omega))
    go_enter Tryd.func24, Tryd.ntmps24
    go_wp2_with fail
    go_ret
    exact ⟨ret_i hf.out, HA.out _⟩
  have c2' : 0 ≤ left - (key.size : Int) - (nm.size : Int) := by omega
  clear c2
  go_enter Tryd.func24, Tryd.ntmps24
  go_wp2_with fail
  refine (IH.out _ _ (HS.out.below hB (HA.out _)) (Nat.le_trans hB (HA.out _).size) (by omega) (by omega)).mono ?_
  rintro e w1 ⟨rfl, hb1⟩
  have HB1 := Lib.hid ((HA.out _).trans (hb1.mono (HA.out _).size))
  clear hb1
  by_cases c3 : ((u.len + u.wt : Nat) : Int) ≤ left - (key.size : Int) - (nm.size : Int)
  · have e3 : leftOf (left - (key.size : Int) - (nm.size : Int)) (u.len + u.wt) = left - (key.size : Int) - (nm.size : Int) - ((u.len + u.wt : Nat) : Int) := if_pos c3
    rw [e3]
    have hf := Lib.hid (leftOf_yes (left := left) (n := key.size + nm.size + u.len + u.wt) (m := left - (key.size : Int) - (nm.size : Int) - ((u.len + u.wt : Nat) : Int)) (by omega) (by omega))
    have hlo : 0 ≤ left - (key.size : Int) - (nm.size : Int) - ((u.len + u.wt : Nat) : Int) := by omega
    generalize left - (key.size : Int) - (nm.size : Int) - ((u.len + u.wt : Nat) : Int) = m at *
    go_wp2_with fail
    go_ret
    exact ⟨ret_i hf.out, HB1.out⟩
  · have e3 : leftOf (left - (key.size : Int) - (nm.size : Int)) (u.len + u.wt) = -1 := if_neg c3
    rw [e3]
    have hf := Lib.hid (leftOf_no (left := left) (n := key.size + nm.size + u.len + u.wt) (by omega))
    clear c3
    go_wp2_with fail
    go_ret
    exact ⟨ret_i hf.out, HB1.out⟩
theorem szSelS : ∀ (n : Nat) (s : Sels), s.all < n → ∀ (w : World) (A B : Nat) (a : Option Addr) (cap : Nat) (left : Int), SelsAt w A B a s.len s → B ≤ w.heap.size → 0 ≤ left → left ≤ 1048576 →
    Calls Tryd.prog 12 #[.slice a s.len cap, .int .i64 left] w fun e w' => e = .returned (.int .i64 (leftOf left (s.len + s.wt))) ∧ Below w.heap.size w w' := by
  intro n
  induction n with
  | zero => intro s h; omega
  | succ n ih =>
    intro s hall w A B a cap left hs hB h0 h1
    have hlen := hs.2.1
    have IH := Lib.hid ih
    have HS := Lib.hid hs
    clear ih hs
    by_cases c1 : left - (s.len : Int) < 0
    · have hf := Lib.hid (leftOf_no (left := left) (n := s.len + s.wt) (by omega))
      go_enter Tryd.func12, Tryd.ntmps12
      go_wp2_with fail
      go_ret
      exact ⟨ret_i hf.out, Below.refl _ _⟩
    have c1' : 0 ≤ left - (s.len : Int) := by omega
    clear c1
    go_enter Tryd.func12, Tryd.ntmps12
    go_wp2_with fail
    go_loopw [1, 5] (fun v i wr => ∃ (i' : Nat) (m : Int), i' ≤ s.len ∧ 0 ≤ m ∧ m ≤ 1048576 ∧ Hid (m + ((s.len + s.wt : Nat) : Int) = left + ((s.drop i').wt : Int)) ∧ v = .int .i64 m ∧ i = .int .i64 i' ∧ Below w.heap.size w wr) (fun _ i _ => s.len - (intOf i).toNat)
    case atStart => exact ⟨0, left - s.len, by omega, by omega, by omega, Lib.hid (by rw [Sels.drop_zero]; omega), rfl, rfl, Below.refl _ _⟩
    case round =>
      obtain ⟨i, m, hi, hm0, hm1, hm, rfl, rfl, hb⟩ := hrel
      by_cases hlt : i < s.len
      · have hli : (i : Int) < (s.len : Int) := by omega
        obtain ⟨k, key, nm, f, u, r, b, off, a', cap', hd, rfl, hbb, ⟨ok, okey, onm, of⟩, ⟨hc0, hc1, hc2, hc3, hc4⟩, hu⟩ := (HS.out.below (Nat.le_refl _) (hb.mono hB)).at hlt
        have hua : u.all < n := by have := Sels.all_drop hd; omega
        have hwt := Lib.hid (Sels.wt_drop hd)
        have HUN : Hid (∀ (w : World) (left : Int), SelsAt w A B a' u.len u → B ≤ w.heap.size → 0 ≤ left → left ≤ 1048576 → Calls Tryd.prog 12 #[.slice a' u.len cap', .int .i64 left] w fun e w' => e = .returned (.int .i64 (leftOf left (u.len + u.wt))) ∧ Below w.heap.size w w') := Lib.hid fun w left h1 h2 h3 h4 => IH.out u hua w A B a' cap' left h1 h2 h3 h4
        have HB := Lib.hid hb
        clear hlt hd hb
        go_wp2_with fail
        refine (szSel _ A B (Nat.le_trans hB HB.out.size) k key nm f a' cap' u HUN.out hu okey onm m hm0 hm1).mono ?_
        rintro e w1 ⟨rfl, hb1⟩
        have HB1 := Lib.hid (HB.out.trans (hb1.mono HB.out.size))
        clear hb1 hu
        by_cases c3 : ((key.size + nm.size + u.len + u.wt : Nat) : Int) ≤ m
        · have e3 : leftOf m (key.size + nm.size + u.len + u.wt) = m - ((key.size + nm.size + u.len + u.wt : Nat) : Int) := if_pos c3
          rw [e3]
          have hlo : 0 ≤ m - ((key.size + nm.size + u.len + u.wt : Nat) : Int) := by omega
          have hhi : m - ((key.size + nm.size + u.len + u.wt : Nat) : Int) ≤ 1048576 := by omega
          have hrel : Hid (m - ((key.size + nm.size + u.len + u.wt : Nat) : Int) + ((s.len + s.wt : Nat) : Int) = left + ((s.drop (i + 1)).wt : Int)) := Lib.hid (by
            have e1 := hm.out; have e2 := hwt.out; omega)
          generalize m - ((key.size + nm.size + u.len + u.wt : Nat) : Int) = m' at *
          clear c3 e3 hm
          go_wp2_with fail
          go_roundw
          case rel => exact ⟨i + 1, m', by omega, hlo, hhi, hrel, rfl, by go_num, HB1.out⟩
          case measure => simp [intOf]; omega
        · have e3 : leftOf m (key.size + nm.size + u.len + u.wt) = -1 := if_neg c3
          rw [e3]
          have hf := Lib.hid (leftOf_no (left := left) (n := s.len + s.wt) (by have e1 := hm.out; have e2 := hwt.out; omega))
          clear c3 e3 hm
          go_wp2_with fail
          go_ret
          exact ⟨ret_i hf.out, HB1.out⟩
      · obtain rfl : i = s.len := by omega
        have HB := Lib.hid hb
        have hf := Lib.hid (leftOf_yes (left := left) (n := s.len + s.wt) hm0 (by have e1 := hm.out; rw [Sels.drop_end (Nat.le_refl _)] at e1; simp only [Sels.wt] at e1; omega))
        clear hlt hb hm
        go_wp2_with fail
        go_ret
        exact ⟨ret_i hf.out, HB.out⟩
theorem szFrag (w : World) (A B : Nat) (hB : B ≤ w.heap.size) (key nm : ByteArray) (a : Option Addr) (cap : Nat) (u : Sels)
    (hs : SelsAt w A B a u.len u) (hk : OkS key) (hn : OkS nm) (left : Int) (h0 : 0 ≤ left) (h1 : left ≤ 1048576) :
    Calls Tryd.prog 25 #[.agg #[.string key, .string nm, .slice a u.len cap], .int .i64 left] w fun e w' => e = .returned (.int .i64 (leftOf left (key.size + nm.size + u.len + u.wt))) ∧ Below w.heap.size w w' := by
  unfold OkS at hk hn
  have IH : Hid (∀ (w : World) (left : Int), SelsAt w A B a u.len u → B ≤ w.heap.size → 0 ≤ left → left ≤ 1048576 → Calls Tryd.prog 12 #[.slice a u.len cap, .int .i64 left] w fun e w' => e = .returned (.int .i64 (leftOf left (u.len + u.wt))) ∧ Below w.heap.size w w') :=
    Lib.hid fun w left h1 h2 h3 h4 => szSelS (u.all + 1) u (Nat.lt_succ_self _) w A B a cap left h1 h2 h3 h4
  have HS := Lib.hid hs
  have HA : Hid (∀ o, Below w.heap.size w (w.alloc o)) := Lib.hid fun o => (Below.refl _ _).alloc (Nat.le_refl _) o
  clear hs
  by_cases c1 : left - (key.size : Int) < 0
  · have hf := Lib.hid (leftOf_no (left := left) (n := key.size + nm.size + u.len + u.wt) (by omega))
    go_enter Tryd.func25, Tryd.ntmps25
    go_wp2_with fail
    go_ret
    exact ⟨ret_i hf.out, HA.out _⟩
  have c1' : 0 ≤ left - (key.size : Int) := by omega
  clear c1
  by_cases c2 : left - (key.size : Int) - (nm.size : Int) < 0
  · have hf := Lib.hid (leftOf_no (left := left) (n := key.size + nm.size + u.len + u.wt) (by omega))
    go_enter Tryd.func25, Tryd.ntmps25
    go_wp2_with fail
    go_ret
    exact ⟨ret_i hf.out, HA.out _⟩
  have c2' : 0 ≤ left - (key.size : Int) - (nm.size : Int) := by omega
  clear c2
  go_enter Tryd.func25, Tryd.ntmps25
  go_wp2_with fail
  refine (IH.out _ _ (HS.out.below hB (HA.out _)) (Nat.le_trans hB (HA.out _).size) (by omega) (by omega)).mono ?_
  rintro e w1 ⟨rfl, hb1⟩
  have HB1 := Lib.hid ((HA.out _).trans (hb1.mono (HA.out _).size))
  clear hb1
  by_cases c3 : ((u.len + u.wt : Nat) : Int) ≤ left - (key.size : Int) - (nm.size : Int)
  · have e3 : leftOf (left - (key.size : Int) - (nm.size : Int)) (u.len + u.wt) = left - (key.size : Int) - (nm.size : Int) - ((u.len + u.wt : Nat) : Int) := if_pos c3
    rw [e3]
    have hf := Lib.hid (leftOf_yes (left := left) (n := key.size + nm.size + u.len + u.wt) (m := left - (key.size : Int) - (nm.size : Int) - ((u.len + u.wt : Nat) : Int)) (by omega) (by omega))
    have hlo : 0 ≤ left - (key.size : Int) - (nm.size : Int) - ((u.len + u.wt : Nat) : Int) := by omega
    generalize left - (key.size : Int) - (nm.size : Int) - ((u.len + u.wt : Nat) : Int) = m at *
    go_wp2_with fail
    go_ret
    exact ⟨ret_i hf.out, HB1.out⟩
  · have e3 : leftOf (left - (key.size : Int) - (nm.size : Int)) (u.len + u.wt) = -1 := if_neg c3
    rw [e3]
    have hf := Lib.hid (leftOf_no (left := left) (n := key.size + nm.size + u.len + u.wt) (by omega))
    clear c3
    go_wp2_with fail
    go_ret
    exact ⟨ret_i hf.out, HB1.out⟩
theorem szFragS (w : World) (A B : Nat) (a : Option Addr) (len cap : Nat) (l : List FragP) (left : Int) (hs : FragsAt w A B a len l) (hB : B ≤ w.heap.size) (h0 : 0 ≤ left) (h1 : left ≤ 1048576) :
    Calls Tryd.prog 13 #[.slice a len cap, .int .i64 left] w fun e w' => e = .returned (.int .i64 (leftOf left (len + fragWt l))) ∧ Below w.heap.size w w' := by
  have hlen := hs.2.1
  have HS := Lib.hid hs
  clear hs
  by_cases c1 : left - (len : Int) < 0
  · have hf := Lib.hid (leftOf_no (left := left) (n := len + fragWt l) (by omega))
    go_enter Tryd.func13, Tryd.ntmps13
    go_wp2_with fail
    go_ret
    exact ⟨ret_i hf.out, Below.refl _ _⟩
  have c1' : 0 ≤ left - (len : Int) := by omega
  clear c1
  go_enter Tryd.func13, Tryd.ntmps13
  go_wp2_with fail
  go_loopw [1, 5] (fun v i wr => ∃ (i' : Nat) (m : Int), i' ≤ len ∧ 0 ≤ m ∧ m ≤ 1048576 ∧ Hid (m + ((len + fragWt l : Nat) : Int) = left + (fragWt (l.drop i') : Int)) ∧ v = .int .i64 m ∧ i = .int .i64 i' ∧ Below w.heap.size w wr) (fun _ i _ => len - (intOf i).toNat)
  case atStart => exact ⟨0, left - len, by omega, by omega, by omega, Lib.hid (by rw [List.drop_zero]; omega), rfl, rfl, Below.refl _ _⟩
  case round =>
    obtain ⟨i, m, hi, hm0, hm1, hm, rfl, rfl, hb⟩ := hrel
    by_cases hlt : i < len
    · have hli : (i : Int) < (len : Int) := by omega
      obtain ⟨⟨key, nm, u⟩, b, off, a', cap', hd, rfl, hbb, ⟨okey, onm⟩, ⟨hc0, hc1, hc2⟩, hu⟩ := (HS.out.below (Nat.le_refl _) (hb.mono hB)).at hlt
      have hwt := Lib.hid (fragWt_drop hd)
      dsimp only at hwt okey onm hc0 hc1 hc2 hu
      have HB := Lib.hid hb
      clear hlt hd hb
      go_wp2_with fail
      refine (szFrag _ A B (Nat.le_trans hB HB.out.size) key nm a' cap' u hu okey onm m hm0 hm1).mono ?_
      rintro e w1 ⟨rfl, hb1⟩
      have HB1 := Lib.hid (HB.out.trans (hb1.mono HB.out.size))
      clear hb1 hu
      by_cases c3 : ((key.size + nm.size + u.len + u.wt : Nat) : Int) ≤ m
      · have e3 : leftOf m (key.size + nm.size + u.len + u.wt) = m - ((key.size + nm.size + u.len + u.wt : Nat) : Int) := if_pos c3
        rw [e3]
        have hlo : 0 ≤ m - ((key.size + nm.size + u.len + u.wt : Nat) : Int) := by omega
        have hhi : m - ((key.size + nm.size + u.len + u.wt : Nat) : Int) ≤ 1048576 := by omega
        have hrel : Hid (m - ((key.size + nm.size + u.len + u.wt : Nat) : Int) + ((len + fragWt l : Nat) : Int) = left + (fragWt (l.drop (i + 1)) : Int)) := Lib.hid (by
          have e1 := hm.out; have e2 := hwt.out; omega)
        generalize m - ((key.size + nm.size + u.len + u.wt : Nat) : Int) = m' at *
        clear c3 e3 hm
        go_wp2_with fail
        go_roundw
        case rel => exact ⟨i + 1, m', by omega, hlo, hhi, hrel, rfl, by go_num, HB1.out⟩
        case measure => simp [intOf]; omega
      · have e3 : leftOf m (key.size + nm.size + u.len + u.wt) = -1 := if_neg c3
        rw [e3]
        have hf := Lib.hid (leftOf_no (left := left) (n := len + fragWt l) (by have e1 := hm.out; have e2 := hwt.out; omega))
        clear c3 e3 hm
        go_wp2_with fail
        go_ret
        exact ⟨ret_i hf.out, HB1.out⟩
    · obtain rfl : i = len := by omega
      have HB := Lib.hid hb
      have hf := Lib.hid (leftOf_yes (left := left) (n := i + fragWt l) hm0 (by have e1 := hm.out; rw [List.drop_eq_nil_of_le (by rw [HS.out.1]; exact Nat.le_refl _)] at e1; simp only [fragWt] at e1; omega))
      clear hlt hb hm
      go_wp2_with fail
      go_ret
      exact ⟨ret_i hf.out, HB.out⟩
theorem szDoc (w : World) (A B : Nat) (v : Value) (d : DocP) (left : Int) (hs : DocAt w A B v d) (hB : B ≤ w.heap.size) (h0 : 0 ≤ left) (h1 : left ≤ 1048576) :
    Calls Tryd.prog 5 #[v, .int .i64 left] w fun e w' => e = .returned (.int .i64 (leftOf left d.wt)) ∧ Below w.heap.size w w' := by
  obtain ⟨a, ca, b, cb, rfl, hd, hf, _⟩ := hs
  have IH : Hid (∀ (w : World), SelsAt w A B a d.sels.len d.sels → B ≤ w.heap.size → Calls Tryd.prog 12 #[.slice a d.sels.len ca, .int .i64 left] w fun e w' => e = .returned (.int .i64 (leftOf left (d.sels.len + d.sels.wt))) ∧ Below w.heap.size w w') :=
    Lib.hid fun w h2 h3 => szSelS (d.sels.all + 1) d.sels (Nat.lt_succ_self _) w A B a ca left h2 h3 h0 h1
  have HD := Lib.hid hd
  have HF := Lib.hid hf
  have HA : Hid (∀ o, Below w.heap.size w (w.alloc o)) := Lib.hid fun o => (Below.refl _ _).alloc (Nat.le_refl _) o
  clear hd hf
  go_enter Tryd.func5, Tryd.ntmps5
  go_wp2_with fail
  refine (IH.out _ (HD.out.below hB (HA.out _)) (Nat.le_trans hB (HA.out _).size)).mono ?_
  rintro e w1 ⟨rfl, hb1⟩
  have HB1 := Lib.hid ((HA.out _).trans (hb1.mono (HA.out _).size))
  have k0 := hb1.cell (p := ⟨w.heap.size, 0, none⟩) (by simp)
  have k1 := hb1.cell (p := ⟨w.heap.size, 1, none⟩) (by simp)
  simp at k0 k1
  clear hb1
  by_cases c3 : ((d.sels.len + d.sels.wt : Nat) : Int) ≤ left
  · have e3 : leftOf left (d.sels.len + d.sels.wt) = left - ((d.sels.len + d.sels.wt : Nat) : Int) := if_pos c3
    have e4 : Hid (leftOf (left - ((d.sels.len + d.sels.wt : Nat) : Int)) (d.frags.length + fragWt d.frags) = leftOf left d.wt) := Lib.hid (by rw [← e3]; exact leftOf_two c3)
    rw [e3]
    have hlo : 0 ≤ left - ((d.sels.len + d.sels.wt : Nat) : Int) := by omega
    have hhi : left - ((d.sels.len + d.sels.wt : Nat) : Int) ≤ 1048576 := by omega
    generalize left - ((d.sels.len + d.sels.wt : Nat) : Int) = m at *
    clear c3 e3
    go_wp2_with fail
    refine (szFragS _ A B b _ cb d.frags m (HF.out.below hB HB1.out) (Nat.le_trans hB HB1.out.size) hlo hhi).mono ?_
    rintro e w2 ⟨rfl, hb2⟩
    have HB2 := Lib.hid (HB1.out.trans (hb2.mono HB1.out.size))
    have e5 := e4.out
    clear hb2 k0 k1
    rw [e5]
    have hx : leftOf left d.wt = -1 ∨ 0 ≤ leftOf left d.wt := by unfold leftOf; split <;> omega
    obtain ⟨x, hxe⟩ : ∃ x, leftOf left d.wt = x := ⟨_, rfl⟩
    rw [hxe] at hx ⊢
    have HX := Lib.hid hxe
    clear hxe e5 e4
    rcases hx with rfl | hx
    · go_wp2_with fail
      go_ret
      exact ⟨ret_i HX.out.symm, HB2.out⟩
    · go_wp2_with fail
      go_ret
      exact ⟨ret_i HX.out.symm, HB2.out⟩
  · have e3 : leftOf left (d.sels.len + d.sels.wt) = -1 := if_neg c3
    have hf := Lib.hid (leftOf_wide (n := d.frags.length + fragWt d.frags) c3)
    rw [e3]
    clear c3
    go_wp2_with fail
    go_ret
    exact ⟨ret_i hf.out.symm, HB1.out⟩
end Go.Proofs.YthdncjdopejkkaaDoor.Selss
