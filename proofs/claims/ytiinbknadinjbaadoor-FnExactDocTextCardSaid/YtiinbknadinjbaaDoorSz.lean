/-
  Contracts: laws.szSelS tells what is left of a number behind the sizes of selections; of what was there nothing is changed. Conditions: selections in memory.
-/
import Derived.Test.YtiinbknadinjbaaDoorRows
import Derived.Test.YtiinbknadinjbaaDoorSels
import Derived.Outline
import Derived.Lib.Hide
import Derived.RegionTactic
import Derived.BigRegion
namespace Go.Proofs.YtiinbknadinjbaaDoor.Selss
open Go.RowKit
set_option linter.unusedVariables false

/-- What selections weigh, beside how many stand at the top. -/
def Sels.wt : Sels → Nat
  | nil => 0
  | cons _ key nm _ u r => key.size + nm.size + u.len + u.wt + r.wt
/-- What is left of a number behind a weight; -1: it is too much. -/
def leftOf (left : Int) (n : Nat) : Int := if (n : Int) ≤ left then left - n else -1
theorem leftOf_no {left : Int} {n : Nat} (h : left < n) : (-1 : Int) = leftOf left n := (if_neg (by omega)).symm
theorem leftOf_yes {left m : Int} {n : Nat} (h : 0 ≤ m) (e : m = left - n) : m = leftOf left n := by unfold leftOf; rw [if_pos (by omega)]; exact e
theorem ret_i {k : IntKind} {a b : Int} (h : a = b) : Ending.returned (.int k a) = .returned (.int k b) := by rw [h]

theorem szSel (w : World) (A B : Nat) (hB : B ≤ w.heap.size) (k : Int) (key nm : ByteArray) (f : Int) (a : Option Addr) (cap : Nat) (u : Sels)
    (ih : ∀ (w : World) (left : Int), SelsAt w A B a u.len u → B ≤ w.heap.size → 0 ≤ left → left ≤ 1048576 → Calls Tryd.prog 9 #[.slice a u.len cap, .int .i64 left] w fun e w' => e = .returned (.int .i64 (leftOf left (u.len + u.wt))) ∧ Below w.heap.size w w')
    (hs : SelsAt w A B a u.len u) (hk : OkS key) (hn : OkS nm) (left : Int) (h0 : 0 ≤ left) (h1 : left ≤ 1048576) :
    Calls Tryd.prog 20 #[.agg #[.int .i64 k, .string key, .string nm, .int .i64 f, .slice a u.len cap], .int .i64 left] w fun e w' => e = .returned (.int .i64 (leftOf left (key.size + nm.size + u.len + u.wt))) ∧ Below w.heap.size w w' := by
  unfold OkS at hk hn
  have IH := Lib.hid ih
  have HS := Lib.hid hs
  have HA : Hid (∀ o, Below w.heap.size w (w.alloc o)) := Lib.hid fun o => (Below.refl _ _).alloc (Nat.le_refl _) o
  have HR : Hid (∀ m : Int, m < 0 → m ≤ left - key.size → leftOf left (key.size + nm.size + u.len + u.wt) = leftOf left (key.size + nm.size + u.len + u.wt)) := Lib.hid fun _ _ _ => rfl
  clear ih hs HR
  by_cases c1 : left - (key.size : Int) < 0
  · have hf := Lib.hid (leftOf_no (left := left) (n := key.size + nm.size + u.len + u.wt) (by omega))
    go_enter Tryd.func20, Tryd.ntmps20
    go_wp2_with fail
    go_ret
    exact ⟨ret_i hf.out, HA.out _⟩
  have c1' : 0 ≤ left - (key.size : Int) := by omega
  clear c1
  by_cases c2 : left - (key.size : Int) - (nm.size : Int) < 0
  · have hf := Lib.hid (leftOf_no (left := left) (n := key.size + nm.size + u.len + u.wt) (by omega))
    go_enter Tryd.func20, Tryd.ntmps20
    go_wp2_with fail
    go_ret
    exact ⟨ret_i hf.out, HA.out _⟩
  have c2' : 0 ≤ left - (key.size : Int) - (nm.size : Int) := by omega
  clear c2
  go_enter Tryd.func20, Tryd.ntmps20
  go_wp2_with fail
  refine (IH.out _ _ (HS.out.below hB (HA.out _)) (Nat.le_trans hB (HA.out _).size) (by omega) (by omega)).mono ?_
  rintro e w1 ⟨rfl, hb1⟩
  have HB1 := Lib.hid ((HA.out _).trans (hb1.mono (HA.out _).size))
  clear hb1
  by_cases c3 : ((u.len + u.wt : Nat) : Int) ≤ left - (key.size : Int) - (nm.size : Int)
  · have e3 : leftOf (left - (key.size : Int) - (nm.size : Int)) (u.len + u.wt) = left - (key.size : Int) - (nm.size : Int) - ((u.len + u.wt : Nat) : Int) := if_pos c3
    rw [e3]
    have hf := Lib.hid (leftOf_yes (left := left) (n := key.size + nm.size + u.len + u.wt) (m := left - (key.size : Int) - (nm.size : Int) - ((u.len + u.wt : Nat) : Int)) (by omega) (by omega))
    have hlo : 0 ≤ left - (key.size : Int) - (nm.size : Int) - ((u.len + u.wt : Nat) : Int) := by omega
    generalize left - (key.size : Int) - (nm.size : Int) - ((u.len + u.wt : Nat) : Int) = m at *
    go_wp2_with fail
    go_ret
    exact ⟨ret_i hf.out, HB1.out⟩
  · have e3 : leftOf (left - (key.size : Int) - (nm.size : Int)) (u.len + u.wt) = -1 := if_neg c3
    rw [e3]
    have hf := Lib.hid (leftOf_no (left := left) (n := key.size + nm.size + u.len + u.wt) (by omega))
    clear c3
    go_wp2_with fail
    go_ret
    exact ⟨ret_i hf.out, HB1.out⟩

theorem Sels.wt_drop {i : Nat} {s : Sels} {k : Int} {key nm : ByteArray} {f : Int} {u r : Sels} (h : s.drop i = .cons k key nm f u r) : (s.drop i).wt = key.size + nm.size + u.len + u.wt + (s.drop (i + 1)).wt := by
  rw [Sels.drop_succ i s h, h]; rfl
theorem Sels.all_drop {i : Nat} {s : Sels} {k : Int} {key nm : ByteArray} {f : Int} {u r : Sels} (h : s.drop i = .cons k key nm f u r) : u.all < s.all := by
  have := Sels.drop_all i s; rw [h] at this; simp only [Sels.all] at this; omega

theorem szSelS : ∀ (n : Nat) (s : Sels), s.all < n → ∀ (w : World) (A B : Nat) (a : Option Addr) (cap : Nat) (left : Int), SelsAt w A B a s.len s → B ≤ w.heap.size → 0 ≤ left → left ≤ 1048576 →
    Calls Tryd.prog 9 #[.slice a s.len cap, .int .i64 left] w fun e w' => e = .returned (.int .i64 (leftOf left (s.len + s.wt))) ∧ Below w.heap.size w w' := by
  intro n
  induction n with
  | zero => intro s h; omega
  | succ n ih =>
    intro s hall w A B a cap left hs hB h0 h1
    have hlen := hs.2.1
    have IH := Lib.hid ih
    have HS := Lib.hid hs
    clear ih hs
    by_cases c1 : left - (s.len : Int) < 0
    · have hf := Lib.hid (leftOf_no (left := left) (n := s.len + s.wt) (by omega))
      go_enter Tryd.func9, Tryd.ntmps9
      go_wp2_with fail
      go_ret
      exact ⟨ret_i hf.out, Below.refl _ _⟩
    have c1' : 0 ≤ left - (s.len : Int) := by omega
    clear c1
    go_enter Tryd.func9, Tryd.ntmps9
    go_wp2_with fail
    go_loopw [1, 5] (fun v i wr => ∃ (i' : Nat) (m : Int), i' ≤ s.len ∧ 0 ≤ m ∧ m ≤ 1048576 ∧ Hid (m + ((s.len + s.wt : Nat) : Int) = left + ((s.drop i').wt : Int)) ∧ v = .int .i64 m ∧ i = .int .i64 i' ∧ Below w.heap.size w wr) (fun _ i _ => s.len - (intOf i).toNat)
    case atStart => exact ⟨0, left - s.len, by omega, by omega, by omega, Lib.hid (by rw [Sels.drop_zero]; omega), rfl, rfl, Below.refl _ _⟩
    case round =>
      obtain ⟨i, m, hi, hm0, hm1, hm, rfl, rfl, hb⟩ := hrel
      by_cases hlt : i < s.len
      · have hli : (i : Int) < (s.len : Int) := by omega
        obtain ⟨k, key, nm, f, u, r, b, off, a', cap', hd, rfl, hbb, ⟨ok, okey, onm, of⟩, ⟨hc0, hc1, hc2, hc3, hc4⟩, hu⟩ := (HS.out.below (Nat.le_refl _) (hb.mono hB)).at hlt
        have hua : u.all < n := by have := Sels.all_drop hd; omega
        have hwt := Lib.hid (Sels.wt_drop hd)
        have HUN : Hid (∀ (w : World) (left : Int), SelsAt w A B a' u.len u → B ≤ w.heap.size → 0 ≤ left → left ≤ 1048576 → Calls Tryd.prog 9 #[.slice a' u.len cap', .int .i64 left] w fun e w' => e = .returned (.int .i64 (leftOf left (u.len + u.wt))) ∧ Below w.heap.size w w') := Lib.hid fun w left h1 h2 h3 h4 => IH.out u hua w A B a' cap' left h1 h2 h3 h4
        have HB := Lib.hid hb
        clear hlt hd hb
        go_wp2_with fail
        refine (szSel _ A B (Nat.le_trans hB HB.out.size) k key nm f a' cap' u HUN.out hu okey onm m hm0 hm1).mono ?_
        rintro e w1 ⟨rfl, hb1⟩
        have HB1 := Lib.hid (HB.out.trans (hb1.mono HB.out.size))
        clear hb1 hu
        by_cases c3 : ((key.size + nm.size + u.len + u.wt : Nat) : Int) ≤ m
        · have e3 : leftOf m (key.size + nm.size + u.len + u.wt) = m - ((key.size + nm.size + u.len + u.wt : Nat) : Int) := if_pos c3
          rw [e3]
          have hlo : 0 ≤ m - ((key.size + nm.size + u.len + u.wt : Nat) : Int) := by omega
          have hhi : m - ((key.size + nm.size + u.len + u.wt : Nat) : Int) ≤ 1048576 := by omega
          have hrel : Hid (m - ((key.size + nm.size + u.len + u.wt : Nat) : Int) + ((s.len + s.wt : Nat) : Int) = left + ((s.drop (i + 1)).wt : Int)) := Lib.hid (by
            have e1 := hm.out; have e2 := hwt.out; omega)
          generalize m - ((key.size + nm.size + u.len + u.wt : Nat) : Int) = m' at *
          clear c3 e3 hm
          go_wp2_with fail
          go_roundw
          case rel => exact ⟨i + 1, m', by omega, hlo, hhi, hrel, rfl, by go_num, HB1.out⟩
          case measure => simp [intOf]; omega
        · have e3 : leftOf m (key.size + nm.size + u.len + u.wt) = -1 := if_neg c3
          rw [e3]
          have hf := Lib.hid (leftOf_no (left := left) (n := s.len + s.wt) (by have e1 := hm.out; have e2 := hwt.out; omega))
          clear c3 e3 hm
          go_wp2_with fail
          go_ret
          exact ⟨ret_i hf.out, HB1.out⟩
      · obtain rfl : i = s.len := by omega
        have HB := Lib.hid hb
        have hf := Lib.hid (leftOf_yes (left := left) (n := s.len + s.wt) hm0 (by have e1 := hm.out; rw [Sels.drop_end (Nat.le_refl _)] at e1; simp only [Sels.wt] at e1; omega))
        clear hlt hb hm
        go_wp2_with fail
        go_ret
        exact ⟨ret_i hf.out, HB.out⟩
end Go.Proofs.YtiinbknadinjbaaDoor.Selss
