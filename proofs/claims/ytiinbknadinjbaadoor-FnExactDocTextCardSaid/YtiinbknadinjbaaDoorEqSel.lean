/-
  Contracts: laws.eqSelS says of like selections that they are; of what was there nothing is changed. Conditions: selections in memory.
-/
import Derived.Test.YtiinbknadinjbaaDoorRows
import Derived.Test.YtiinbknadinjbaaDoorToSel
import Derived.Deep.RegionWith
namespace Go.Proofs.YtiinbknadinjbaaDoor.Selss
open Go.RowKit
set_option linter.unusedVariables false

theorem SelsAt.drew {w : World} {A B len : Nat} {a : Option Addr} {s : Sels} (h : SelsAt w A B a len s) : SelsAt w.drew A B a len s :=
  ⟨h.1, h.2.1, h.2.2.imp id fun ⟨b, off, ha, hA, hl⟩ => ⟨b, off, ha, hA, Lie.block (w := w) (w' := w.drew) (fun _ _ _ => rfl) hA hl⟩⟩
theorem eqSel (w : World) (A B : Nat) (hB : B ≤ w.heap.size) (k : Int) (key nm : ByteArray) (f : Int) (a a' : Option Addr) (cap cap' : Nat) (u : Sels) (hs : SelsAt w A B a u.len u) (hs' : SelsAt w A B a' u.len u)
    (ih : ∀ (w : World), SelsAt w A B a u.len u → SelsAt w A B a' u.len u → B ≤ w.heap.size → Calls Tryd.prog 18 #[.slice a u.len cap, .slice a' u.len cap'] w fun e w' => e = .returned (.bool true) ∧ Below w.heap.size w w') :
    Calls Tryd.prog 35 #[.agg #[.int .i64 k, .string key, .string nm, .int .i64 f, .slice a u.len cap], .agg #[.int .i64 k, .string key, .string nm, .int .i64 f, .slice a' u.len cap']] w fun e w' => e = .returned (.bool true) ∧ Below w.heap.size w w' := by
  have IH := Lib.hid ih
  have HS := Lib.hid hs
  have HS' := Lib.hid hs'
  clear ih hs hs'
  go_enter Tryd.func35, Tryd.ntmps35
  go_wp2_with fail
  have HA : ∀ o1 o2, Below w.heap.size w ((w.alloc o1).alloc o2) := fun o1 o2 => ((Below.refl _ _).alloc (Nat.le_refl _) o1).alloc (by simp) o2
  refine (IH.out _ (HS.out.below hB (HA _ _)) (HS'.out.below hB (HA _ _)) (Nat.le_trans hB (HA _ _).size)).mono ?_
  rintro e w1 ⟨rfl, hb1⟩
  have HB1 := Lib.hid ((HA _ _).trans (hb1.mono (HA _ _).size))
  clear hb1
  go_wp2_with fail
  go_ret
  exact ⟨rfl, HB1.out⟩

theorem eqSelS : ∀ (n : Nat) (s : Sels), s.all < n → ∀ (w : World) (A B : Nat) (a a' : Option Addr) (cap cap' : Nat), SelsAt w A B a s.len s → SelsAt w A B a' s.len s → B ≤ w.heap.size →
    Calls Tryd.prog 18 #[.slice a s.len cap, .slice a' s.len cap'] w fun e w' => e = .returned (.bool true) ∧ Below w.heap.size w w' := by
  intro n
  induction n with
  | zero => intro s h; omega
  | succ n ih =>
    intro s hall w A B a a' cap cap' hs hs' hB
    have hlen := hs.2.1
    have IH := Lib.hid ih
    have HS := Lib.hid hs
    have HS' := Lib.hid hs'
    clear ih hs hs'
    go_enter Tryd.func18, Tryd.ntmps18
    go_wp2_with fail
    go_loopw [5] (fun i wr => ∃ i' : Nat, i' ≤ s.len ∧ i = .int .i64 i' ∧ Below w.heap.size w wr) (fun i _ => s.len - (intOf i).toNat)
    case atStart => exact ⟨0, by omega, rfl, Below.refl _ _⟩
    case round =>
      obtain ⟨i, hi, rfl, hb⟩ := hrel
      by_cases hlt : i < s.len
      · have hli : (i : Int) < (s.len : Int) := by omega
        obtain ⟨k, key, nm, f, u, r, b, off, u1, c1, hd, rfl, hbb, hok, ⟨hc0, hc1, hc2, hc3, hc4⟩, hu⟩ := (HS.out.below (Nat.le_refl _) (hb.mono hB)).at hlt
        obtain ⟨k', key', nm', f', u', r', b', off', u2, c2, hd', rfl, hbb', hok', ⟨hd0, hd1, hd2, hd3, hd4⟩, hu'⟩ := (HS'.out.below (Nat.le_refl _) (hb.mono hB)).at hlt
        obtain ⟨rfl, rfl, rfl, rfl, rfl, rfl⟩ : k' = k ∧ key' = key ∧ nm' = nm ∧ f' = f ∧ u' = u ∧ r' = r := by
          rw [hd] at hd'; cases hd'; exact ⟨rfl, rfl, rfl, rfl, rfl, rfl⟩
        have hua : u'.all < n := by have := Sels.all_drop hd; omega
        have HUN : Hid (∀ (w : World), SelsAt w A B u1 u'.len u' → SelsAt w A B u2 u'.len u' → B ≤ w.heap.size → Calls Tryd.prog 18 #[.slice u1 u'.len c1, .slice u2 u'.len c2] w fun e w' => e = .returned (.bool true) ∧ Below w.heap.size w w') := Lib.hid fun w h1 h2 h3 => IH.out u' hua w A B u1 u2 c1 c2 h1 h2 h3
        have HB := Lib.hid hb
        have HU := Lib.hid hu
        have HU' := Lib.hid hu'
        clear hlt hd hd' hb hu hu' hok hok'
        go_wp2_with fail
        go_region_with (go_at_call 35; refine (eqSel _ A B (by first | exact Nat.le_trans hB HB.out.size | exact Nat.le_trans hB HB.out.drew.size) _ _ _ _ u1 u2 c1 c2 _ (by first | exact HU.out | exact HU.out.drew) (by first | exact HU'.out | exact HU'.out.drew) HUN.out).mono ?_; rintro e w1 ⟨rfl, hb1⟩)
        all_goals
          have HB1 := Lib.hid (HB.out.drew.trans (hb1.mono HB.out.drew.size))
          clear hb1
          go_wp2_with fail
          go_roundw
          case rel => exact ⟨i + 1, by omega, by go_num, HB1.out⟩
          case measure => simp [intOf]; omega
      · obtain rfl : i = s.len := by omega
        have HB := Lib.hid hb
        clear hlt hb
        go_wp2_with fail
        go_ret
        exact ⟨rfl, HB.out⟩
end Go.Proofs.YtiinbknadinjbaaDoor.Selss
