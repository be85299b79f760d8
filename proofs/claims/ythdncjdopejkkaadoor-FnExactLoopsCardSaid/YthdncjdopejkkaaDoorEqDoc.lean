/-
  Contracts: laws.eqSel, eqSelS, eqFrag, eqFragS, eqDoc say of like ones that they are; of what was there nothing is changed. Conditions: in memory.
-/
import Derived.Test.YthdncjdopejkkaaDoorRows
import Derived.Test.YthdncjdopejkkaaDoorFragM
namespace Go.Proofs.YthdncjdopejkkaaDoor.Selss
open Go.RowKit
set_option linter.unusedVariables false
set_option maxRecDepth 100000

theorem eqSel (w : World) (A B : Nat) (hB : B ≤ w.heap.size) (k : Int) (key nm : ByteArray) (f : Int) (a a' : Option Addr) (cap cap' : Nat) (u : Sels) (hs : SelsAt w A B a u.len u) (hs' : SelsAt w A B a' u.len u)
    (ih : ∀ (w : World), SelsAt w A B a u.len u → SelsAt w A B a' u.len u → B ≤ w.heap.size → Calls Tryd.prog 20 #[.slice a u.len cap, .slice a' u.len cap'] w fun e w' => e = .returned (.bool true) ∧ Below w.heap.size w w') :
    Calls Tryd.prog 40 #[.agg #[.int .i64 k, .string key, .string nm, .int .i64 f, .slice a u.len cap], .agg #[.int .i64 k, .string key, .string nm, .int .i64 f, .slice a' u.len cap']] w fun e w' => e = .returned (.bool true) ∧ Below w.heap.size w w' := by
  have IH := Lib.hid ih
  have HS := Lib.hid hs
  have HS' := Lib.hid hs'
  clear ih hs hs'
  go_enter Tryd.func40, Tryd.ntmps40
  go_wp2_with fail
  have HA : ∀ o1 o2, Below w.heap.size w ((w.alloc o1).alloc o2) := fun o1 o2 => ((Below.refl _ _).alloc (Nat.le_refl _) o1).alloc (by simp) o2
  refine (IH.out _ (HS.out.below hB (HA _ _)) (HS'.out.below hB (HA _ _)) (Nat.le_trans hB (HA _ _).size)).mono ?_
  rintro e w1 ⟨rfl, hb1⟩
  have HB1 := Lib.hid ((HA _ _).trans (hb1.mono (HA _ _).size))
  clear hb1
  go_wp2_with fail
  go_ret
  exact ⟨rfl, HB1.out⟩
theorem eqSelS : ∀ (n : Nat) (s : Sels), s.all < n → ∀ (w : World) (A B : Nat) (a a' : Option Addr) (cap cap' : Nat), SelsAt w A B a s.len s → SelsAt w A B a' s.len s → B ≤ w.heap.size →
    Calls Tryd.prog 20 #[.slice a s.len cap, .slice a' s.len cap'] w fun e w' => e = .returned (.bool true) ∧ Below w.heap.size w w' := by
  intro n
  induction n with
  | zero => intro s h; omega
  | succ n ih =>
    intro s hall w A B a a' cap cap' hs hs' hB
    have hlen := hs.2.1
    have IH := Lib.hid ih
    have HS := Lib.hid hs
    have HS' := Lib.hid hs'
    clear ih hs hs'
    go_enter Tryd.func20, Tryd.ntmps20
    go_wp2_with fail
    go_loopw [5] (fun i wr => ∃ i' : Nat, i' ≤ s.len ∧ i = .int .i64 i' ∧ Below w.heap.size w wr) (fun i _ => s.len - (intOf i).toNat)
    case atStart => exact ⟨0, by omega, rfl, Below.refl _ _⟩
    case round =>
      obtain ⟨i, hi, rfl, hb⟩ := hrel
      by_cases hlt : i < s.len
      · have hli : (i : Int) < (s.len : Int) := by omega
        obtain ⟨k, key, nm, f, u, r, b, off, u1, c1, hd, rfl, hbb, hok, ⟨hc0, hc1, hc2, hc3, hc4⟩, hu⟩ := (HS.out.below (Nat.le_refl _) (hb.mono hB)).at hlt
        obtain ⟨k', key', nm', f', u', r', b', off', u2, c2, hd', rfl, hbb', hok', ⟨hd0, hd1, hd2, hd3, hd4⟩, hu'⟩ := (HS'.out.below (Nat.le_refl _) (hb.mono hB)).at hlt
        obtain ⟨rfl, rfl, rfl, rfl, rfl, rfl⟩ : k' = k ∧ key' = key ∧ nm' = nm ∧ f' = f ∧ u' = u ∧ r' = r := by
          rw [hd] at hd'; cases hd'; exact ⟨rfl, rfl, rfl, rfl, rfl, rfl⟩
        have hua : u'.all < n := by have := Sels.all_drop hd; omega
        have HUN : Hid (∀ (w : World), SelsAt w A B u1 u'.len u' → SelsAt w A B u2 u'.len u' → B ≤ w.heap.size → Calls Tryd.prog 20 #[.slice u1 u'.len c1, .slice u2 u'.len c2] w fun e w' => e = .returned (.bool true) ∧ Below w.heap.size w w') := Lib.hid fun w h1 h2 h3 => IH.out u' hua w A B u1 u2 c1 c2 h1 h2 h3
        have HB := Lib.hid hb
        have HU := Lib.hid hu
        have HU' := Lib.hid hu'
        clear hlt hd hd' hb hu hu' hok hok'
        go_wp2_with fail
        go_region_with (go_at_call 40; refine (eqSel _ A B (by first | exact Nat.le_trans hB HB.out.size | exact Nat.le_trans hB HB.out.drew.size) _ _ _ _ u1 u2 c1 c2 _ (by first | exact HU.out | exact HU.out.drew) (by first | exact HU'.out | exact HU'.out.drew) HUN.out).mono ?_; rintro e w1 ⟨rfl, hb1⟩)
        all_goals
          have HB1 := Lib.hid (HB.out.drew.trans (hb1.mono HB.out.drew.size))
          clear hb1
          go_wp2_with fail
          go_roundw
          case rel => exact ⟨i + 1, by omega, by go_num, HB1.out⟩
          case measure => simp [intOf]; omega
      · obtain rfl : i = s.len := by omega
        have HB := Lib.hid hb
        clear hlt hb
        go_wp2_with fail
        go_ret
        exact ⟨rfl, HB.out⟩
theorem eqFrag (w : World) (A B : Nat) (hB : B ≤ w.heap.size) (key nm : ByteArray) (a a' : Option Addr) (cap cap' : Nat) (u : Sels) (hs : SelsAt w A B a u.len u) (hs' : SelsAt w A B a' u.len u) :
    Calls Tryd.prog 41 #[.agg #[.string key, .string nm, .slice a u.len cap], .agg #[.string key, .string nm, .slice a' u.len cap']] w fun e w' => e = .returned (.bool true) ∧ Below w.heap.size w w' := by
  have IH : Hid (∀ (w : World), SelsAt w A B a u.len u → SelsAt w A B a' u.len u → B ≤ w.heap.size → Calls Tryd.prog 20 #[.slice a u.len cap, .slice a' u.len cap'] w fun e w' => e = .returned (.bool true) ∧ Below w.heap.size w w') :=
    Lib.hid fun w h1 h2 h3 => eqSelS (u.all + 1) u (Nat.lt_succ_self _) w A B a a' cap cap' h1 h2 h3
  have HS := Lib.hid hs
  have HS' := Lib.hid hs'
  clear hs hs'
  go_enter Tryd.func41, Tryd.ntmps41
  go_wp2_with fail
  have HA : ∀ o1 o2, Below w.heap.size w ((w.alloc o1).alloc o2) := fun o1 o2 => ((Below.refl _ _).alloc (Nat.le_refl _) o1).alloc (by simp) o2
  refine (IH.out _ (HS.out.below hB (HA _ _)) (HS'.out.below hB (HA _ _)) (Nat.le_trans hB (HA _ _).size)).mono ?_
  rintro e w1 ⟨rfl, hb1⟩
  have HB1 := Lib.hid ((HA _ _).trans (hb1.mono (HA _ _).size))
  clear hb1
  go_wp2_with fail
  go_ret
  exact ⟨rfl, HB1.out⟩
theorem eqFragS (w : World) (A B : Nat) (a a' : Option Addr) (len cap cap' : Nat) (l : List FragP) (hs : FragsAt w A B a len l) (hs' : FragsAt w A B a' len l) (hB : B ≤ w.heap.size) :
    Calls Tryd.prog 21 #[.slice a len cap, .slice a' len cap'] w fun e w' => e = .returned (.bool true) ∧ Below w.heap.size w w' := by
  have hlen := hs.2.1
  have HS := Lib.hid hs
  have HS' := Lib.hid hs'
  clear hs hs'
  go_enter Tryd.func21, Tryd.ntmps21
  go_wp2_with fail
  go_loopw [5] (fun i wr => ∃ i' : Nat, i' ≤ len ∧ i = .int .i64 i' ∧ Below w.heap.size w wr) (fun i _ => len - (intOf i).toNat)
  case atStart => exact ⟨0, by omega, rfl, Below.refl _ _⟩
  case round =>
    obtain ⟨i, hi, rfl, hb⟩ := hrel
    by_cases hlt : i < len
    · have hli : (i : Int) < (len : Int) := by omega
      obtain ⟨x, b, off, u1, c1, hd, rfl, hbb, hok, ⟨hc0, hc1, hc2⟩, hu⟩ := (HS.out.below (Nat.le_refl _) (hb.mono hB)).at hlt
      obtain ⟨x', b', off', u2, c2, hd', rfl, hbb', hok', ⟨hd0, hd1, hd2⟩, hu'⟩ := (HS'.out.below (Nat.le_refl _) (hb.mono hB)).at hlt
      obtain rfl : x' = x := by rw [hd] at hd'; cases hd'; rfl
      have HB := Lib.hid hb
      have HU := Lib.hid hu
      have HU' := Lib.hid hu'
      clear hlt hd hd' hb hu hu' hok hok'
      go_wp2_with fail
      go_region_with (go_at_call 41; refine (eqFrag _ A B (by first | exact Nat.le_trans hB HB.out.size | exact Nat.le_trans hB HB.out.drew.size) _ _ u1 u2 c1 c2 _ (by first | exact HU.out | exact HU.out.drew) (by first | exact HU'.out | exact HU'.out.drew)).mono ?_; rintro e w1 ⟨rfl, hb1⟩)
      all_goals
        have HB1 := Lib.hid (HB.out.drew.trans (hb1.mono HB.out.drew.size))
        clear hb1
        go_wp2_with fail
        go_roundw
        case rel => exact ⟨i + 1, by omega, by go_num, HB1.out⟩
        case measure => simp [intOf]; omega
    · obtain rfl : i = len := by omega
      have HB := Lib.hid hb
      clear hlt hb
      go_wp2_with fail
      go_ret
      exact ⟨rfl, HB.out⟩
theorem eqDoc (w : World) (A B : Nat) (v v' : Value) (d : DocP) (hs : DocAt w A B v d) (hs' : DocAt w A B v' d) (hB : B ≤ w.heap.size) :
    Calls Tryd.prog 9 #[v, v'] w fun e w' => e = .returned (.bool true) ∧ Below w.heap.size w w' := by
  obtain ⟨a, ca, b, cb, rfl, hd, hf, _⟩ := hs
  obtain ⟨a', ca', b', cb', rfl, hd', hf', _⟩ := hs'
  have IH : Hid (∀ (w : World), SelsAt w A B a d.sels.len d.sels → SelsAt w A B a' d.sels.len d.sels → B ≤ w.heap.size → Calls Tryd.prog 20 #[.slice a d.sels.len ca, .slice a' d.sels.len ca'] w fun e w' => e = .returned (.bool true) ∧ Below w.heap.size w w') :=
    Lib.hid fun w h1 h2 h3 => eqSelS (d.sels.all + 1) d.sels (Nat.lt_succ_self _) w A B a a' ca ca' h1 h2 h3
  have HD := Lib.hid hd
  have HF := Lib.hid hf
  have HD' := Lib.hid hd'
  have HF' := Lib.hid hf'
  clear hd hf hd' hf'
  go_enter Tryd.func9, Tryd.ntmps9
  go_wp2_with fail
  have HA : ∀ o1 o2, Below w.heap.size w ((w.alloc o1).alloc o2) := fun o1 o2 => ((Below.refl _ _).alloc (Nat.le_refl _) o1).alloc (by simp) o2
  refine (IH.out _ (HD.out.below hB (HA _ _)) (HD'.out.below hB (HA _ _)) (Nat.le_trans hB (HA _ _).size)).mono ?_
  rintro e w1 ⟨rfl, hb1⟩
  have HB1 := Lib.hid ((HA _ _).trans (hb1.mono (HA _ _).size))
  have hk1 := hb1.cell (p := ⟨w.heap.size, 1, none⟩) (by simp; omega)
  have hk2 := hb1.cell (p := ⟨w.heap.size + 1, 1, none⟩) (by simp)
  simp at hk1 hk2
  clear hb1
  go_wp2_with fail
  refine (eqFragS _ A B b b' _ cb cb' d.frags (HF.out.below hB HB1.out) (HF'.out.below hB HB1.out) (Nat.le_trans hB HB1.out.size)).mono ?_
  rintro e w2 ⟨rfl, hb2⟩
  have HB2 := Lib.hid (HB1.out.trans (hb2.mono HB1.out.size))
  clear hb2 hk1 hk2
  go_wp2_with fail
  go_ret
  exact ⟨rfl, HB2.out⟩
end Go.Proofs.YthdncjdopejkkaaDoor.Selss
