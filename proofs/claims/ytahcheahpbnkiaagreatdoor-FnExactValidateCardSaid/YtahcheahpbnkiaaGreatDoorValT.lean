/-
  Contracts: laws.eqStringS, eqField, eqFieldS, eqType, eqTypeS, eqSchema say of like ones that they are; of what was there nothing is changed. Conditions: in memory.
-/
/-
  Contracts: laws.eqSel, eqSelS, eqFrag, eqFragS, eqDoc say of like ones that they are; of what was there nothing is changed. Conditions: in memory.
-/
/-
  Contracts: spec.Validate, impl.Validate tell what is wrong first of what a Doc asks of a Schema; of what was there nothing is changed. Conditions: in memory; the library's variable errors.errorType holds the handle of the type error.
-/
/-
  What a law on a Schema and a Doc holds: its two boxes; laws.eqValidOut answers true of two alike. Conditions: as each theorem says.
-/
import Derived.Test.YtahcheahpbnkiaaGreatDoorRows
import Derived.Test.YtahcheahpbnkiaaGreatDoorSch
import Derived.Test.YtahcheahpbnkiaaGreatDoorFragM
import Derived.Test.YtahcheahpbnkiaaGreatDoorValL
import Derived.Test.YtahcheahpbnkiaaGreatDoorValQ
import Derived.Test.YtahcheahpbnkiaaGreatDoorOpenS
import Derived.Test.YtahcheahpbnkiaaGreatDoorSzS
import Derived.Test.YtahcheahpbnkiaaGreatDoorToT
import Derived.Test.YtahcheahpbnkiaaGreatDoorOpen
import Derived.Test.YtahcheahpbnkiaaGreatDoorSz
import Derived.Test.YtahcheahpbnkiaaGreatDoorToDoc
import Derived.Deep.RegionWith
import Derived.Deep.RegionHeld3
import Derived.Deep.CutRange
namespace Go.Proofs.YtahcheahpbnkiaaGreatDoor.Rw
open Go.RowKit
set_option linter.unusedVariables false
set_option maxRecDepth 100000

theorem eqStringS (w : World) (A B : Nat) (a a' : Option Addr) (len cap cap' : Nat) (l : List ByteArray) (hs : TextsAt w A B a len l) (hs' : TextsAt w A B a' len l) (hB : B ≤ w.heap.size) :
    Calls Tryz.prog 206 #[.slice a len cap, .slice a' len cap'] w fun e w' => e = .returned (.bool true) ∧ Below w.heap.size w w' := by
  have hlen := hs.2.1
  have HS := Lib.hid hs
  have HS' := Lib.hid hs'
  clear hs hs'
  go_enter Tryz.func206, Tryz.ntmps206
  go_wp2_with fail
  go_loopw [5] (fun i wr => ∃ i' : Nat, i' ≤ len ∧ i = .int .i64 i' ∧ Below w.heap.size w wr) (fun i _ => len - (intOf i).toNat)
  case atStart => exact ⟨0, by omega, rfl, Below.refl _ _⟩
  case round =>
    obtain ⟨i, hi, rfl, hb⟩ := hrel
    by_cases hlt : i < len
    · have hli : (i : Int) < (len : Int) := by omega
      obtain ⟨x, b, off, hd, rfl, hA, hbb, hok, hc⟩ := (HS.out.below textLies (Nat.le_refl _) (hb.mono hB)).at hlt
      obtain ⟨x', b', off', hd', rfl, hA', hbb', hok', hc'⟩ := (HS'.out.below textLies (Nat.le_refl _) (hb.mono hB)).at hlt
      obtain rfl : x' = x := by rw [hd] at hd'; cases hd'; rfl
      rw [Nat.mul_one] at hc hc'
      have HB := Lib.hid hb
      clear hlt hd hd' hb hok hok'
      go_wp2_with fail
      go_region
      go_wp2_with fail
      go_roundw
      case rel => exact ⟨i + 1, by omega, by go_num, HB.out.drew⟩
      case measure => simp [intOf]; omega
    · obtain rfl : i = len := by omega
      have HB := Lib.hid hb
      clear hlt hb
      go_wp2_with fail
      go_ret
      exact ⟨rfl, HB.out⟩

theorem eqField (w : World) (x : FieldP) (hx : x.ok) :
    Calls Tryz.prog 230 #[.agg x.cells.toArray, .agg x.cells.toArray] w fun e w' => e = .returned (.bool true) ∧ Below w.heap.size w w' := by
  obtain ⟨nm, tp, ls, mu, sz, cp⟩ := x
  obtain ⟨hk, hn, ⟨hs1, hs2⟩, hc1, hc2⟩ := hx
  unfold OkS at hk hn
  simp only [FieldP.cells] at hk hn hs1 hs2 hc1 hc2 ⊢
  have HA : Hid (∀ o1 o2, Below w.heap.size w ((w.alloc o1).alloc o2)) := Lib.hid fun o1 o2 => ((Below.refl _ _).alloc (Nat.le_refl _) o1).alloc (by simp) o2
  go_enter Tryz.func230, Tryz.ntmps230
  go_wp2_with fail
  go_ret
  exact ⟨rfl, HA.out _ _⟩

theorem eqFieldS (w : World) (A B : Nat) (a a' : Option Addr) (len cap cap' : Nat) (l : List FieldP) (hs : FieldsAt w A B a len l) (hs' : FieldsAt w A B a' len l) (hB : B ≤ w.heap.size) :
    Calls Tryz.prog 205 #[.slice a len cap, .slice a' len cap'] w fun e w' => e = .returned (.bool true) ∧ Below w.heap.size w w' := by
  have hlen := hs.2.1
  have HS := Lib.hid hs
  have HS' := Lib.hid hs'
  clear hs hs'
  go_enter Tryz.func205, Tryz.ntmps205
  go_wp2_with fail
  go_loopw [5] (fun i wr => ∃ i' : Nat, i' ≤ len ∧ i = .int .i64 i' ∧ Below w.heap.size w wr) (fun i _ => len - (intOf i).toNat)
  case atStart => exact ⟨0, by omega, rfl, Below.refl _ _⟩
  case round =>
    obtain ⟨i, hi, rfl, hb⟩ := hrel
    by_cases hlt : i < len
    · have hli : (i : Int) < (len : Int) := by omega
      obtain ⟨x, b, off, hd, rfl, hA, hbb, hok, hc⟩ := (HS.out.below fieldLies (Nat.le_refl _) (hb.mono hB)).at hlt
      obtain ⟨x', b', off', hd', rfl, hA', hbb', hok', hc'⟩ := (HS'.out.below fieldLies (Nat.le_refl _) (hb.mono hB)).at hlt
      obtain rfl : x' = x := by rw [hd] at hd'; cases hd'; rfl
      obtain ⟨c0, c1, c2, c3, c4, c5⟩ := row6 hc
      obtain ⟨d0, d1, d2, d3, d4, d5⟩ := row6 hc'
      have HB := Lib.hid hb
      have HC : Hid (∀ w, Calls Tryz.prog 230 #[.agg #[.string x'.name, .string x'.typ, .bool x'.list, .bool x'.must, .int .i64 x'.size, .int .i64 x'.cap], .agg #[.string x'.name, .string x'.typ, .bool x'.list, .bool x'.must, .int .i64 x'.size, .int .i64 x'.cap]] w fun e w' => e = .returned (.bool true) ∧ Below w.heap.size w w') := Lib.hid fun w => eqField w x' hok
      clear hlt hd hd' hb hok hok' hc hc'
      go_wp2_with fail
      go_region_with (go_at_call 230; refine (HC.out _).mono ?_; rintro e w1 ⟨rfl, hb1⟩)
      all_goals
        have HB1 := Lib.hid (HB.out.drew.trans (hb1.mono HB.out.drew.size))
        clear hb1
        go_wp2_with fail
        go_roundw
        case rel => exact ⟨i + 1, by omega, by go_num, HB1.out⟩
        case measure => simp [intOf]; omega
    · obtain rfl : i = len := by omega
      have HB := Lib.hid hb
      clear hlt hb
      go_wp2_with fail
      go_ret
      exact ⟨rfl, HB.out⟩

theorem eqType (w : World) (A B : Nat) (v v' : Value) (x : TypeP) (hs : TypeAt w A B v x) (hs' : TypeAt w A B v' x) (hB : B ≤ w.heap.size) :
    Calls Tryz.prog 160 #[v, v'] w fun e w' => e = .returned (.bool true) ∧ Below w.heap.size w w' := by
  obtain ⟨a, ca, c, cc, rfl, hk, ⟨h2, _⟩, h3, _⟩ := hs
  obtain ⟨a', ca', c', cc', rfl, _, ⟨h2', _⟩, h3', _⟩ := hs'
  obtain ⟨nm, kd, by_, fs, ms⟩ := x
  obtain ⟨hk, ⟨hs1, hs2⟩, hs3, hs4⟩ := hk
  unfold OkS at hk
  simp only [TypeP.cells] at hk hs1 hs2 hs3 hs4 h2 h3 h2' h3' ⊢
  have H2 := Lib.hid h2
  have H3 := Lib.hid h3
  have H2' := Lib.hid h2'
  have H3' := Lib.hid h3'
  clear h2 h3 h2' h3'
  have HA : Hid (∀ o1 o2, Below w.heap.size w ((w.alloc o1).alloc o2)) := Lib.hid fun o1 o2 => ((Below.refl _ _).alloc (Nat.le_refl _) o1).alloc (by simp) o2
  go_enter Tryz.func160, Tryz.ntmps160
  go_wp2_with fail
  refine (eqFieldS _ A B a a' _ ca ca' fs (H2.out.below fieldLies hB (HA.out _ _)) (H2'.out.below fieldLies hB (HA.out _ _)) (Nat.le_trans hB (HA.out _ _).size)).mono ?_
  rintro e w1 ⟨rfl, hb1⟩
  have HB1 := Lib.hid ((HA.out _ _).trans (hb1.mono (HA.out _ _).size))
  have hk1 := hb1.cell (p := ⟨w.heap.size, 4, none⟩) (by simp; omega)
  have hk2 := hb1.cell (p := ⟨w.heap.size + 1, 4, none⟩) (by simp)
  simp at hk1 hk2
  clear hb1
  go_wp2_with fail
  refine (eqStringS _ A B c c' _ cc cc' ms (H3.out.below textLies hB HB1.out) (H3'.out.below textLies hB HB1.out) (Nat.le_trans hB HB1.out.size)).mono ?_
  rintro e w2 ⟨rfl, hb2⟩
  have HB2 := Lib.hid (HB1.out.trans (hb2.mono HB1.out.size))
  clear hb2
  go_wp2_with fail
  go_ret
  exact ⟨rfl, HB2.out⟩

theorem eqTypeS (w : World) (A B : Nat) (a a' : Option Addr) (len cap cap' : Nat) (l : List TypeP) (hs : TypesAt w A B a len l) (hs' : TypesAt w A B a' len l) (hB : B ≤ w.heap.size) :
    Calls Tryz.prog 115 #[.slice a len cap, .slice a' len cap'] w fun e w' => e = .returned (.bool true) ∧ Below w.heap.size w w' := by
  have hlen := hs.2.1
  have HS := Lib.hid hs
  have HS' := Lib.hid hs'
  clear hs hs'
  go_enter Tryz.func115, Tryz.ntmps115
  go_wp2_with fail
  go_loopw [5] (fun i wr => ∃ i' : Nat, i' ≤ len ∧ i = .int .i64 i' ∧ Below w.heap.size w wr) (fun i _ => len - (intOf i).toNat)
  case atStart => exact ⟨0, by omega, rfl, Below.refl _ _⟩
  case round =>
    obtain ⟨i, hi, rfl, hb⟩ := hrel
    by_cases hlt : i < len
    · have hli : (i : Int) < (len : Int) := by omega
      obtain ⟨x, b, off, hd, rfl, hA, hbb, hok, a1, ca, c, cc, hc, h2, h3⟩ := (HS.out.below typeLies (Nat.le_refl _) (hb.mono hB)).at hlt
      obtain ⟨x', b', off', hd', rfl, hA', hbb', hok', a2, ca', c', cc', hc', h2', h3'⟩ := (HS'.out.below typeLies (Nat.le_refl _) (hb.mono hB)).at hlt
      obtain rfl : x' = x := by rw [hd] at hd'; cases hd'; rfl
      obtain ⟨c0, c1, c2, c3, c4⟩ := row5 hc
      obtain ⟨d0, d1, d2, d3, d4⟩ := row5 hc'
      have HB := Lib.hid hb
      have HX : Hid (TypeAt wr.drew A B (.agg #[.string x'.name, .int .i64 x'.kind, .int .i64 x'.bytes, .slice a1 x'.fields.length ca, .slice c x'.members.length cc]) x') := Lib.hid ⟨a1, ca, c, cc, rfl, hok, ⟨h2.1.drew fieldLies, h2.2⟩, h3.1.drew textLies, h3.2⟩
      have HX' : Hid (TypeAt wr.drew A B (.agg #[.string x'.name, .int .i64 x'.kind, .int .i64 x'.bytes, .slice a2 x'.fields.length ca', .slice c' x'.members.length cc']) x') := Lib.hid ⟨a2, ca', c', cc', rfl, hok, ⟨h2'.1.drew fieldLies, h2'.2⟩, h3'.1.drew textLies, h3'.2⟩
      have hBd : Hid (B ≤ wr.drew.heap.size) := Lib.hid (Nat.le_trans hB HB.out.size)
      clear hlt hd hd' hb hok hok' hc hc' h2 h3 h2' h3'
      go_wp2_with fail
      go_region_with (go_at_call 160; refine (eqType _ A B _ _ x' HX.out HX'.out hBd.out).mono ?_; rintro e w1 ⟨rfl, hb1⟩)
      all_goals
        have HB1 := Lib.hid (HB.out.drew.trans (hb1.mono HB.out.drew.size))
        clear hb1
        go_wp2_with fail
        go_roundw
        case rel => exact ⟨i + 1, by omega, by go_num, HB1.out⟩
        case measure => simp [intOf]; omega
    · obtain rfl : i = len := by omega
      have HB := Lib.hid hb
      clear hlt hb
      go_wp2_with fail
      go_ret
      exact ⟨rfl, HB.out⟩

theorem eqSchema (w : World) (A B : Nat) (v v' : Value) (s : List TypeP) (hs : SchemaAt w A B v s) (hs' : SchemaAt w A B v' s) (hB : B ≤ w.heap.size) :
    Calls Tryz.prog 56 #[v, v'] w fun e w' => e = .returned (.bool true) ∧ Below w.heap.size w w' := by
  obtain ⟨a, ca, rfl, h2, _⟩ := hs
  obtain ⟨a', ca', rfl, h2', _⟩ := hs'
  have H2 := Lib.hid h2
  have H2' := Lib.hid h2'
  clear h2 h2'
  have HA : Hid (∀ o1 o2, Below w.heap.size w ((w.alloc o1).alloc o2)) := Lib.hid fun o1 o2 => ((Below.refl _ _).alloc (Nat.le_refl _) o1).alloc (by simp) o2
  go_enter Tryz.func56, Tryz.ntmps56
  go_wp2_with fail
  refine (eqTypeS _ A B a a' _ ca ca' s (H2.out.below typeLies hB (HA.out _ _)) (H2'.out.below typeLies hB (HA.out _ _)) (Nat.le_trans hB (HA.out _ _).size)).mono ?_
  rintro e w1 ⟨rfl, hb1⟩
  have HB1 := Lib.hid ((HA.out _ _).trans (hb1.mono (HA.out _ _).size))
  clear hb1
  go_wp2_with fail
  go_ret
  exact ⟨rfl, HB1.out⟩
end Go.Proofs.YtahcheahpbnkiaaGreatDoor.Rw

namespace Go.Proofs.YtahcheahpbnkiaaGreatDoor.Selss
open Go.RowKit
set_option linter.unusedVariables false
set_option maxRecDepth 100000

theorem eqSel (w : World) (A B : Nat) (hB : B ≤ w.heap.size) (k : Int) (key nm : ByteArray) (f : Int) (a a' : Option Addr) (cap cap' : Nat) (u : Sels) (hs : SelsAt w A B a u.len u) (hs' : SelsAt w A B a' u.len u)
    (ih : ∀ (w : World), SelsAt w A B a u.len u → SelsAt w A B a' u.len u → B ≤ w.heap.size → Calls Tryz.prog 116 #[.slice a u.len cap, .slice a' u.len cap'] w fun e w' => e = .returned (.bool true) ∧ Below w.heap.size w w') :
    Calls Tryz.prog 161 #[.agg #[.int .i64 k, .string key, .string nm, .int .i64 f, .slice a u.len cap], .agg #[.int .i64 k, .string key, .string nm, .int .i64 f, .slice a' u.len cap']] w fun e w' => e = .returned (.bool true) ∧ Below w.heap.size w w' := by
  have IH := Lib.hid ih
  have HS := Lib.hid hs
  have HS' := Lib.hid hs'
  clear ih hs hs'
  go_enter Tryz.func161, Tryz.ntmps161
  go_wp2_with fail
  have HA : ∀ o1 o2, Below w.heap.size w ((w.alloc o1).alloc o2) := fun o1 o2 => ((Below.refl _ _).alloc (Nat.le_refl _) o1).alloc (by simp) o2
  refine (IH.out _ (HS.out.below hB (HA _ _)) (HS'.out.below hB (HA _ _)) (Nat.le_trans hB (HA _ _).size)).mono ?_
  rintro e w1 ⟨rfl, hb1⟩
  have HB1 := Lib.hid ((HA _ _).trans (hb1.mono (HA _ _).size))
  clear hb1
  go_wp2_with fail
  go_ret
  exact ⟨rfl, HB1.out⟩
theorem eqSelS : ∀ (n : Nat) (s : Sels), s.all < n → ∀ (w : World) (A B : Nat) (a a' : Option Addr) (cap cap' : Nat), SelsAt w A B a s.len s → SelsAt w A B a' s.len s → B ≤ w.heap.size →
    Calls Tryz.prog 116 #[.slice a s.len cap, .slice a' s.len cap'] w fun e w' => e = .returned (.bool true) ∧ Below w.heap.size w w' := by
  intro n
  induction n with
  | zero => intro s h; omega
  | succ n ih =>
    intro s hall w A B a a' cap cap' hs hs' hB
    have hlen := hs.2.1
    have IH := Lib.hid ih
    have HS := Lib.hid hs
    have HS' := Lib.hid hs'
    clear ih hs hs'
    go_enter Tryz.func116, Tryz.ntmps116
    go_wp2_with fail
    go_loopw [5] (fun i wr => ∃ i' : Nat, i' ≤ s.len ∧ i = .int .i64 i' ∧ Below w.heap.size w wr) (fun i _ => s.len - (intOf i).toNat)
    case atStart => exact ⟨0, by omega, rfl, Below.refl _ _⟩
    case round =>
      obtain ⟨i, hi, rfl, hb⟩ := hrel
      by_cases hlt : i < s.len
      · have hli : (i : Int) < (s.len : Int) := by omega
        obtain ⟨k, key, nm, f, u, r, b, off, u1, c1, hd, rfl, hbb, hok, ⟨hc0, hc1, hc2, hc3, hc4⟩, hu⟩ := (HS.out.below (Nat.le_refl _) (hb.mono hB)).at hlt
        obtain ⟨k', key', nm', f', u', r', b', off', u2, c2, hd', rfl, hbb', hok', ⟨hd0, hd1, hd2, hd3, hd4⟩, hu'⟩ := (HS'.out.below (Nat.le_refl _) (hb.mono hB)).at hlt
        obtain ⟨rfl, rfl, rfl, rfl, rfl, rfl⟩ : k' = k ∧ key' = key ∧ nm' = nm ∧ f' = f ∧ u' = u ∧ r' = r := by
          rw [hd] at hd'; cases hd'; exact ⟨rfl, rfl, rfl, rfl, rfl, rfl⟩
        have hua : u'.all < n := by have := Sels.all_drop hd; omega
        have HUN : Hid (∀ (w : World), SelsAt w A B u1 u'.len u' → SelsAt w A B u2 u'.len u' → B ≤ w.heap.size → Calls Tryz.prog 116 #[.slice u1 u'.len c1, .slice u2 u'.len c2] w fun e w' => e = .returned (.bool true) ∧ Below w.heap.size w w') := Lib.hid fun w h1 h2 h3 => IH.out u' hua w A B u1 u2 c1 c2 h1 h2 h3
        have HB := Lib.hid hb
        have HU := Lib.hid hu
        have HU' := Lib.hid hu'
        clear hlt hd hd' hb hu hu' hok hok'
        go_wp2_with fail
        go_region_with (go_at_call 161; refine (eqSel _ A B (by first | exact Nat.le_trans hB HB.out.size | exact Nat.le_trans hB HB.out.drew.size) _ _ _ _ u1 u2 c1 c2 _ (by first | exact HU.out | exact HU.out.drew) (by first | exact HU'.out | exact HU'.out.drew) HUN.out).mono ?_; rintro e w1 ⟨rfl, hb1⟩)
        all_goals
          have HB1 := Lib.hid (HB.out.drew.trans (hb1.mono HB.out.drew.size))
          clear hb1
          go_wp2_with fail
          go_roundw
          case rel => exact ⟨i + 1, by omega, by go_num, HB1.out⟩
          case measure => simp [intOf]; omega
      · obtain rfl : i = s.len := by omega
        have HB := Lib.hid hb
        clear hlt hb
        go_wp2_with fail
        go_ret
        exact ⟨rfl, HB.out⟩
theorem eqFrag (w : World) (A B : Nat) (hB : B ≤ w.heap.size) (key nm : ByteArray) (a a' : Option Addr) (cap cap' : Nat) (u : Sels) (hs : SelsAt w A B a u.len u) (hs' : SelsAt w A B a' u.len u) :
    Calls Tryz.prog 162 #[.agg #[.string key, .string nm, .slice a u.len cap], .agg #[.string key, .string nm, .slice a' u.len cap']] w fun e w' => e = .returned (.bool true) ∧ Below w.heap.size w w' := by
  have IH : Hid (∀ (w : World), SelsAt w A B a u.len u → SelsAt w A B a' u.len u → B ≤ w.heap.size → Calls Tryz.prog 116 #[.slice a u.len cap, .slice a' u.len cap'] w fun e w' => e = .returned (.bool true) ∧ Below w.heap.size w w') :=
    Lib.hid fun w h1 h2 h3 => eqSelS (u.all + 1) u (Nat.lt_succ_self _) w A B a a' cap cap' h1 h2 h3
  have HS := Lib.hid hs
  have HS' := Lib.hid hs'
  clear hs hs'
  go_enter Tryz.func162, Tryz.ntmps162
  go_wp2_with fail
  have HA : ∀ o1 o2, Below w.heap.size w ((w.alloc o1).alloc o2) := fun o1 o2 => ((Below.refl _ _).alloc (Nat.le_refl _) o1).alloc (by simp) o2
  refine (IH.out _ (HS.out.below hB (HA _ _)) (HS'.out.below hB (HA _ _)) (Nat.le_trans hB (HA _ _).size)).mono ?_
  rintro e w1 ⟨rfl, hb1⟩
  have HB1 := Lib.hid ((HA _ _).trans (hb1.mono (HA _ _).size))
  clear hb1
  go_wp2_with fail
  go_ret
  exact ⟨rfl, HB1.out⟩
theorem eqFragS (w : World) (A B : Nat) (a a' : Option Addr) (len cap cap' : Nat) (l : List FragP) (hs : FragsAt w A B a len l) (hs' : FragsAt w A B a' len l) (hB : B ≤ w.heap.size) :
    Calls Tryz.prog 117 #[.slice a len cap, .slice a' len cap'] w fun e w' => e = .returned (.bool true) ∧ Below w.heap.size w w' := by
  have hlen := hs.2.1
  have HS := Lib.hid hs
  have HS' := Lib.hid hs'
  clear hs hs'
  go_enter Tryz.func117, Tryz.ntmps117
  go_wp2_with fail
  go_loopw [5] (fun i wr => ∃ i' : Nat, i' ≤ len ∧ i = .int .i64 i' ∧ Below w.heap.size w wr) (fun i _ => len - (intOf i).toNat)
  case atStart => exact ⟨0, by omega, rfl, Below.refl _ _⟩
  case round =>
    obtain ⟨i, hi, rfl, hb⟩ := hrel
    by_cases hlt : i < len
    · have hli : (i : Int) < (len : Int) := by omega
      obtain ⟨x, b, off, u1, c1, hd, rfl, hbb, hok, ⟨hc0, hc1, hc2⟩, hu⟩ := (HS.out.below (Nat.le_refl _) (hb.mono hB)).at hlt
      obtain ⟨x', b', off', u2, c2, hd', rfl, hbb', hok', ⟨hd0, hd1, hd2⟩, hu'⟩ := (HS'.out.below (Nat.le_refl _) (hb.mono hB)).at hlt
      obtain rfl : x' = x := by rw [hd] at hd'; cases hd'; rfl
      have HB := Lib.hid hb
      have HU := Lib.hid hu
      have HU' := Lib.hid hu'
      clear hlt hd hd' hb hu hu' hok hok'
      go_wp2_with fail
      go_region_with (go_at_call 162; refine (eqFrag _ A B (by first | exact Nat.le_trans hB HB.out.size | exact Nat.le_trans hB HB.out.drew.size) _ _ u1 u2 c1 c2 _ (by first | exact HU.out | exact HU.out.drew) (by first | exact HU'.out | exact HU'.out.drew)).mono ?_; rintro e w1 ⟨rfl, hb1⟩)
      all_goals
        have HB1 := Lib.hid (HB.out.drew.trans (hb1.mono HB.out.drew.size))
        clear hb1
        go_wp2_with fail
        go_roundw
        case rel => exact ⟨i + 1, by omega, by go_num, HB1.out⟩
        case measure => simp [intOf]; omega
    · obtain rfl : i = len := by omega
      have HB := Lib.hid hb
      clear hlt hb
      go_wp2_with fail
      go_ret
      exact ⟨rfl, HB.out⟩
theorem eqDoc (w : World) (A B : Nat) (v v' : Value) (d : DocP) (hs : DocAt w A B v d) (hs' : DocAt w A B v' d) (hB : B ≤ w.heap.size) :
    Calls Tryz.prog 57 #[v, v'] w fun e w' => e = .returned (.bool true) ∧ Below w.heap.size w w' := by
  obtain ⟨a, ca, b, cb, rfl, hd, hf, _⟩ := hs
  obtain ⟨a', ca', b', cb', rfl, hd', hf', _⟩ := hs'
  have IH : Hid (∀ (w : World), SelsAt w A B a d.sels.len d.sels → SelsAt w A B a' d.sels.len d.sels → B ≤ w.heap.size → Calls Tryz.prog 116 #[.slice a d.sels.len ca, .slice a' d.sels.len ca'] w fun e w' => e = .returned (.bool true) ∧ Below w.heap.size w w') :=
    Lib.hid fun w h1 h2 h3 => eqSelS (d.sels.all + 1) d.sels (Nat.lt_succ_self _) w A B a a' ca ca' h1 h2 h3
  have HD := Lib.hid hd
  have HF := Lib.hid hf
  have HD' := Lib.hid hd'
  have HF' := Lib.hid hf'
  clear hd hf hd' hf'
  go_enter Tryz.func57, Tryz.ntmps57
  go_wp2_with fail
  have HA : ∀ o1 o2, Below w.heap.size w ((w.alloc o1).alloc o2) := fun o1 o2 => ((Below.refl _ _).alloc (Nat.le_refl _) o1).alloc (by simp) o2
  refine (IH.out _ (HD.out.below hB (HA _ _)) (HD'.out.below hB (HA _ _)) (Nat.le_trans hB (HA _ _).size)).mono ?_
  rintro e w1 ⟨rfl, hb1⟩
  have HB1 := Lib.hid ((HA _ _).trans (hb1.mono (HA _ _).size))
  have hk1 := hb1.cell (p := ⟨w.heap.size, 1, none⟩) (by simp; omega)
  have hk2 := hb1.cell (p := ⟨w.heap.size + 1, 1, none⟩) (by simp)
  simp at hk1 hk2
  clear hb1
  go_wp2_with fail
  refine (eqFragS _ A B b b' _ cb cb' d.frags (HF.out.below hB HB1.out) (HF'.out.below hB HB1.out) (Nat.le_trans hB HB1.out.size)).mono ?_
  rintro e w2 ⟨rfl, hb2⟩
  have HB2 := Lib.hid (HB1.out.trans (hb2.mono HB1.out.size))
  clear hb2 hk1 hk2
  go_wp2_with fail
  go_ret
  exact ⟨rfl, HB2.out⟩
end Go.Proofs.YtahcheahpbnkiaaGreatDoor.Selss

namespace Go.Proofs.YtahcheahpbnkiaaGreatDoor.Selss
open Go.RowKit Words Go.Maps
set_option linter.unusedVariables false
set_option maxRecDepth 100000

set_option maxHeartbeats 4000000 in
theorem specValidate (w : World) (B : Nat) (v dv : Value) (s : List Rw.TypeP) (d : DocP) (hv : Rw.SchemaAt w 0 B v s) (hd : DocAt w 0 B dv d) (hB : B ≤ w.heap.size) :
    Calls Tryz.prog 41 #[v, dv] w fun e w' => e = .returned (.agg #[.string (whatW (validW s d)), .int .i64 (codeW (validW s d))]) ∧ Below w.heap.size w w' := by
  have CS : Hid (∀ w', Below w.heap.size w w' → Calls Tryz.prog 32 #[v] w' fun e w'' => e = .returned (.bool (Rw.schemaB s)) ∧ Below w'.heap.size w' w'') := Lib.hid fun w' h => Rw.specSchemaRight w' 0 B v s (hv.below hB h) (Nat.le_trans hB h.size)
  have CD : Hid (∀ w', Below w.heap.size w w' → Calls Tryz.prog 28 #[dv] w' fun e w'' => e = .returned (.bool (docB d)) ∧ Below w'.heap.size w' w'') := Lib.hid fun w' h => specDocRight w' 0 B dv d (hd.below hB h) (Nat.le_trans hB h.size)
  have CV : Hid ((Rw.schemaB s && docB d) = true → ∀ w', Below w.heap.size w w' → Calls Tryz.prog 103 #[v, dv] w' fun e w'' => e = .returned (.agg #[.string (whatW (rightW s d)), .int .i64 (codeW (rightW s d))]) ∧ Below w'.heap.size w' w'') := Lib.hid fun hr w' h => specL05Valid w' B v dv s d hr (hv.below hB h) (hd.below hB h) (Nat.le_trans hB h.size)
  have HNOV := Lib.hid (fun h => validW_no (s := s) (d := d) h)
  have HYES := Lib.hid (fun h => validW_yes (s := s) (d := d) h)
  obtain ⟨ta, tca, rfl, _, _⟩ := hv
  obtain ⟨da, dca, db, dcb, rfl, _, _, _⟩ := hd
  have SB0 := Lib.hid (SelB.make w (.slice ta s.length tca) (.slice da d.sels.len dca) (.slice db d.frags.length dcb))
  have HA : Hid (∀ o1 o2 o3, Below w.heap.size w (((w.alloc o1).alloc o2).alloc o3)) := Lib.hid fun o1 o2 o3 => (((Below.refl _ _).alloc (Nat.le_refl _) o1).alloc (by simp) o2).alloc (by simp; omega) o3
  generalize validW s d = vw at *
  generalize rightW s d = rw_ at *
  generalize Rw.schemaB s = sb at *
  generalize docB d = dbb at *
  go_enter Tryz.func41, Tryz.ntmps41
  cases sb
  · have hf := Lib.hid (HNOV.out rfl)
    go_wp2_with fail
    refine (CS.out _ (HA.out _ _ _)).mono ?_
    rintro e w1 ⟨rfl, hb1⟩
    have HB1 := Lib.hid ((HA.out _ _ _).trans (hb1.mono (HA.out _ _ _).size))
    have SB1 := Lib.hid (SB0.out.below SB0.out.lt hb1)
    clear hb1
    have ⟨⟨o0, o1⟩, g0, g1⟩ := Rw.keep2 SB1.out.out
    go_wp2_with fail
    change bodyPost _ _ _ _ _ (Rw.putL w1 (w.heap.size + 1 + 1) 0 [.string ⟨#[]⟩, .int .i64 1])
    have ⟨⟨z0, z1⟩, HBF⟩ := out_two (t := ⟨#[]⟩) (c := 1) SB1.out.out HB1.out (by omega)
    exact bodyPost_ret (v := .agg #[.string ⟨#[]⟩, .int .i64 1]) (by simp [results, Tryz.results41, go_sem, z0, z1]) rfl ⟨by rw [hf.out]; rfl, HBF⟩
  · go_wp2_with fail
    refine (CS.out _ (HA.out _ _ _)).mono ?_
    rintro e w1 ⟨rfl, hb1⟩
    have HB1 := Lib.hid ((HA.out _ _ _).trans (hb1.mono (HA.out _ _ _).size))
    have SB1 := Lib.hid (SB0.out.below SB0.out.lt hb1)
    clear hb1
    have ⟨k0, _⟩ := Rw.keep1 SB1.out.sch
    have ⟨⟨e0, e1⟩, _⟩ := Rw.keep2 SB1.out.doc
    go_wp2_with fail
    refine (CD.out _ HB1.out).mono ?_
    rintro e w2 ⟨rfl, hb2⟩
    have HB2 := Lib.hid (HB1.out.trans (hb2.mono HB1.out.size))
    have SB2 := Lib.hid (SB1.out.below SB1.out.lt hb2)
    clear hb2 k0 e0 e1
    have ⟨k0, _⟩ := Rw.keep1 SB2.out.sch
    have ⟨⟨e0, e1⟩, _⟩ := Rw.keep2 SB2.out.doc
    have ⟨⟨o0, o1⟩, g0, g1⟩ := Rw.keep2 SB2.out.out
    cases dbb
    · have hf := Lib.hid (HNOV.out rfl)
      go_wp2_with fail
      change bodyPost _ _ _ _ _ (Rw.putL w2 (w.heap.size + 1 + 1) 0 [.string ⟨#[]⟩, .int .i64 1])
      have ⟨⟨z0, z1⟩, HBF⟩ := out_two (t := ⟨#[]⟩) (c := 1) SB2.out.out HB2.out (by omega)
      exact bodyPost_ret (v := .agg #[.string ⟨#[]⟩, .int .i64 1]) (by simp [results, Tryz.results41, go_sem, z0, z1]) rfl ⟨by rw [hf.out]; rfl, HBF⟩
    · have hf := Lib.hid (HYES.out rfl)
      have CV2 := Lib.hid (CV.out rfl w2 HB2.out)
      obtain ⟨zt, hzt⟩ : ∃ x, whatW rw_ = x := ⟨_, rfl⟩
      obtain ⟨zc, hzc⟩ : ∃ x, codeW rw_ = x := ⟨_, rfl⟩
      have HZT := Lib.hid hzt
      have HZC := Lib.hid hzc
      rw [hzt, hzc] at CV2
      clear hzt hzc CV
      go_wp2_with fail
      refine CV2.out.mono ?_
      rintro e w3 ⟨rfl, hb3⟩
      have HB3 := Lib.hid (HB2.out.trans (hb3.mono HB2.out.size))
      have SB3 := Lib.hid (SB2.out.below SB2.out.lt hb3)
      clear hb3 k0 e0 e1 o0 o1 g0 g1
      have ⟨⟨o0, o1⟩, g0, g1⟩ := Rw.keep2 SB3.out.out
      go_wp2_with fail
      change bodyPost _ _ _ _ _ (Rw.putL w3 (w.heap.size + 1 + 1) 0 [.string zt, .int .i64 zc])
      have ⟨⟨z0, z1⟩, HBF⟩ := out_two (t := zt) (c := zc) SB3.out.out HB3.out (by omega)
      exact bodyPost_ret (v := .agg #[.string zt, .int .i64 zc]) (by simp [results, Tryz.results41, go_sem, z0, z1]) rfl ⟨by rw [hf.out, HZT.out, HZC.out], HBF⟩

/-- What validOf tells of what wrongOf told. -/
theorem validOf_of {s : List Rw.TypeP} {d : DocP} {x : Value} (h : WOut s d x) (w : World) (hg : ErrW.ErrVar w) :
    Calls Tryz.prog 89 #[x] w fun e w' => e = .returned (.agg #[.string (whatW (validW s d)), .int .i64 (codeW (validW s d))]) ∧ Below w.heap.size w w' := by
  rcases h with ⟨h1, rfl⟩ | ⟨h1, h2, h3⟩
  · rw [validW_no h1]; exact ErrW.validForm w hg
  · rw [validW_yes h1]
    rcases h2 with ⟨h2, rfl⟩ | ⟨e, y, rfl, h2, hl⟩
    · rw [h2]; exact ErrW.validNil w
    · have h8 : y.1.size ≤ 8 := by
        rcases h3 y h2 with h | h
        · obtain ⟨T, p, hv⟩ := val_iface e
          rw [hv] at h; cases h
        · exact h
      rw [h2]
      obtain ⟨t, c⟩ := y
      rcases hl with ⟨hc, hl⟩ | ⟨hc, hl⟩ | ⟨hc, hl⟩ | ⟨hc, hl⟩
      all_goals
        simp only at hc hl h8
        subst hc
      · exact ErrW.validNone e t hl (by omega) w hg
      · exact ErrW.validThere e t hl (by omega) w hg
      · exact ErrW.validRange e t hl (by omega) w hg
      · exact ErrW.validState e t hl (by omega) w hg

set_option maxHeartbeats 4000000 in
theorem implValidate (w : World) (B : Nat) (v dv : Value) (s : List Rw.TypeP) (d : DocP) (hv : Rw.SchemaAt w 0 B v s) (hd : DocAt w 0 B dv d) (hB : B ≤ w.heap.size) (hg : ErrW.ErrVar w) :
    Calls Tryz.prog 34 #[v, dv] w fun e w' => e = .returned (.agg #[.string (whatW (validW s d)), .int .i64 (codeW (validW s d))]) ∧ Below w.heap.size w w' := by
  have CW : Hid (∀ w', Below w.heap.size w w' → Calls Tryz.prog 90 #[v, dv] w' fun e w'' => (∃ x, e = .returned x ∧ WOut s d x) ∧ Below w'.heap.size w' w'') := Lib.hid fun w' h => implWrongOf w' B v dv s d (hv.below hB h) (hd.below hB h) (Nat.le_trans hB h.size)
  have CO : Hid (∀ x, WOut s d x → ∀ w', Below w.heap.size w w' → Calls Tryz.prog 89 #[x] w' fun e w'' => e = .returned (.agg #[.string (whatW (validW s d)), .int .i64 (codeW (validW s d))]) ∧ Below w'.heap.size w' w'') := Lib.hid fun x hx w' h => validOf_of hx w' (hg.below h)
  obtain ⟨ta, tca, rfl, _, _⟩ := hv
  obtain ⟨da, dca, db, dcb, rfl, _, _, _⟩ := hd
  have SB0 := Lib.hid (SelB.make w (.slice ta s.length tca) (.slice da d.sels.len dca) (.slice db d.frags.length dcb))
  have HA : Hid (∀ o1 o2 o3, Below w.heap.size w (((w.alloc o1).alloc o2).alloc o3)) := Lib.hid fun o1 o2 o3 => (((Below.refl _ _).alloc (Nat.le_refl _) o1).alloc (by simp) o2).alloc (by simp; omega) o3
  obtain ⟨zt, hzt⟩ : ∃ x, whatW (validW s d) = x := ⟨_, rfl⟩
  obtain ⟨zc, hzc⟩ : ∃ x, codeW (validW s d) = x := ⟨_, rfl⟩
  rw [hzt, hzc] at CO ⊢
  clear hzt hzc hg
  go_enter Tryz.func34, Tryz.ntmps34
  go_wp2_with fail
  refine (CW.out _ (HA.out _ _ _)).mono ?_
  rintro e w1 ⟨⟨x, rfl, hx⟩, hb1⟩
  have HB1 := Lib.hid ((HA.out _ _ _).trans (hb1.mono (HA.out _ _ _).size))
  have SB1 := Lib.hid (SB0.out.below SB0.out.lt hb1)
  have C1 := Lib.hid (CO.out x hx w1 HB1.out)
  clear hb1 hx
  go_wp2_with fail
  refine C1.out.mono ?_
  rintro e w2 ⟨rfl, hb2⟩
  have HB2 := Lib.hid (HB1.out.trans (hb2.mono HB1.out.size))
  have SB2 := Lib.hid (SB1.out.below SB1.out.lt hb2)
  clear hb2
  have ⟨⟨o0, o1⟩, g0, g1⟩ := Rw.keep2 SB2.out.out
  go_wp2_with fail
  change bodyPost _ _ _ _ _ (Rw.putL w2 (w.heap.size + 1 + 1) 0 [.string zt, .int .i64 zc])
  have ⟨⟨z0, z1⟩, HBF⟩ := out_two (t := zt) (c := zc) SB2.out.out HB2.out (by omega)
  exact bodyPost_ret (v := .agg #[.string zt, .int .i64 zc]) (by simp [results, Tryz.results34, go_sem, z0, z1]) rfl ⟨rfl, HBF⟩
end Go.Proofs.YtahcheahpbnkiaaGreatDoor.Selss

namespace Go.Proofs.YtahcheahpbnkiaaGreatDoor.Selss
open Go.RowKit Words Go.Maps
set_option linter.unusedVariables false
set_option maxRecDepth 100000

/-- The boxes of the law's Schema and Doc, and that nothing that was there has changed. -/
structure Bx (w W : World) (sv d0 d1 : Value) : Prop where
  bel : Below w.heap.size w W
  sch : W.heap[w.heap.size]? = some (.cells #[sv] 73 (0, 0))
  doc : W.heap[w.heap.size + 1]? = some (.cells #[d0, d1] 77 (0, 0))
namespace Bx
variable {w W W' : World} {sv d0 d1 : Value}
theorem make (w : World) (sv d0 d1 : Value) : Bx w ((w.alloc (.cells #[sv] 73)).alloc (.cells #[d0, d1] 77)) sv d0 d1 :=
  ⟨((Below.refl _ _).alloc (Nat.le_refl _) _).alloc (by simp) _, by rw [Go.Deep.blk_alloc_lt _ _ _ (by simp)]; exact heap_alloc_new w _, by have := heap_alloc_new (w.alloc (.cells #[sv] 73)) (.cells #[d0, d1] 77); simpa using this⟩
theorem lt (h : Bx w W sv d0 d1) : w.heap.size + 1 < W.heap.size := Rw.lt_of_get h.doc
theorem next (h : Bx w W sv d0 d1) (g : Below W.heap.size W W') : Bx w W' sv d0 d1 :=
  ⟨h.bel.trans (g.mono h.bel.size), (g.block _ (by have := h.lt; omega)).trans h.sch, (g.block _ h.lt).trans h.doc⟩
theorem alloc (h : Bx w W sv d0 d1) (o : Obj) : Bx w (W.alloc o) sv d0 d1 := h.next ((Below.refl _ _).alloc (Nat.le_refl _) o)
theorem drew (h : Bx w W sv d0 d1) : Bx w W.drew sv d0 d1 := h.next (Below.refl _ _).drew
theorem put (h : Bx w W sv d0 d1) {g : Nat} (hg : w.heap.size + 1 < g) (v0 v1 : Value) : Bx w (Rw.putL W g 0 [v0, v1]) sv d0 d1 :=
  ⟨Rw.putL_below (by omega) _ 0 h.bel, (Rw.putL_other _ _ _ _ _ (by omega)).trans h.sch, (Rw.putL_other _ _ _ _ _ (by omega)).trans h.doc⟩
theorem cells (h : Bx w W sv d0 d1) : W.cell? ⟨w.heap.size, 0, none⟩ = some sv ∧ W.cell? ⟨w.heap.size + 1, 0, none⟩ = some d0 ∧ W.cell? ⟨w.heap.size + 1, 1, none⟩ = some d1 :=
  ⟨(Rw.keep1 h.sch).1, (Rw.keep2 h.doc).1.1, (Rw.keep2 h.doc).1.2⟩
end Bx
/-- A Schema, a Doc that lie in memory as it is. -/
def SX (W : World) (v : Value) (s : List Rw.TypeP) : Prop := Rw.SchemaAt W 0 W.heap.size v s
def DX (W : World) (v : Value) (d : DocP) : Prop := DocAt W 0 W.heap.size v d
theorem SX.next {W W' : World} {v : Value} {s : List Rw.TypeP} (h : SX W v s) (g : Below W.heap.size W W') : SX W' v s := Rw.SchemaAt.wide (Rw.SchemaAt.below h (Nat.le_refl _) g) (Nat.le_refl _) g.size
theorem SX.alloc {W : World} {v : Value} {s : List Rw.TypeP} (h : SX W v s) (o : Obj) : SX (W.alloc o) v s := h.next ((Below.refl _ _).alloc (Nat.le_refl _) o)
theorem SX.drew {W : World} {v : Value} {s : List Rw.TypeP} (h : SX W v s) : SX W.drew v s := h.next (Below.refl _ _).drew
theorem DX.next {W W' : World} {v : Value} {d : DocP} (h : DX W v d) (g : Below W.heap.size W W') : DX W' v d := (DocAt.below h (Nat.le_refl _) g).wide (Nat.le_refl _) g.size
theorem DX.alloc {W : World} {v : Value} {d : DocP} (h : DX W v d) (o : Obj) : DX (W.alloc o) v d := h.next ((Below.refl _ _).alloc (Nat.le_refl _) o)
theorem DX.drew {W : World} {v : Value} {d : DocP} (h : DX W v d) : DX W.drew v d := h.next (Below.refl _ _).drew
theorem SX.of {W : World} {A : Nat} {v : Value} {s : List Rw.TypeP} (h : Rw.SchemaX W A W.heap.size v s) : SX W v s := Rw.SchemaAt.wide h.at_ (Nat.zero_le _) (Nat.le_refl _)
theorem DX.of {W : World} {A : Nat} {v : Value} {d : DocP} (h : DocAt W A W.heap.size v d) : DX W v d := h.wide (Nat.zero_le _) (Nat.le_refl _)
theorem eqV (t : ByteArray) (c : Int) (w : World) :
    Calls Tryz.prog 55 #[.agg #[.string t, .int .i64 c], .agg #[.string t, .int .i64 c]] w fun e w' => e = .returned (.bool true) ∧ Below w.heap.size w w' := by
  go_enter Tryz.func55, Tryz.ntmps55
  go_wp2_with fail
  go_ret
  exact ⟨rfl, ((Below.refl _ _).alloc (Nat.le_refl _) _).alloc (by simp) _⟩
end Go.Proofs.YtahcheahpbnkiaaGreatDoor.Selss
