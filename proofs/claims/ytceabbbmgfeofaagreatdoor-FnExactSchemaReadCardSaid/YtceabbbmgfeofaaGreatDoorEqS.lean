/-
  Contracts: laws.eqField, eqFieldS, eqType, eqTypeS, eqSchema say of like ones that they are; of what was there nothing is changed. Conditions: in memory.
-/
import Derived.Test.YtceabbbmgfeofaaGreatDoorRows
import Derived.Test.YtceabbbmgfeofaaGreatDoorRow
import Derived.Test.YtceabbbmgfeofaaGreatDoorSch
namespace Go.Proofs.YtceabbbmgfeofaaGreatDoor.Rw
open Go.RowKit
set_option linter.unusedVariables false
set_option maxRecDepth 100000
theorem eqStringS (w : World) (A B : Nat) (a a' : Option Addr) (len cap cap' : Nat) (l : List ByteArray) (hs : TextsAt w A B a len l) (hs' : TextsAt w A B a' len l) (hB : B ≤ w.heap.size) :
    Calls Tryz.prog 170 #[.slice a len cap, .slice a' len cap'] w fun e w' => e = .returned (.bool true) ∧ Below w.heap.size w w' := by
  have hlen := hs.2.1
  have HS := Lib.hid hs
  have HS' := Lib.hid hs'
  clear hs hs'
  go_enter Tryz.func170, Tryz.ntmps170
  go_wp2_with fail
  go_loopw [5] (fun i wr => ∃ i' : Nat, i' ≤ len ∧ i = .int .i64 i' ∧ Below w.heap.size w wr) (fun i _ => len - (intOf i).toNat)
  case atStart => exact ⟨0, by omega, rfl, Below.refl _ _⟩
  case round =>
    obtain ⟨i, hi, rfl, hb⟩ := hrel
    by_cases hlt : i < len
    · have hli : (i : Int) < (len : Int) := by omega
      obtain ⟨x, b, off, hd, rfl, hA, hbb, hok, hc⟩ := (HS.out.below textLies (Nat.le_refl _) (hb.mono hB)).at hlt
      obtain ⟨x', b', off', hd', rfl, hA', hbb', hok', hc'⟩ := (HS'.out.below textLies (Nat.le_refl _) (hb.mono hB)).at hlt
      obtain rfl : x' = x := by rw [hd] at hd'; cases hd'; rfl
      rw [Nat.mul_one] at hc hc'
      have HB := Lib.hid hb
      clear hlt hd hd' hb hok hok'
      go_wp2_with fail
      go_region
      go_wp2_with fail
      go_roundw
      case rel => exact ⟨i + 1, by omega, by go_num, HB.out.drew⟩
      case measure => simp [intOf]; omega
    · obtain rfl : i = len := by omega
      have HB := Lib.hid hb
      clear hlt hb
      go_wp2_with fail
      go_ret
      exact ⟨rfl, HB.out⟩
theorem eqField (w : World) (x : FieldP) (hx : x.ok) :
    Calls Tryz.prog 193 #[.agg x.cells.toArray, .agg x.cells.toArray] w fun e w' => e = .returned (.bool true) ∧ Below w.heap.size w w' := by
  obtain ⟨nm, tp, ls, mu, sz, cp⟩ := x
  obtain ⟨hk, hn, ⟨hs1, hs2⟩, hc1, hc2⟩ := hx
  unfold OkS at hk hn
  simp only [FieldP.cells] at hk hn hs1 hs2 hc1 hc2 ⊢
  have HA : Hid (∀ o1 o2, Below w.heap.size w ((w.alloc o1).alloc o2)) := Lib.hid fun o1 o2 => ((Below.refl _ _).alloc (Nat.le_refl _) o1).alloc (by simp) o2
  go_enter Tryz.func193, Tryz.ntmps193
  go_wp2_with fail
  go_ret
  exact ⟨rfl, HA.out _ _⟩
theorem eqFieldS (w : World) (A B : Nat) (a a' : Option Addr) (len cap cap' : Nat) (l : List FieldP) (hs : FieldsAt w A B a len l) (hs' : FieldsAt w A B a' len l) (hB : B ≤ w.heap.size) :
    Calls Tryz.prog 169 #[.slice a len cap, .slice a' len cap'] w fun e w' => e = .returned (.bool true) ∧ Below w.heap.size w w' := by
  have hlen := hs.2.1
  have HS := Lib.hid hs
  have HS' := Lib.hid hs'
  clear hs hs'
  go_enter Tryz.func169, Tryz.ntmps169
  go_wp2_with fail
  go_loopw [5] (fun i wr => ∃ i' : Nat, i' ≤ len ∧ i = .int .i64 i' ∧ Below w.heap.size w wr) (fun i _ => len - (intOf i).toNat)
  case atStart => exact ⟨0, by omega, rfl, Below.refl _ _⟩
  case round =>
    obtain ⟨i, hi, rfl, hb⟩ := hrel
    by_cases hlt : i < len
    · have hli : (i : Int) < (len : Int) := by omega
      obtain ⟨x, b, off, hd, rfl, hA, hbb, hok, hc⟩ := (HS.out.below fieldLies (Nat.le_refl _) (hb.mono hB)).at hlt
      obtain ⟨x', b', off', hd', rfl, hA', hbb', hok', hc'⟩ := (HS'.out.below fieldLies (Nat.le_refl _) (hb.mono hB)).at hlt
      obtain rfl : x' = x := by rw [hd] at hd'; cases hd'; rfl
      obtain ⟨c0, c1, c2, c3, c4, c5⟩ := row6 hc
      obtain ⟨d0, d1, d2, d3, d4, d5⟩ := row6 hc'
      have HB := Lib.hid hb
      have HC : Hid (∀ w, Calls Tryz.prog 193 #[.agg #[.string x'.name, .string x'.typ, .bool x'.list, .bool x'.must, .int .i64 x'.size, .int .i64 x'.cap], .agg #[.string x'.name, .string x'.typ, .bool x'.list, .bool x'.must, .int .i64 x'.size, .int .i64 x'.cap]] w fun e w' => e = .returned (.bool true) ∧ Below w.heap.size w w') := Lib.hid fun w => eqField w x' hok
      clear hlt hd hd' hb hok hok' hc hc'
      go_wp2_with fail
      go_region_with (go_at_call 193; refine (HC.out _).mono ?_; rintro e w1 ⟨rfl, hb1⟩)
      all_goals
        have HB1 := Lib.hid (HB.out.drew.trans (hb1.mono HB.out.drew.size))
        clear hb1
        go_wp2_with fail
        go_roundw
        case rel => exact ⟨i + 1, by omega, by go_num, HB1.out⟩
        case measure => simp [intOf]; omega
    · obtain rfl : i = len := by omega
      have HB := Lib.hid hb
      clear hlt hb
      go_wp2_with fail
      go_ret
      exact ⟨rfl, HB.out⟩
theorem eqType (w : World) (A B : Nat) (v v' : Value) (x : TypeP) (hs : TypeAt w A B v x) (hs' : TypeAt w A B v' x) (hB : B ≤ w.heap.size) :
    Calls Tryz.prog 123 #[v, v'] w fun e w' => e = .returned (.bool true) ∧ Below w.heap.size w w' := by
  obtain ⟨a, ca, c, cc, rfl, hk, ⟨h2, _⟩, h3, _⟩ := hs
  obtain ⟨a', ca', c', cc', rfl, _, ⟨h2', _⟩, h3', _⟩ := hs'
  obtain ⟨nm, kd, by_, fs, ms⟩ := x
  obtain ⟨hk, ⟨hs1, hs2⟩, hs3, hs4⟩ := hk
  unfold OkS at hk
  simp only [TypeP.cells] at hk hs1 hs2 hs3 hs4 h2 h3 h2' h3' ⊢
  have H2 := Lib.hid h2
  have H3 := Lib.hid h3
  have H2' := Lib.hid h2'
  have H3' := Lib.hid h3'
  clear h2 h3 h2' h3'
  have HA : Hid (∀ o1 o2, Below w.heap.size w ((w.alloc o1).alloc o2)) := Lib.hid fun o1 o2 => ((Below.refl _ _).alloc (Nat.le_refl _) o1).alloc (by simp) o2
  go_enter Tryz.func123, Tryz.ntmps123
  go_wp2_with fail
  refine (eqFieldS _ A B a a' _ ca ca' fs (H2.out.below fieldLies hB (HA.out _ _)) (H2'.out.below fieldLies hB (HA.out _ _)) (Nat.le_trans hB (HA.out _ _).size)).mono ?_
  rintro e w1 ⟨rfl, hb1⟩
  have HB1 := Lib.hid ((HA.out _ _).trans (hb1.mono (HA.out _ _).size))
  have hk1 := hb1.cell (p := ⟨w.heap.size, 4, none⟩) (by simp; omega)
  have hk2 := hb1.cell (p := ⟨w.heap.size + 1, 4, none⟩) (by simp)
  simp at hk1 hk2
  clear hb1
  go_wp2_with fail
  refine (eqStringS _ A B c c' _ cc cc' ms (H3.out.below textLies hB HB1.out) (H3'.out.below textLies hB HB1.out) (Nat.le_trans hB HB1.out.size)).mono ?_
  rintro e w2 ⟨rfl, hb2⟩
  have HB2 := Lib.hid (HB1.out.trans (hb2.mono HB1.out.size))
  clear hb2
  go_wp2_with fail
  go_ret
  exact ⟨rfl, HB2.out⟩
theorem eqTypeS (w : World) (A B : Nat) (a a' : Option Addr) (len cap cap' : Nat) (l : List TypeP) (hs : TypesAt w A B a len l) (hs' : TypesAt w A B a' len l) (hB : B ≤ w.heap.size) :
    Calls Tryz.prog 73 #[.slice a len cap, .slice a' len cap'] w fun e w' => e = .returned (.bool true) ∧ Below w.heap.size w w' := by
  have hlen := hs.2.1
  have HS := Lib.hid hs
  have HS' := Lib.hid hs'
  clear hs hs'
  go_enter Tryz.func73, Tryz.ntmps73
  go_wp2_with fail
  go_loopw [5] (fun i wr => ∃ i' : Nat, i' ≤ len ∧ i = .int .i64 i' ∧ Below w.heap.size w wr) (fun i _ => len - (intOf i).toNat)
  case atStart => exact ⟨0, by omega, rfl, Below.refl _ _⟩
  case round =>
    obtain ⟨i, hi, rfl, hb⟩ := hrel
    by_cases hlt : i < len
    · have hli : (i : Int) < (len : Int) := by omega
      obtain ⟨x, b, off, hd, rfl, hA, hbb, hok, a1, ca, c, cc, hc, h2, h3⟩ := (HS.out.below typeLies (Nat.le_refl _) (hb.mono hB)).at hlt
      obtain ⟨x', b', off', hd', rfl, hA', hbb', hok', a2, ca', c', cc', hc', h2', h3'⟩ := (HS'.out.below typeLies (Nat.le_refl _) (hb.mono hB)).at hlt
      obtain rfl : x' = x := by rw [hd] at hd'; cases hd'; rfl
      obtain ⟨c0, c1, c2, c3, c4⟩ := row5 hc
      obtain ⟨d0, d1, d2, d3, d4⟩ := row5 hc'
      have HB := Lib.hid hb
      have HX : Hid (TypeAt wr.drew A B (.agg #[.string x'.name, .int .i64 x'.kind, .int .i64 x'.bytes, .slice a1 x'.fields.length ca, .slice c x'.members.length cc]) x') := Lib.hid ⟨a1, ca, c, cc, rfl, hok, ⟨h2.1.drew fieldLies, h2.2⟩, h3.1.drew textLies, h3.2⟩
      have HX' : Hid (TypeAt wr.drew A B (.agg #[.string x'.name, .int .i64 x'.kind, .int .i64 x'.bytes, .slice a2 x'.fields.length ca', .slice c' x'.members.length cc']) x') := Lib.hid ⟨a2, ca', c', cc', rfl, hok, ⟨h2'.1.drew fieldLies, h2'.2⟩, h3'.1.drew textLies, h3'.2⟩
      have hBd : Hid (B ≤ wr.drew.heap.size) := Lib.hid (Nat.le_trans hB HB.out.size)
      clear hlt hd hd' hb hok hok' hc hc' h2 h3 h2' h3'
      go_wp2_with fail
      go_region_with (go_at_call 123; refine (eqType _ A B _ _ x' HX.out HX'.out hBd.out).mono ?_; rintro e w1 ⟨rfl, hb1⟩)
      all_goals
        have HB1 := Lib.hid (HB.out.drew.trans (hb1.mono HB.out.drew.size))
        clear hb1
        go_wp2_with fail
        go_roundw
        case rel => exact ⟨i + 1, by omega, by go_num, HB1.out⟩
        case measure => simp [intOf]; omega
    · obtain rfl : i = len := by omega
      have HB := Lib.hid hb
      clear hlt hb
      go_wp2_with fail
      go_ret
      exact ⟨rfl, HB.out⟩
theorem eqSchema (w : World) (A B : Nat) (v v' : Value) (s : List TypeP) (hs : SchemaAt w A B v s) (hs' : SchemaAt w A B v' s) (hB : B ≤ w.heap.size) :
    Calls Tryz.prog 31 #[v, v'] w fun e w' => e = .returned (.bool true) ∧ Below w.heap.size w w' := by
  obtain ⟨a, ca, rfl, h2, _⟩ := hs
  obtain ⟨a', ca', rfl, h2', _⟩ := hs'
  have H2 := Lib.hid h2
  have H2' := Lib.hid h2'
  clear h2 h2'
  have HA : Hid (∀ o1 o2, Below w.heap.size w ((w.alloc o1).alloc o2)) := Lib.hid fun o1 o2 => ((Below.refl _ _).alloc (Nat.le_refl _) o1).alloc (by simp) o2
  go_enter Tryz.func31, Tryz.ntmps31
  go_wp2_with fail
  refine (eqTypeS _ A B a a' _ ca ca' s (H2.out.below typeLies hB (HA.out _ _)) (H2'.out.below typeLies hB (HA.out _ _)) (Nat.le_trans hB (HA.out _ _).size)).mono ?_
  rintro e w1 ⟨rfl, hb1⟩
  have HB1 := Lib.hid ((HA.out _ _).trans (hb1.mono (HA.out _ _).size))
  clear hb1
  go_wp2_with fail
  go_ret
  exact ⟨rfl, HB1.out⟩
end Go.Proofs.YtceabbbmgfeofaaGreatDoor.Rw
