/-
  Contract: laws.eqStringS says of like lists of texts that they are; of what was there nothing is changed. Conditions: in memory.
-/
import Derived.Test.YtlncdkeooacebaaDoorRows
import Derived.Test.YtlncdkeooacebaaDoorRow
namespace Go.Proofs.YtlncdkeooacebaaDoor.Rw
open Go.RowKit
set_option linter.unusedVariables false
set_option maxRecDepth 100000

theorem eqStringS (w : World) (A B : Nat) (a a' : Option Addr) (len cap cap' : Nat) (l : List ByteArray) (hs : TextsAt w A B a len l) (hs' : TextsAt w A B a' len l) (hB : B ≤ w.heap.size) :
    Calls Tryd.prog 82 #[.slice a len cap, .slice a' len cap'] w fun e w' => e = .returned (.bool true) ∧ Below w.heap.size w w' := by
  have hlen := hs.2.1
  have HS := Lib.hid hs
  have HS' := Lib.hid hs'
  clear hs hs'
  go_enter Tryd.func82, Tryd.ntmps82
  go_wp2_with fail
  go_loopw [5] (fun i wr => ∃ i' : Nat, i' ≤ len ∧ i = .int .i64 i' ∧ Below w.heap.size w wr) (fun i _ => len - (intOf i).toNat)
  case atStart => exact ⟨0, by omega, rfl, Below.refl _ _⟩
  case round =>
    obtain ⟨i, hi, rfl, hb⟩ := hrel
    by_cases hlt : i < len
    · have hli : (i : Int) < (len : Int) := by omega
      obtain ⟨x, b, off, hd, rfl, hA, hbb, hok, hc⟩ := (HS.out.below textLies (Nat.le_refl _) (hb.mono hB)).at hlt
      obtain ⟨x', b', off', hd', rfl, hA', hbb', hok', hc'⟩ := (HS'.out.below textLies (Nat.le_refl _) (hb.mono hB)).at hlt
      obtain rfl : x' = x := by rw [hd] at hd'; cases hd'; rfl
      rw [Nat.mul_one] at hc hc'
      have HB := Lib.hid hb
      clear hlt hd hd' hb hok hok'
      go_wp2_with fail
      go_region
      go_wp2_with fail
      go_roundw
      case rel => exact ⟨i + 1, by omega, by go_num, HB.out.drew⟩
      case measure => simp [intOf]; omega
    · obtain rfl : i = len := by omega
      have HB := Lib.hid hb
      clear hlt hb
      go_wp2_with fail
      go_ret
      exact ⟨rfl, HB.out⟩

end Go.Proofs.YtlncdkeooacebaaDoor.Rw
