/-
  Contracts: laws.eqNode, eqNodeS say of like nodes that they are; of what was there nothing is changed. Conditions: in memory.
-/
import Derived.Test.YtlncdkeooacebaaDoorRows
import Derived.Test.YtlncdkeooacebaaDoorNodeM
import Derived.Test.YtlncdkeooacebaaDoorEqT
namespace Go.Proofs.YtlncdkeooacebaaDoor.Rw
open Go.RowKit
set_option linter.unusedVariables false
set_option maxRecDepth 100000

def EqOne (n : Nat) : Prop := ∀ (w : World) (A B : Nat) (v v' : Value) (x : NodeP), NodeV n w A B v x → NodeV n w A B v' x → B ≤ w.heap.size →
    Calls Tryd.prog 53 #[v, v'] w fun e w' => e = .returned (.bool true) ∧ Below w.heap.size w w'
def EqAll (n : Nat) : Prop := ∀ (w : World) (A B : Nat) (a a' : Option Addr) (len cap cap' : Nat) (l : List NodeP), NodesAt n w A B a len l → NodesAt n w A B a' len l → B ≤ w.heap.size →
    Calls Tryd.prog 83 #[.slice a len cap, .slice a' len cap'] w fun e w' => e = .returned (.bool true) ∧ Below w.heap.size w w'
theorem eqAll_of (n : Nat) (HN : EqOne n) : EqAll n := by
  intro w A B a a' len cap cap' l hs hs' hB
  have hlen := hs.2.1
  have HS := Lib.hid hs
  have HS' := Lib.hid hs'
  have HNH := Lib.hid HN
  clear hs hs' HN
  go_enter Tryd.func83, Tryd.ntmps83
  go_wp2_with fail
  go_loopw [5] (fun i wr => ∃ i' : Nat, i' ≤ len ∧ i = .int .i64 i' ∧ Below w.heap.size w wr) (fun i _ => len - (intOf i).toNat)
  case atStart => exact ⟨0, by omega, rfl, Below.refl _ _⟩
  case round =>
    obtain ⟨i, hi, rfl, hb⟩ := hrel
    by_cases hlt : i < len
    · have hli : (i : Int) < (len : Int) := by omega
      obtain ⟨x, b, off, hd, rfl, hA, hbb, hxl⟩ := (HS.out.below (nodeLies n) (Nat.le_refl _) (hb.mono hB)).at hlt
      obtain ⟨x', b', off', hd', rfl, hA', hbb', hxl'⟩ := (HS'.out.below (nodeLies n) (Nat.le_refl _) (hb.mono hB)).at hlt
      obtain rfl : x' = x := by rw [hd] at hd'; cases hd'; rfl
      obtain ⟨a1, ca, c, cc, hc, hv⟩ := hxl.val
      obtain ⟨a2, ca', c', cc', hc', hv'⟩ := hxl'.val
      obtain ⟨c0, c1, c2, c3⟩ := nrow4 hc
      obtain ⟨d0, d1, d2, d3⟩ := nrow4 hc'
      have HB := Lib.hid hb
      have HX := Lib.hid hv.drew
      have HX' := Lib.hid hv'.drew
      have hBd : Hid (B ≤ wr.drew.heap.size) := Lib.hid (Nat.le_trans hB HB.out.size)
      clear hlt hd hd' hb hc hc' hxl hxl' hv hv'
      go_wp2_with fail
      go_region_with (go_at_call 53; refine (HNH.out _ A B _ _ x' HX.out HX'.out hBd.out).mono ?_; rintro e w1 ⟨rfl, hb1⟩)
      all_goals
        have HB1 := Lib.hid (HB.out.drew.trans (hb1.mono HB.out.drew.size))
        clear hb1
        go_wp2_with fail
        go_roundw
        case rel => exact ⟨i + 1, by omega, by go_num, HB1.out⟩
        case measure => simp [intOf]; omega
    · obtain rfl : i = len := by omega
      have HB := Lib.hid hb
      clear hlt hb
      go_wp2_with fail
      go_ret
      exact ⟨rfl, HB.out⟩
theorem eqOne_of (n : Nat) (HN : EqAll n) : EqOne (n + 1) := by
  intro w A B v v' x hs hs' hB
  obtain ⟨a, ca, c, cc, rfl, hk, ⟨h2, _⟩, h3, _⟩ := hs
  obtain ⟨a', ca', c', cc', rfl, _, ⟨h2', _⟩, h3', _⟩ := hs'
  obtain ⟨kd, tx, ks, ns⟩ := x
  obtain ⟨⟨hs1, hs2⟩, hk⟩ := hk
  unfold OkS at hk
  simp only [NodeP.cells] at hk hs1 hs2 h2 h3 h2' h3' ⊢
  have H2 := Lib.hid h2
  have H3 := Lib.hid h3
  have H2' := Lib.hid h2'
  have H3' := Lib.hid h3'
  have HNH := Lib.hid HN
  clear h2 h3 h2' h3' HN
  have HA : Hid (∀ o1 o2, Below w.heap.size w ((w.alloc o1).alloc o2)) := Lib.hid fun o1 o2 => ((Below.refl _ _).alloc (Nat.le_refl _) o1).alloc (by simp) o2
  go_enter Tryd.func53, Tryd.ntmps53
  go_wp2_with fail
  refine (eqStringS _ A B a a' _ ca ca' ks (H2.out.below textLies hB (HA.out _ _)) (H2'.out.below textLies hB (HA.out _ _)) (Nat.le_trans hB (HA.out _ _).size)).mono ?_
  rintro e w1 ⟨rfl, hb1⟩
  have HB1 := Lib.hid ((HA.out _ _).trans (hb1.mono (HA.out _ _).size))
  have hk1 := hb1.cell (p := ⟨w.heap.size, 3, none⟩) (by simp; omega)
  have hk2 := hb1.cell (p := ⟨w.heap.size + 1, 3, none⟩) (by simp)
  simp at hk1 hk2
  clear hb1
  go_wp2_with fail
  refine (HNH.out _ A B c c' _ cc cc' ns (H3.out.below (nodeLies n) hB HB1.out) (H3'.out.below (nodeLies n) hB HB1.out) (Nat.le_trans hB HB1.out.size)).mono ?_
  rintro e w2 ⟨rfl, hb2⟩
  have HB2 := Lib.hid (HB1.out.trans (hb2.mono HB1.out.size))
  clear hb2
  go_wp2_with fail
  go_ret
  exact ⟨rfl, HB2.out⟩
theorem eqNodes : ∀ n, EqOne n ∧ EqAll n
  | 0 => have h : EqOne 0 := fun _ _ _ _ _ _ h => h.elim
    ⟨h, eqAll_of 0 h⟩
  | n + 1 => have h := eqOne_of n (eqNodes n).2
    ⟨h, eqAll_of (n + 1) h⟩
theorem eqNode {n : Nat} : EqOne n := (eqNodes n).1
end Go.Proofs.YtlncdkeooacebaaDoor.Rw
