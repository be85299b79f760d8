/-
  Contract: the model's reader of selections. Conditions: as each theorem says.
-/
import Derived.Test.YtnkknfnndoegpaaGreatDoorRows
import Derived.Test.YtnkknfnndoegpaaGreatDoorFragRd
import Derived.Test.YtnkknfnndoegpaaGreatDoorOwnFrag
import Derived.Test.YtnkknfnndoegpaaGreatDoorField
import Derived.Test.YtnkknfnndoegpaaGreatDoorSelRdC
namespace Go.Proofs.YtnkknfnndoegpaaGreatDoor.Selss
open Go.RowKit Words Decs Splits
set_option linter.unusedVariables false
set_option maxRecDepth 100000

abbrev RdS (w : World) (p : Nat) (a : Option Addr) (cap : Nat) (W : List Tok) (k : Nat) : Prop := Rd 36 w p a cap W k
def ModOk (d : Nat) : Prop := ∀ (w : World) (p cap k : Nat) (a : Option Addr) (W : List Tok), RdS w p a cap W k → k ≤ 100000 →
  Calls Tryz.prog 10 #[.pointer (some ⟨p, 0, none⟩), .int .i64 d] w fun e w' => ∃ a' cap' k', e = .returned (.slice a' (pSels d (W.drop k)).1.len cap') ∧
    SelsX w' w.heap.size w'.heap.size a' (pSels d (W.drop k)).1.len (pSels d (W.drop k)).1 ∧ RdS w' p a cap W k' ∧ Hid (W.drop k' = (pSels d (W.drop k)).2) ∧ k ≤ k' ∧ k' ≤ max k W.length + 10 * (d + 1) ∧ OnlyP p w w'

set_option maxHeartbeats 4000000 in
theorem modOk_zero : ModOk 0 := by
  intro w p cap k a W hR hk
  have hplt := hR.lt
  have HA : Hid (∀ o, Below w.heap.size w (w.alloc o)) := Lib.hid fun o => (Below.refl _ _).alloc (Nat.le_refl _) o
  have HR0 : Hid (∀ o, RdS (w.alloc o) p a cap W k) := Lib.hid fun o => hR.below hplt (HA.out o)
  have HOW : Hid (OwnSel (w.alloc (.cells #[] 50)) w.heap.size (.slice (some ⟨w.heap.size, 0, none⟩) 0 0) []) := Lib.hid (OwnSel.made w w.heap.size (Nat.le_refl _))
  clear hR
  go_enter Tryz.func10, Tryz.ntmps10
  go_wp2_with fail
  refine (rdNext _ p cap k a W (HR0.out _) (by omega)).mono ?_
  rintro e w1 ⟨rfl, hR1, ho⟩
  have HR1 := Lib.hid hR1
  have HO1 := Lib.hid (((OnlyP.refl p w).below (Nat.le_refl _) (HA.out _)).trans ho)
  have HOW1 := Lib.hid (HOW.out.frame ho.size (fun c c1 c2 => ho.block c c2 (by omega)))
  clear hR1 ho
  generalize ub (word (W.drop k)) = x at *
  have hx : x.toList = [123] ∨ x.toList ≠ [123] := Decidable.em _
  have HX : Hid (SelsX w1 w.heap.size w1.heap.size (some ⟨w.heap.size, 0, none⟩) 0 .nil) := by
    obtain ⟨a5, cap5, h5, h6, hsx⟩ := HOW1.out.selsX (by simp) HO1.out.size
    injection h5 with h5 h7 h8
    rw [← h5] at hsx; exact Lib.hid hsx
  have HDR := Lib.hid (show W.drop (k + 1) = (W.drop k).drop 1 by rw [List.drop_drop])
  rcases hx with hx | hx
  · have hxb : (x.toList == [123]) = true := by rw [hx]; rfl
    go_wp2_with fail
    all_goals go_ret
    all_goals exact ⟨_, _, k + 1, rfl, HX.out, HR1.out, HDR, by omega, by omega, HO1.out⟩
  · have hxb : (x.toList == [123]) = false := beq_eq_false_iff_ne.2 hx
    go_wp2_with fail
    all_goals go_ret
    all_goals exact ⟨_, _, k + 1, rfl, HX.out, HR1.out, HDR, by omega, by omega, HO1.out⟩
end Go.Proofs.YtnkknfnndoegpaaGreatDoor.Selss
