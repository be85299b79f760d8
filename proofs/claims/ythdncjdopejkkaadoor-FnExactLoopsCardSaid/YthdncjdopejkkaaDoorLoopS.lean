/-
  Contract: spec.Loops: which Frag comes first to spread itself; of what was there nothing is changed. Conditions: in memory.
-/
import Derived.Test.YthdncjdopejkkaaDoorRows
import Derived.Test.YthdncjdopejkkaaDoorLoopI
namespace Go.Proofs.YthdncjdopejkkaaDoor.Selss
open Go.RowKit Words
set_option linter.unusedVariables false
set_option maxRecDepth 100000

theorem specLoops (w : World) (A B : Nat) (v : Value) (d : DocP) (hs : DocAt w A B v d) (hB : B ≤ w.heap.size) :
    Calls Tryd.prog 6 #[v] w fun e w' => e = .returned (.string (loopsD d)) ∧ Below w.heap.size w w' := by
  have CR : Hid (∀ w' : World, Below w.heap.size w w' → Calls Tryd.prog 14 #[v] w' fun e w'' => e = .returned (.bool (docB d)) ∧ Below w'.heap.size w' w'') := Lib.hid fun w' h => specDocRight w' A B v d (hs.below hB h) (Nat.le_trans hB h.size)
  have CL : Hid (docB d = true → ∀ w' : World, Below w.heap.size w w' → Calls Tryd.prog 15 #[v] w' fun e w'' => e = .returned (.string (loopN d.frags d.frags)) ∧ Below w'.heap.size w' w'') := Lib.hid fun hd w' h => specL05Loops w' A B v d (hs.below hB h) (Nat.le_trans hB h.size) (docB_all hd)
  obtain ⟨q, hq⟩ : ∃ q, docB d = q := ⟨_, rfl⟩
  have HQ := Lib.hid hq
  rw [hq] at CR
  obtain ⟨a, ca, b, cb, rfl, _, _⟩ := hs
  have HA : Hid (∀ o, Below w.heap.size w (w.alloc o)) := Lib.hid fun o => (Below.refl _ _).alloc (Nat.le_refl _) o
  clear hq
  cases q
  · have hf := Lib.hid (show loopsD d = ⟨#[]⟩ by unfold loopsD; rw [if_neg (by rw [HQ.out]; simp)])
    go_enter Tryd.func6, Tryd.ntmps6
    go_wp2_with fail
    refine (CR.out _ (HA.out _)).mono ?_
    rintro e w1 ⟨rfl, hb1⟩
    have HB1 := Lib.hid ((HA.out _).trans (hb1.mono (HA.out _).size))
    clear hb1
    go_wp2_with fail
    go_ret
    exact ⟨ret_s hf.out.symm, HB1.out⟩
  · have hf := Lib.hid (show loopsD d = loopN d.frags d.frags by unfold loopsD; rw [if_pos HQ.out])
    have CL2 := Lib.hid (CL.out HQ.out)
    go_enter Tryd.func6, Tryd.ntmps6
    go_wp2_with fail
    refine (CR.out _ (HA.out _)).mono ?_
    rintro e w1 ⟨rfl, hb1⟩
    have HB1 := Lib.hid ((HA.out _).trans (hb1.mono (HA.out _).size))
    have k0 := hb1.cell (p := ⟨w.heap.size, 0, none⟩) (by simp)
    have k1 := hb1.cell (p := ⟨w.heap.size, 1, none⟩) (by simp)
    simp at k0 k1
    clear hb1
    go_wp2_with fail
    refine (CL2.out _ HB1.out).mono ?_
    rintro e w2 ⟨rfl, hb2⟩
    have HB2 := Lib.hid (HB1.out.trans (hb2.mono HB1.out.size))
    clear hb2 k0 k1
    go_wp2_with fail
    go_ret
    exact ⟨ret_s hf.out.symm, HB2.out⟩
end Go.Proofs.YthdncjdopejkkaaDoor.Selss
