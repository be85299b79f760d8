/-
  Contracts: spec.CountOf, impl.CountOf: how many selections a right Doc has; of what was there nothing is changed. Conditions: in memory.
-/
import Derived.Test.YtcogbmcnljlnaaaRows
import Derived.Test.YtcogbmcnljlnaaaImplDoc
namespace Go.Proofs.Ytcogbmcnljlnaaa.Selss
open Go.RowKit Words
set_option linter.unusedVariables false

theorem specCountOf (w : World) (A B : Nat) (v : Value) (d : DocP) (hs : DocAt w A B v d) (hB : B ≤ w.heap.size) :
    Calls Try.prog 23 #[v] w fun e w' => e = .returned (.int .i64 (countD d)) ∧ Below w.heap.size w w' := by
  have CA : Hid (∀ w' : World, Below w.heap.size w w' → Calls Try.prog 39 #[v] w' fun e w'' => e = .returned (.int .i64 d.upto) ∧ Below w'.heap.size w' w'') := Lib.hid fun w' h => specAll w' A B v d (hs.below hB h) (Nat.le_trans hB h.size)
  have CR : Hid (∀ w' : World, Below w.heap.size w w' → Calls Try.prog 19 #[v] w' fun e w'' => e = .returned (.bool (docB d)) ∧ Below w'.heap.size w' w'') := Lib.hid fun w' h => specDocRight w' A B v d (hs.below hB h) (Nat.le_trans hB h.size)
  obtain ⟨q, hb⟩ : ∃ q, docB d = q := ⟨_, rfl⟩
  rw [hb] at CR
  obtain ⟨a, ca, b, cb, rfl, _, _⟩ := hs
  have HA : Hid (∀ o, Below w.heap.size w (w.alloc o)) := Lib.hid fun o => (Below.refl _ _).alloc (Nat.le_refl _) o
  cases q
  · have hf := Lib.hid (count_no hb)
    clear hb
    go_enter Try.func23, Try.ntmps23
    go_wp2_with fail
    refine (CR.out _ (HA.out _)).mono ?_
    rintro e w1 ⟨rfl, hb1⟩
    have HB1 := Lib.hid ((HA.out _).trans (hb1.mono (HA.out _).size))
    clear hb1
    go_wp2_with fail
    go_ret
    exact ⟨ret_i hf.out, HB1.out⟩
  · have hf := Lib.hid (count_yes hb)
    clear hb
    go_enter Try.func23, Try.ntmps23
    go_wp2_with fail
    refine (CR.out _ (HA.out _)).mono ?_
    rintro e w1 ⟨rfl, hb1⟩
    have HB1 := Lib.hid ((HA.out _).trans (hb1.mono (HA.out _).size))
    have k0 := hb1.cell (p := ⟨w.heap.size, 0, none⟩) (by simp)
    have k1 := hb1.cell (p := ⟨w.heap.size, 1, none⟩) (by simp)
    simp at k0 k1
    clear hb1
    go_wp2_with fail
    refine (CA.out _ HB1.out).mono ?_
    rintro e w2 ⟨rfl, hb2⟩
    have HB2 := Lib.hid (HB1.out.trans (hb2.mono HB1.out.size))
    clear hb2 k0 k1
    go_wp2_with fail
    go_ret
    exact ⟨ret_i hf.out, HB2.out⟩
theorem implCountOf (w : World) (A B : Nat) (v : Value) (d : DocP) (hs : DocAt w A B v d) (hB : B ≤ w.heap.size) :
    Calls Try.prog 24 #[v] w fun e w' => e = .returned (.int .i64 (countD d)) ∧ Below w.heap.size w w' := by
  have CA : Hid (∀ w' : World, Below w.heap.size w w' → Calls Try.prog 46 #[v] w' fun e w'' => e = .returned (.tuple #[.int .i64 (countD d), .bool (docB d)]) ∧ Below w'.heap.size w' w'') := Lib.hid fun w' h => implCountDoc w' A B v d (hs.below hB h) (Nat.le_trans hB h.size)
  obtain ⟨a, ca, b, cb, rfl, _, _⟩ := hs
  have HA : Hid (∀ o, Below w.heap.size w (w.alloc o)) := Lib.hid fun o => (Below.refl _ _).alloc (Nat.le_refl _) o
  generalize countD d = cn at *
  generalize docB d = db at *
  go_enter Try.func24, Try.ntmps24
  go_wp2_with fail
  refine (CA.out _ (HA.out _)).mono ?_
  rintro e w1 ⟨rfl, hb1⟩
  have HB1 := Lib.hid ((HA.out _).trans (hb1.mono (HA.out _).size))
  clear hb1
  go_wp2_with fail
  go_ret
  exact ⟨rfl, HB1.out⟩
end Go.Proofs.Ytcogbmcnljlnaaa.Selss
