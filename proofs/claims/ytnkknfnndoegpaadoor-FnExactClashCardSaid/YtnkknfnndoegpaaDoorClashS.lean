/-
  Contract: spec.Clash: the Key of what clashes first; of what was there nothing is changed. Conditions: in memory.
-/
import Derived.Test.YtnkknfnndoegpaaDoorRows
import Derived.Test.YtnkknfnndoegpaaDoorClashN
namespace Go.Proofs.YtnkknfnndoegpaaDoor.Selss
open Go.RowKit Words
set_option linter.unusedVariables false
set_option maxRecDepth 100000

theorem specClash (w : World) (B : Nat) (v : Value) (d : DocP) (hs : DocAt w 0 B v d) (hB : B ≤ w.heap.size) :
    Calls Tryd.prog 5 #[v] w fun e w' => e = .returned (.string (clashD d)) ∧ Below w.heap.size w w' := by
  have CR : Hid (∀ w' : World, Below w.heap.size w w' → Calls Tryd.prog 11 #[v] w' fun e w'' => e = .returned (.bool (docB d)) ∧ Below w'.heap.size w' w'') := Lib.hid fun w' h => specDocRight w' 0 B v d (hs.below hB h) (Nat.le_trans hB h.size)
  have CL : Hid (docB d = true → ∀ w' : World, Below w.heap.size w w' → Calls Tryd.prog 12 #[v] w' fun e w'' => e = .returned (.string (loopN d.frags d.frags)) ∧ Below w'.heap.size w' w'') := Lib.hid fun hd w' h => specL05Loops w' 0 B v d (hs.below hB h) (Nat.le_trans hB h.size) (docB_all hd)
  have HDC := Lib.hid hs
  obtain ⟨q, hq⟩ : ∃ q, docB d = q := ⟨_, rfl⟩
  have HQ := Lib.hid hq
  rw [hq] at CR
  obtain ⟨a, ca, b, cb, rfl, hsl, _⟩ := hs
  have HSL := Lib.hid hsl
  have HA : Hid (∀ o, Below w.heap.size w (w.alloc o)) := Lib.hid fun o => (Below.refl _ _).alloc (Nat.le_refl _) o
  clear hq hsl
  cases q
  · have hf := Lib.hid (clashD_no (d := d) (by rw [HQ.out]; simp))
    go_enter Tryd.func5, Tryd.ntmps5
    go_wp2_with fail
    refine (CR.out _ (HA.out _)).mono ?_
    rintro e w1 ⟨rfl, hb1⟩
    have HB1 := Lib.hid ((HA.out _).trans (hb1.mono (HA.out _).size))
    clear hb1
    go_wp2_with fail
    go_ret
    exact ⟨ret_s hf.out.symm, HB1.out⟩
  · have CL2 := Lib.hid (CL.out HQ.out)
    have HLC := Lib.hid (loop_cases HQ.out)
    generalize loopN d.frags d.frags = ln at *
    go_enter Tryd.func5, Tryd.ntmps5
    go_wp2_with fail
    refine (CR.out _ (HA.out _)).mono ?_
    rintro e w1 ⟨rfl, hb1⟩
    have HB1 := Lib.hid ((HA.out _).trans (hb1.mono (HA.out _).size))
    have k0 := hb1.cell (p := ⟨w.heap.size, 0, none⟩) (by simp)
    have k1 := hb1.cell (p := ⟨w.heap.size, 1, none⟩) (by simp)
    simp at k0 k1
    have hz1 : w.heap.size < w1.heap.size := by have := hb1.size; simp at this; omega
    clear hb1
    go_wp2_with fail
    refine (CL2.out _ HB1.out).mono ?_
    rintro e w2 ⟨rfl, hb2⟩
    have HB2 := Lib.hid (HB1.out.trans (hb2.mono HB1.out.size))
    have q0 := Rw.kcell hb2 hz1 k0
    have q1 := Rw.kcell hb2 hz1 k1
    clear hb2 k0 k1
    rcases HLC.out with ⟨hno, rfl⟩ | ⟨hno, hne⟩
    · obtain ⟨m, hdeep, hres⟩ := clashD_yes ⟨HQ.out, hno⟩
      obtain ⟨hp1, hp2, hp3⟩ := docB_parts HQ.out
      have CC := Lib.hid (specClashM hno m d.sels hdeep (full_few hno hp2 hp3 hp1) w2 B _ a ca (HDC.out.below hB HB2.out) (HSL.out.below hB HB2.out) (Nat.le_trans hB HB2.out.size))
      rw [← hres] at CC
      clear hno hdeep hres hp1 hp2 hp3
      obtain ⟨cd, hcd⟩ : ∃ cd, clashD d = cd := ⟨_, rfl⟩
      have HCD := Lib.hid hcd
      rw [hcd] at CC
      clear hcd
      go_wp2_with fail
      refine CC.out.mono ?_
      rintro e w3 ⟨rfl, hb3⟩
      have HB3 := Lib.hid (HB2.out.trans (hb3.mono HB2.out.size))
      clear hb3
      go_wp2_with fail
      go_ret
      exact ⟨ret_s HCD.out.symm, HB3.out⟩
    · have hf := Lib.hid (clashD_no (d := d) (fun h => hno h.2))
      have t2 := isEmpty_no hne
      clear hne hno
      go_wp2_with fail
      go_ret
      exact ⟨ret_s hf.out.symm, HB2.out⟩
end Go.Proofs.YtnkknfnndoegpaaDoor.Selss
