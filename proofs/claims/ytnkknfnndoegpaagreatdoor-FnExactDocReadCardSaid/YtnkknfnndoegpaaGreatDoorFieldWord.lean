/-
  Contract: impl.fieldWord answers how a field is written; of what was there nothing is changed. Conditions: texts of at most 2^20 bytes; the library's table of powers of ten reads as the program lays it.
-/
import Derived.Test.YtnkknfnndoegpaaGreatDoorRows
import Derived.Test.YtnkknfnndoegpaaGreatDoorTextS
import Derived.Test.YtnkknfnndoegpaaGreatDoorFmt
namespace Go.Proofs.YtnkknfnndoegpaaGreatDoor.Selss
open Go.RowKit Words Decs
set_option linter.unusedVariables false
set_option maxRecDepth 100000

set_option maxHeartbeats 2000000 in
theorem implFieldWord (w : World) (k : Int) (key nm : ByteArray) (f : Int) (a : Option Addr) (n cap : Nat) (hk : key.size ≤ 1048576) (hn : nm.size ≤ 1048576) (hf : OkI f) (B : Nat) (hp : Pow B w) (hB : B ≤ w.heap.size) :
    Calls Tryz.prog 90 #[.agg #[.int .i64 k, .string key, .string nm, .int .i64 f, .slice a n cap]] w fun e w' => e = .returned (.string (fieldT key nm f)) ∧ Below w.heap.size w w' := by
  have HA : Hid (∀ o, Below w.heap.size w (w.alloc o)) := Lib.hid fun o => (Below.refl _ _).alloc (Nat.le_refl _) o
  unfold OkI at hf
  have ⟨f0, f1⟩ := hf
  have CF : Hid (∀ w' : World, Below w.heap.size w w' → Calls Tryz.prog 96 #[.int .i64 f, .int .i64 10] w' fun e w'' => e = .returned (.string (decB f)) ∧ Below w'.heap.size w' w'') := Lib.hid fun w' h => fmtInt f f0 f1 B w' (hp.over hB h)
  have hds : (decB f).size ≤ 20 := by
    have h20 : ∀ m : Nat, m ≤ 9223372036854775808 → (decL m).length ≤ 19 := fun m hm => decL_len 18 m (by have : (10 : Nat) ^ (18 + 1) = 10000000000000000000 := by decide
                                                                                                          omega)
    have := h20 f.natAbs (by omega)
    unfold decB
    simp only [ByteArray.size, List.size_toArray, List.length_append]
    split <;> simp <;> omega
  have e5 : Hid ((f = -1 ∧ (f == -1) = true) ∨ (f ≠ -1 ∧ (f == -1) = false)) := Lib.hid (by
    by_cases h : f = -1
    · exact .inl ⟨h, by rw [h]; rfl⟩
    · exact .inr ⟨h, beq_eq_false_iff_ne.2 h⟩)
  have e4 : Hid ((key = nm ∧ key.toList = nm.toList ∧ (key.toList == nm.toList) = true) ∨ (key ≠ nm ∧ key.toList ≠ nm.toList ∧ (key.toList == nm.toList) = false)) := Lib.hid (by
    by_cases h : key = nm
    · exact .inl ⟨h, by rw [h], by rw [h]; simp⟩
    · exact .inr ⟨h, toList_ne h, toList_beq h⟩)
  have hT : Hid (fieldT key nm f = ((if key = nm then ByteArray.empty else key ++ sB [58]) ++ nm) ++ (if f = -1 then ByteArray.empty else (sB [40] ++ decB f) ++ sB [41])) := Lib.hid rfl
  generalize decB f = df at *
  clear hp hB hf
  rcases e5.out with ⟨g1, g2⟩ | ⟨g1, g2⟩
  · rcases e4.out with ⟨h1, h2, h3⟩ | ⟨h1, h2, h3⟩
    · have hf := Lib.hid (show nm = fieldT key nm f by rw [hT.out, if_pos h1, if_pos g1]; simp)
      clear hT h1
      go_enter Tryz.func90, Tryz.ntmps90
      go_wp2_with fail
      go_ret
      exact ⟨ret_string hf.out, HA.out _⟩
    · have hf := Lib.hid (show (key ++ ⟨#[58]⟩) ++ nm = fieldT key nm f by rw [hT.out, if_neg h1, if_pos g1]; simp [sB])
      clear hT h1
      go_enter Tryz.func90, Tryz.ntmps90
      go_wp2_with fail
      go_ret
      exact ⟨ret_string hf.out, HA.out _⟩
  · rcases e4.out with ⟨h1, h2, h3⟩ | ⟨h1, h2, h3⟩
    · have hf := Lib.hid (show nm ++ ((⟨#[40]⟩ ++ df) ++ ⟨#[41]⟩) = fieldT key nm f by rw [hT.out, if_pos h1, if_neg g1]; simp [sB])
      clear hT h1
      go_enter Tryz.func90, Tryz.ntmps90
      go_wp2_with fail
      refine (CF.out _ (HA.out _)).mono ?_
      rintro e w1 ⟨rfl, hb1⟩
      have HB1 := Lib.hid ((HA.out _).trans (hb1.mono (HA.out _).size))
      clear hb1
      go_wp2_with fail
      go_ret
      exact ⟨ret_string hf.out, HB1.out⟩
    · have hf := Lib.hid (show ((key ++ ⟨#[58]⟩) ++ nm) ++ ((⟨#[40]⟩ ++ df) ++ ⟨#[41]⟩) = fieldT key nm f by rw [hT.out, if_neg h1, if_neg g1]; simp [sB])
      clear hT h1
      go_enter Tryz.func90, Tryz.ntmps90
      go_wp2_with fail
      refine (CF.out _ (HA.out _)).mono ?_
      rintro e w1 ⟨rfl, hb1⟩
      have HB1 := Lib.hid ((HA.out _).trans (hb1.mono (HA.out _).size))
      clear hb1
      go_wp2_with fail
      go_ret
      exact ⟨ret_string hf.out, HB1.out⟩

end Go.Proofs.YtnkknfnndoegpaaGreatDoor.Selss
