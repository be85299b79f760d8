/-
  Contracts: laws.markFieldS, heldFieldS; of what was there nothing else is changed. Conditions: apart in memory, marks from 1 to 9 000 000.
-/
import Derived.Test.YtceabbbmgfeofaaGreatDoorRows
import Derived.Test.YtceabbbmgfeofaaGreatDoorSch
import Derived.Test.YtceabbbmgfeofaaGreatDoorDec
import Derived.Test.YtceabbbmgfeofaaGreatDoorMarkT
namespace Go.Proofs.YtceabbbmgfeofaaGreatDoor.Rw
open Go.RowKit Decs
set_option linter.unusedVariables false
set_option maxRecDepth 100000
/-- A field with marks from k on. -/
def fieldMark (k : Nat) : FieldP := ⟨mkT k, mkT (k + 1), ((k : Int) + 1 + 1) % 3 == 0, ((k : Int) + 1 + 1 + 1) % 3 == 0, (k : Int) + 1 + 1 + 1 + 1, (k : Int) + 1 + 1 + 1 + 1 + 1⟩
def fieldsMark : List FieldP → Nat → List FieldP
  | [], _ => []
  | _ :: l, k => fieldMark k :: fieldsMark l (k + 6)
theorem fieldsMark_len : ∀ (l : List FieldP) (k : Nat), (fieldsMark l k).length = l.length
  | [], _ => rfl
  | x :: l, k => by simp only [fieldsMark, List.length_cons, fieldsMark_len l]
theorem fieldsMark_at : ∀ (l : List FieldP) (k i : Nat) (y : FieldP), (fieldsMark l k)[i]? = some y → y = fieldMark (k + 6 * i)
  | [], k, i, y, h => by simp [fieldsMark] at h
  | x :: l, k, 0, y, h => by cases h; rfl
  | x :: l, k, i + 1, y, h => by
    have := fieldsMark_at l (k + 6) i y (by simpa [fieldsMark] using h)
    rw [this]; congr 1; omega
theorem fieldMark_ok {k : Nat} (h : k + 6 ≤ 9000000) : (fieldMark k).ok := ⟨mkT_ok (by omega), mkT_ok (by omega), by unfold OkI fieldMark; simp only; omega, by unfold OkI fieldMark; simp only; omega⟩
set_option maxHeartbeats 2000000 in
theorem markFieldS (w : World) (A B : Nat) (a : Option Addr) (len cap : Nat) (l : List FieldP) (k : Nat) (hs : FieldsX w A B a len l) (hB : B ≤ w.heap.size) (h1 : 1 ≤ k) (hk : k + 6 * l.length ≤ 9000000) :
    Calls Tryz.prog 161 #[.slice a len cap, .int .i64 k] w fun e w' => e = .returned (.int .i64 ((k + 6 * l.length : Nat) : Int)) ∧ FieldsX w' A B a len (fieldsMark l k) ∧ Within A B w w' := by
  obtain ⟨rfl, hlen, hAB, hx⟩ := hs
  by_cases hz : l.length = 0
  · obtain rfl := List.eq_nil_of_length_eq_zero hz
    clear hx hz
    go_enter Tryz.func161, Tryz.ntmps161
    go_wp2_with fail
    go_loopw [1, 5] (fun v i wr => v = .int .i64 k ∧ i = .int .i64 0 ∧ w = wr) (fun _ _ _ => 0)
    case atStart => exact ⟨rfl, rfl, rfl⟩
    case round =>
      obtain ⟨rfl, rfl, rfl⟩ := hrel
      go_wp2_with fail
      go_ret
      exact ⟨ret_i (by simp), ⟨rfl, by simp, hAB, .inl rfl⟩, Within.refl _ _ _⟩
  rcases hx with rfl | ⟨b, off, rfl, hA, hbB, hl⟩
  · exact absurd rfl hz
  have hfree0 : Free w b := by
    cases l with
    | nil => exact absurd rfl hz
    | cons x l => exact hl.1
  have HC : Hid (∀ j, j < l.length * 6 → ∃ v, w.cell? ⟨b, off + j, none⟩ = some v) := Lib.hid fun j hj => by
    have h := (hl.rows (A' := 0) (B' := B) fieldLies id (Nat.zero_le _) (Nat.le_refl _) (j / 6) (l[j / 6]'(by omega)) (List.getElem?_eq_getElem (by omega))).2
    have h2 := h (j % 6) ((l[j / 6]'(by omega)).cells[j % 6]'(by simp [FieldP.cells]; omega)) (List.getElem?_eq_getElem (by simp [FieldP.cells]; omega))
    rw [show off + j / 6 * 6 + j % 6 = off + j by omega] at h2
    exact ⟨_, h2⟩
  have HF0 := Lib.hid hfree0
  clear hl hz hfree0
  go_enter Tryz.func161, Tryz.ntmps161
  go_wp2_with fail
  go_loopw [1, 5] (fun v i wr => ∃ (i' kk : Nat), i' ≤ l.length ∧ kk ≤ 9000000 ∧ Hid (kk = k + 6 * i') ∧ v = .int .i64 kk ∧ i = .int .i64 i' ∧ Hid (Free wr b) ∧ Hid (∀ j, j < l.length * 6 → ∃ v, wr.cell? ⟨b, off + j, none⟩ = some v) ∧ Hid (∀ j, j < i' → RowN wr b (off + j * 6) (fieldMark (k + 6 * j)).cells) ∧ Within A B w wr) (fun _ i _ => l.length - (intOf i).toNat)
  case atStart => exact ⟨0, k, by omega, by omega, Lib.hid rfl, rfl, rfl, HF0, HC, Lib.hid (fun j hj => by omega), Within.refl _ _ _⟩
  case round =>
    obtain ⟨i, kk, hi, hk9, hkk, rfl, rfl, HF, HC, HM, hw⟩ := hrel
    have HW := Lib.hid hw
    clear hw
    by_cases hlt : i < l.length
    · have hli : (i : Int) < (l.length : Int) := by omega
      have hkk2 : kk + 6 ≤ 9000000 := by have := hkk.out; omega
      have CM : Hid (∀ w, Calls Tryz.prog 160 #[.int .i64 kk] w fun e w' => e = .returned (.string (mkT kk)) ∧ Below w.heap.size w w') := Lib.hid fun w => markText kk (by have := hkk.out; omega) (by omega) w
      have CM2 : Hid (∀ w, Calls Tryz.prog 160 #[.int .i64 ((kk : Int) + 1)] w fun e w' => e = .returned (.string (mkT (kk + 1))) ∧ Below w.heap.size w w') := Lib.hid fun w => markText (kk + 1) (by omega) (by omega) w
      have HBW := Lib.hid (Nat.le_trans hB HW.out.size)
      obtain ⟨v0, hv0⟩ := HC.out (i * 6) (by omega)
      obtain ⟨v1, hv1⟩ := HC.out (i * 6 + 1) (by omega)
      obtain ⟨v2, hv2⟩ := HC.out (i * 6 + 2) (by omega)
      obtain ⟨v3, hv3⟩ := HC.out (i * 6 + 3) (by omega)
      obtain ⟨v4, hv4⟩ := HC.out (i * 6 + 4) (by omega)
      obtain ⟨v5, hv5⟩ := HC.out (i * 6 + 5) (by omega)
      have R0 : Hid (RowN wr b (off + i * 6) [v0, v1, v2, v3, v4, v5]) := Lib.hid (mk6 hv0 hv1 hv2 hv3 hv4 hv5)
      clear hv0 hv1 hv2 hv3 hv4 hv5
      go_wp2_with fail
      refine (CM.out _).mono ?_
      rintro e w2 ⟨rfl, hb2⟩
      have X2 := Lib.hid ((Round.refl 6 b (off + i * 6) 0 0 wr).below HF.out hb2)
      have R2 := Lib.hid (R0.out.block (hb2.block b HF.out.lt))
      have q0 := R2.out 0 _ rfl
      rw [Nat.add_zero] at q0
      have p0 := (X2.out.free HF.out).frozen (off + i * 6)
      have X3 := Lib.hid (X2.out.set (j := off + i * 6) (by omega) (by omega) (.string (mkT kk)))
      have R3 := Lib.hid (R2.out.put (j := 0) (by simp) (.string (mkT kk)))
      simp only [Nat.add_zero, List.set_cons_zero] at R3
      clear hb2
      go_wp2_with fail
      refine (CM2.out _).mono ?_
      rintro e w4 ⟨rfl, hb4⟩
      have X4 := Lib.hid (X3.out.below HF.out hb4)
      have R4 := Lib.hid (R3.out.block (hb4.block b (X3.out.free HF.out).lt))
      clear q0 p0
      obtain ⟨q0, q1, q2, q3, q4, q5⟩ := row6 R4.out
      have p0 := (X4.out.free HF.out).frozen (off + i * 6)
      have p1 := (X4.out.free HF.out).frozen (off + i * 6 + 1)
      have p2 := (X4.out.free HF.out).frozen (off + i * 6 + 2)
      have p3 := (X4.out.free HF.out).frozen (off + i * 6 + 3)
      have p4 := (X4.out.free HF.out).frozen (off + i * 6 + 4)
      have p5 := (X4.out.free HF.out).frozen (off + i * 6 + 5)
      have X5 := X4.out.set (j := off + i * 6 + 1) (by omega) (by omega) (.string (mkT (kk + 1)))
      have R5 := R4.out.put (j := 1) (by simp) (.string (mkT (kk + 1)))
      have X6 := X5.set (j := off + i * 6 + 2) (by omega) (by omega) (.bool (((kk : Int) + 1 + 1) % 3 == 0))
      have R6 := R5.put (j := 2) (by simp) (.bool (((kk : Int) + 1 + 1) % 3 == 0))
      have X7 := X6.set (j := off + i * 6 + 3) (by omega) (by omega) (.bool (((kk : Int) + 1 + 1 + 1) % 3 == 0))
      have R7 := R6.put (j := 3) (by simp) (.bool (((kk : Int) + 1 + 1 + 1) % 3 == 0))
      have X8 := X7.set (j := off + i * 6 + 4) (by omega) (by omega) (.int .i64 ((kk : Int) + 1 + 1 + 1 + 1))
      have R8 := R7.put (j := 4) (by simp) (.int .i64 ((kk : Int) + 1 + 1 + 1 + 1))
      have X9 := Lib.hid (X8.set (j := off + i * 6 + 5) (by omega) (by omega) (.int .i64 ((kk : Int) + 1 + 1 + 1 + 1 + 1)))
      have R9 := Lib.hid (R8.put (j := 5) (by simp) (.int .i64 ((kk : Int) + 1 + 1 + 1 + 1 + 1)))
      clear hb4 X5 X6 X7 X8 R5 R6 R7 R8
      go_wp2_with fail
      change (∃ _, _) ∧ _ < _
      generalize ((((w4.setCell ⟨b, off + i * 6 + 1, none⟩ (.string (mkT (kk + 1)))).setCell ⟨b, off + i * 6 + 2, none⟩ (.bool (((kk : Int) + 1 + 1) % 3 == 0))).setCell ⟨b, off + i * 6 + 3, none⟩ (.bool (((kk : Int) + 1 + 1 + 1) % 3 == 0))).setCell ⟨b, off + i * 6 + 4, none⟩ (.int .i64 ((kk : Int) + 1 + 1 + 1 + 1))).setCell ⟨b, off + i * 6 + 5, none⟩ (.int .i64 ((kk : Int) + 1 + 1 + 1 + 1 + 1)) = wz at *
      have HRN : RowN wz b (off + i * 6) (fieldMark kk).cells := R9.out
      have HFZ := Lib.hid (X9.out.free HF.out)
      have HCZ : Hid (∀ j, j < l.length * 6 → ∃ v, wz.cell? ⟨b, off + j, none⟩ = some v) := Lib.hid fun j hj => by
        by_cases e : off + i * 6 ≤ off + j ∧ off + j < off + i * 6 + 6
        · have h := HRN (j - i * 6) ((fieldMark kk).cells[j - i * 6]'(by simp [FieldP.cells]; omega)) (List.getElem?_eq_getElem _)
          rw [show off + i * 6 + (j - i * 6) = off + j by omega] at h
          exact ⟨_, h⟩
        · rw [X9.out.cells _ (by omega)]; exact HC.out j hj
      have HMZ : Hid (∀ j, j < i + 1 → RowN wz b (off + j * 6) (fieldMark (k + 6 * j)).cells) := Lib.hid fun j hj => by
        by_cases e : j = i
        · subst e; rw [← hkk.out]; exact HRN
        · exact (HM.out j (by omega)).same fun q q1 q2 => X9.out.cells q (by simp [FieldP.cells] at q2; omega)
      have HWZ := Lib.hid (HW.out.trans ((X9.out.weak (lo := A) (hi := A)).toWithin hA hbB (Nat.le_refl _) hAB (Nat.le_refl _)))
      go_roundw
      case rel => exact ⟨i + 1, kk + 6, by omega, hkk2, Lib.hid (by have := hkk.out; omega), by go_num, by go_num, HFZ, HCZ, HMZ, HWZ.out⟩
      case measure => simp [intOf]; omega
    · obtain rfl : i = l.length := by omega
      have hfin := Lib.hid hkk.out
      have hall : Hid (FieldsX wr A B (some ⟨b, off, none⟩) l.length (fieldsMark l k)) := Lib.hid ⟨fieldsMark_len l k, hlen, hAB, .inr ⟨b, off, rfl, hA, hbB, LieRX.flat HF.out hbB hAB fun j y hj => by
        have hjl := (List.getElem?_eq_some_iff.1 hj).1
        rw [fieldsMark_len] at hjl
        rw [fieldsMark_at l k j y hj]
        exact ⟨fieldMark_ok (by omega), HM.out j hjl⟩⟩⟩
      clear hlt
      go_wp2_with fail
      go_ret
      exact ⟨ret_i (by rw [hfin.out]), hall.out, HW.out⟩
end Go.Proofs.YtceabbbmgfeofaaGreatDoor.Rw
