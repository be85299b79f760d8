/-
  Contracts: spec.l04Get, FieldOf; of what was there nothing is changed. Conditions: in memory.
-/
import Derived.Test.YtcogbmcnljlnaaaRows
import Derived.Test.YtcogbmcnljlnaaaKindI
import Derived.Test.YtcogbmcnljlnaaaGetM
namespace Go.Proofs.Ytcogbmcnljlnaaa.Rw
open Go.RowKit Words Go.Maps
set_option linter.unusedVariables false
set_option maxRecDepth 100000

theorem fieldOfP_no {s : List TypeP} (t nm : ByteArray) (h : schemaB s = false) : fieldOfP s t nm = zeroField := by unfold fieldOfP; rw [h]; rfl
theorem fieldOfP_yes {s : List TypeP} (t nm : ByteArray) (h : schemaB s = true) : fieldOfP s t nm = fieldIn nm (typeIn t s).fields := by
  unfold fieldOfP
  cases hf : freshB t s with
  | true => rw [typeIn_zero hf, h]; rfl
  | false => rw [h]; rfl
theorem fresh_big {s : List TypeP} {t : ByteArray} (h : schemaB s = true) (ht : 8000 < t.size) : freshB t s = true := by
  cases hf : freshB t s with
  | true => rfl
  | false =>
    obtain ⟨h1, _, h2⟩ := right_at h hf
    have := type_small h1
    rw [h2] at this; omega
theorem fieldOfP_bigT {s : List TypeP} {t : ByteArray} (nm : ByteArray) (ht : 8000 < t.size) : fieldOfP s t nm = zeroField := by
  unfold fieldOfP
  cases h : schemaB s with
  | false => rfl
  | true => rw [fresh_big h ht]; rfl
theorem fieldOfP_bigN {s : List TypeP} (t : ByteArray) {nm : ByteArray} (hn : 8000 < nm.size) : fieldOfP s t nm = zeroField := by
  unfold fieldOfP
  split
  · rename_i h
    simp only [Bool.and_eq_true, Bool.not_eq_true'] at h
    rcases fieldIn_cases nm (typeIn t s).fields with h1 | ⟨h1, h2⟩
    · exact h1
    · have := word_small (part_field (right_at h.1 h.2).2.1 h1).1
      rw [h2] at this; omega
  · rfl

set_option maxHeartbeats 2000000 in
theorem specFieldOf (w : World) (A B : Nat) (v : Value) (s : List TypeP) (t nm : ByteArray) (htk : OkS t) (hn : OkS nm) (hv : SchemaAt w A B v s) (hB : B ≤ w.heap.size) :
    Calls Try.prog 15 #[v, .string t, .string nm] w fun e w' => e = .returned (.agg (fieldOfP s t nm).cells.toArray) ∧ Below w.heap.size w w' := by
  have C := Lib.hid (fun o1 o2 => specSchemaRight ((w.alloc o1).alloc o2) A B v s (hv.below (C := w.heap.size) hB (((Below.refl _ _).alloc (Nat.le_refl _) o1).alloc (by simp) o2)) (Nat.le_trans hB (by simp; omega)))
  have C2 : Hid (∀ w', Below w.heap.size w w' → Calls Try.prog 35 #[v, .string t, .string nm] w' fun e w'' => e = .returned (.agg (fieldIn nm (typeIn t s).fields).cells.toArray) ∧ Below w'.heap.size w' w'') := Lib.hid fun w' g => specGet w' A B v s t nm htk hn (hv.below hB g) (Nat.le_trans hB g.size)
  have HA : Hid (∀ o1 o2, Below w.heap.size w ((w.alloc o1).alloc o2)) := Lib.hid fun o1 o2 => ((Below.refl _ _).alloc (Nat.le_refl _) o1).alloc (by simp) o2
  obtain ⟨a, ca, rfl, _, _⟩ := hv
  unfold OkS at hn htk
  have HP : Hid ((schemaB s = false → fieldOfP s t nm = zeroField) ∧ (schemaB s = true → fieldOfP s t nm = fieldIn nm (typeIn t s).fields) ∧ (8000 < t.size → fieldOfP s t nm = zeroField) ∧ (8000 < nm.size → fieldOfP s t nm = zeroField)) := Lib.hid ⟨fieldOfP_no t nm, fieldOfP_yes t nm, fieldOfP_bigT nm, fieldOfP_bigN t⟩
  generalize fieldIn nm (typeIn t s).fields = fg at *
  generalize fieldOfP s t nm = fp at *
  go_enter Try.func15, Try.ntmps15
  go_wp2_with fail
  refine (C.out _ _).mono ?_
  rintro e w1 ⟨rfl, hb1⟩
  have HB1 := Lib.hid ((HA.out _ _).trans (hb1.mono (HA.out _ _).size))
  obtain ⟨hk1, hz1⟩ := kept2z hb1
  have HZ1 := Lib.hid hz1
  have ⟨k0, _⟩ := keep1 hk1
  have ⟨⟨z0, z1, z2, z3, z4, z5⟩, g0, g1, g2, g3, g4, g5⟩ := keep6 hz1
  clear hb1 hk1 hz1
  cases hsb : schemaB s with
  | false =>
    have HFI := Lib.hid (HP.out.1 hsb)
    clear hsb
    go_wp2_with fail
    change bodyPost _ _ _ _ _ (putL w1 (w.heap.size + 1) 0 [.string ⟨#[]⟩, .string ⟨#[]⟩, .bool false, .bool false, .int .i64 0, .int .i64 0])
    obtain ⟨hr, _, _⟩ := putL_cells (g := w.heap.size + 1) (o := 0) (l := [.string ⟨#[]⟩, .string ⟨#[]⟩, .bool false, .bool false, .int .i64 0, .int .i64 0]) HZ1.out (by simp)
    have HBF := putL_below (g := w.heap.size + 1) (B := w.heap.size) (by omega) [.string ⟨#[]⟩, .string ⟨#[]⟩, .bool false, .bool false, .int .i64 0, .int .i64 0] 0 HB1.out
    generalize putL w1 (w.heap.size + 1) 0 [.string ⟨#[]⟩, .string ⟨#[]⟩, .bool false, .bool false, .int .i64 0, .int .i64 0] = wz at *
    have ⟨x0, x1, x2, x3, x4, x5⟩ := row6z hr
    exact bodyPost_ret (v := .agg #[.string ⟨#[]⟩, .string ⟨#[]⟩, .bool false, .bool false, .int .i64 0, .int .i64 0]) (by simp [results, Try.results15, go_sem, x0, x1, x2, x3, x4, x5]) rfl ⟨by rw [HFI.out]; rfl, HBF⟩
  | true =>
    have HFY := Lib.hid (HP.out.2.1 hsb)
    clear hsb
    by_cases q1 : 8000 < t.size
    · have q1i : (8000 : Int) < (t.size : Int) := by omega
      have HFI := Lib.hid (HP.out.2.2.1 q1)
      clear q1
      go_wp2_with fail
      change bodyPost _ _ _ _ _ (putL w1 (w.heap.size + 1) 0 [.string ⟨#[]⟩, .string ⟨#[]⟩, .bool false, .bool false, .int .i64 0, .int .i64 0])
      obtain ⟨hr, _, _⟩ := putL_cells (g := w.heap.size + 1) (o := 0) (l := [.string ⟨#[]⟩, .string ⟨#[]⟩, .bool false, .bool false, .int .i64 0, .int .i64 0]) HZ1.out (by simp)
      have HBF := putL_below (g := w.heap.size + 1) (B := w.heap.size) (by omega) [.string ⟨#[]⟩, .string ⟨#[]⟩, .bool false, .bool false, .int .i64 0, .int .i64 0] 0 HB1.out
      generalize putL w1 (w.heap.size + 1) 0 [.string ⟨#[]⟩, .string ⟨#[]⟩, .bool false, .bool false, .int .i64 0, .int .i64 0] = wz at *
      have ⟨x0, x1, x2, x3, x4, x5⟩ := row6z hr
      exact bodyPost_ret (v := .agg #[.string ⟨#[]⟩, .string ⟨#[]⟩, .bool false, .bool false, .int .i64 0, .int .i64 0]) (by simp [results, Try.results15, go_sem, x0, x1, x2, x3, x4, x5]) rfl ⟨by rw [HFI.out]; rfl, HBF⟩
    have q1i : ¬ (8000 : Int) < (t.size : Int) := by omega
    by_cases q2 : 8000 < nm.size
    · have q2i : (8000 : Int) < (nm.size : Int) := by omega
      have HFI := Lib.hid (HP.out.2.2.2 q2)
      clear q1 q2
      go_wp2_with fail
      change bodyPost _ _ _ _ _ (putL w1 (w.heap.size + 1) 0 [.string ⟨#[]⟩, .string ⟨#[]⟩, .bool false, .bool false, .int .i64 0, .int .i64 0])
      obtain ⟨hr, _, _⟩ := putL_cells (g := w.heap.size + 1) (o := 0) (l := [.string ⟨#[]⟩, .string ⟨#[]⟩, .bool false, .bool false, .int .i64 0, .int .i64 0]) HZ1.out (by simp)
      have HBF := putL_below (g := w.heap.size + 1) (B := w.heap.size) (by omega) [.string ⟨#[]⟩, .string ⟨#[]⟩, .bool false, .bool false, .int .i64 0, .int .i64 0] 0 HB1.out
      generalize putL w1 (w.heap.size + 1) 0 [.string ⟨#[]⟩, .string ⟨#[]⟩, .bool false, .bool false, .int .i64 0, .int .i64 0] = wz at *
      have ⟨x0, x1, x2, x3, x4, x5⟩ := row6z hr
      exact bodyPost_ret (v := .agg #[.string ⟨#[]⟩, .string ⟨#[]⟩, .bool false, .bool false, .int .i64 0, .int .i64 0]) (by simp [results, Try.results15, go_sem, x0, x1, x2, x3, x4, x5]) rfl ⟨by rw [HFI.out]; rfl, HBF⟩
    have q2i : ¬ (8000 : Int) < (nm.size : Int) := by omega
    clear q1 q2
    go_wp2_with fail
    refine (C2.out _ HB1.out).mono ?_
    rintro e w2 ⟨rfl, hb2⟩
    have HB2 := Lib.hid (HB1.out.trans (hb2.mono HB1.out.size))
    have hz2 := (hb2.block (w.heap.size + 1) (lt_of_get HZ1.out)).trans HZ1.out
    have HZ2 := Lib.hid hz2
    clear z0 z1 z2 z3 z4 z5 g0 g1 g2 g3 g4 g5
    have ⟨⟨z0, z1, z2, z3, z4, z5⟩, g0, g1, g2, g3, g4, g5⟩ := keep6 hz2
    clear hb2 hz2
    obtain ⟨fn, ft, fl, fm, fz, fc⟩ := fg
    simp only [FieldP.cells]
    go_wp2_with fail
    change bodyPost _ _ _ _ _ (putL w2 (w.heap.size + 1) 0 [.string fn, .string ft, .bool fl, .bool fm, .int .i64 fz, .int .i64 fc])
    obtain ⟨hr, _, _⟩ := putL_cells (g := w.heap.size + 1) (o := 0) (l := [.string fn, .string ft, .bool fl, .bool fm, .int .i64 fz, .int .i64 fc]) HZ2.out (by simp)
    have HBF := putL_below (g := w.heap.size + 1) (B := w.heap.size) (by omega) [.string fn, .string ft, .bool fl, .bool fm, .int .i64 fz, .int .i64 fc] 0 HB2.out
    generalize putL w2 (w.heap.size + 1) 0 [.string fn, .string ft, .bool fl, .bool fm, .int .i64 fz, .int .i64 fc] = wz at *
    have ⟨x0, x1, x2, x3, x4, x5⟩ := row6z hr
    exact bodyPost_ret (v := .agg #[.string fn, .string ft, .bool fl, .bool fm, .int .i64 fz, .int .i64 fc]) (by simp [results, Try.results15, go_sem, x0, x1, x2, x3, x4, x5]) rfl ⟨by rw [HFY.out]; rfl, HBF⟩
theorem fieldOfP_ok {w : World} {A B : Nat} {v : Value} {s : List TypeP} (h : SchemaAt w A B v s) (t nm : ByteArray) : (fieldOfP s t nm).ok := by
  unfold fieldOfP
  split
  · rename_i hc
    simp only [Bool.and_eq_true, Bool.not_eq_true'] at hc
    rcases fieldIn_cases nm (typeIn t s).fields with e | ⟨h1, _⟩
    · rw [e]; exact zeroField_ok
    · exact (schema_ok h _ (typeIn_in hc.2)).2.1 _ h1
  · exact zeroField_ok
end Go.Proofs.Ytcogbmcnljlnaaa.Rw
