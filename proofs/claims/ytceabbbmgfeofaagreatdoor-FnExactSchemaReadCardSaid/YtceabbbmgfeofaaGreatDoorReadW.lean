/-
  Contract: impl.SchemaRead answers what the model does; of what was there nothing is changed. Conditions: the library's variables hold what the program lays.
-/
import Derived.Test.YtceabbbmgfeofaaGreatDoorRows
import Derived.Test.YtceabbbmgfeofaaGreatDoorKindF
import Derived.Test.YtceabbbmgfeofaaGreatDoorReadU
import Derived.Test.YtceabbbmgfeofaaGreatDoorTextW
import Derived.Test.YtceabbbmgfeofaaGreatDoorReadM
namespace Go.Proofs.YtceabbbmgfeofaaGreatDoor.Rw
open Go.RowKit Go.Maps Words
set_option linter.unusedVariables false
set_option maxRecDepth 100000
set_option maxHeartbeats 4000000 in
/-- The program's and the model's word on a schema. -/
theorem implSchemaRight' (w : World) (A B : Nat) (v : Value) (s : List TypeP) (hv : SchemaAt w A B v s) (hB : B ≤ w.heap.size) :
    Calls Tryz.prog 63 #[v] w fun e w' => e = .returned (.bool (kindsB s)) ∧ Below w.heap.size w w' := by
  have C := Lib.hid (fun o => implKindsOf (w.alloc o) A B v s (hv.below (C := w.heap.size) hB ((Below.refl _ _).alloc (Nat.le_refl _) o)) (Nat.le_trans hB (by simp)))
  have HA : Hid (∀ o1, Below w.heap.size w (w.alloc o1)) := Lib.hid fun o1 => (Below.refl _ _).alloc (Nat.le_refl _) o1
  obtain ⟨a, ca, rfl, _, _⟩ := hv
  go_enter Tryz.func63, Tryz.ntmps63
  go_wp2_with fail
  refine (C.out _).mono ?_
  rintro e w1 ⟨ho, hb1⟩
  have HB1 := Lib.hid ((HA.out _).trans (hb1.mono (HA.out _).size))
  rcases ho with ⟨hk, b, n, D, rfl, _, _⟩ | ⟨hk, rfl⟩
  all_goals
    have HK := Lib.hid hk
    clear hk hb1
    go_wp2_with fail
    go_ret
    exact ⟨ret_bool HK.out.symm, HB1.out⟩
theorem implSchemaRight (w : World) (A B : Nat) (v : Value) (s : List TypeP) (hv : SchemaAt w A B v s) (hB : B ≤ w.heap.size) :
    Calls Tryz.prog 63 #[v] w fun e w' => e = .returned (.bool (schemaB s)) ∧ Below w.heap.size w w' := by
  rw [← kindsB_eq]; exact implSchemaRight' w A B v s hv hB
end Go.Proofs.YtceabbbmgfeofaaGreatDoor.Rw
namespace Go.Proofs.YtceabbbmgfeofaaGreatDoor.Rw
open Go.RowKit Words Decs Splits
set_option linter.unusedVariables false
set_option maxRecDepth 100000
theorem schT_ne {s : List TypeP} (h : schemaB s = true) : (schT s).size ≠ 0 := by
  have hl := (schemaB_parts h).1.1
  have e : schT s = linesT s := by unfold schT; rw [if_pos h]
  rw [e]
  cases s with
  | nil => simp at hl
  | cons x l => rw [linesT, line_cB, ByteArray.size_append, ByteArray.size_append]; have e1 : (⟨#[10]⟩ : ByteArray).size = 1 := rfl; omega
theorem schT_no {s : List TypeP} (h : schemaB s = false) : (schT s).size = 0 := by
  unfold schT; rw [h]; rfl
/-- The model's reading is the program's. -/
theorem outS_yes {t : ByteArray} (ht : ¬ 8000 < t.size) (h : schemaB (schemaQ (bL t)) = true) (h2 : schT (schemaQ (bL t)) = t) : outS t = (schemaQ (bL t), 0) := by
  have e1 := read_schema h
  rw [h2] at e1
  have e2 := schT_ne h
  rw [h2] at e2
  unfold outS
  rw [if_neg ht, e1, if_pos ⟨h2, e2⟩]
theorem outS_no {t : ByteArray} (ht : ¬ 8000 < t.size) (h : ¬ (schemaB (schemaQ (bL t)) = true ∧ schT (schemaQ (bL t)) = t)) : outS t = ([], 3) := by
  unfold outS
  rw [if_neg ht, if_neg]
  rintro ⟨h1, h2⟩
  have hb : schemaB (schemaP (bL t)) = true := by
    cases hs : schemaB (schemaP (bL t)) with
    | true => rfl
    | false => have := schT_no hs; rw [h1] at this; exact absurd this h2
  have e1 := read_schemaQ hb
  rw [h1] at e1
  exact h (by rw [e1]; exact ⟨hb, h1⟩)
theorem outS_big {t : ByteArray} (ht : 8000 < t.size) : outS t = ([], 2) := by unfold outS; rw [if_pos ht]
set_option maxHeartbeats 4000000 in
theorem implSchemaRead (t : ByteArray) (ht : OkS t) (w : World) (B : Nat) (hv : VarsR B w) (hB : B ≤ w.heap.size) :
    Calls Tryz.prog 22 #[.string t] w fun e w' => OutS w w' t e ∧ Below w.heap.size w w' := by
  have HA : Hid (∀ o, Below w.heap.size w (w.alloc o)) := Lib.hid fun o => (Below.refl _ _).alloc (Nat.le_refl _) o
  have HV := Lib.hid hv
  have HZ0 := Lib.hid (heap_alloc_new w (.cells #[.slice none 0 0, .int .i64 0] 54))
  unfold OkS at ht
  clear hv
  by_cases h8 : 8000 < t.size
  · have h8i : (8000 : Int) < (t.size : Int) := by omega
    have hf := Lib.hid (outS_big h8)
    clear h8
    go_enter Tryz.func22, Tryz.ntmps22
    go_wp2_with fail
    exact bodyPost_ret (v := .agg #[.slice none 0 0, .int .i64 2]) (by simp [results, Tryz.results22, go_sem]) rfl ⟨by
      unfold OutS; rw [hf.out]; exact ⟨none, 0, rfl, Nat.le_refl _, RowsX.nil (by simp)⟩, HA.out _⟩
  have h8i : ¬ (8000 : Int) < (t.size : Int) := by omega
  have h8n : t.size ≤ 8000 := by omega
  have CR : Hid (∀ o, Calls Tryz.prog 62 #[.string t] (w.alloc o) fun e w' => (∃ a ca, e = .returned (.agg #[.slice a (schemaQ (bL t)).length ca]) ∧ SchemaX w' (w.alloc o).heap.size w'.heap.size (.agg #[.slice a (schemaQ (bL t)).length ca]) (schemaQ (bL t))) ∧ Below (w.alloc o).heap.size (w.alloc o) w') := Lib.hid fun o => implReadSchema t (w.alloc o) B (HV.out.over hB (HA.out o)) (Nat.le_trans hB (HA.out o).size) h8n
  have HYES := Lib.hid (fun h1 h2 => outS_yes h8 h1 h2)
  have HNO := Lib.hid (fun h => outS_no h8 h)
  generalize schemaQ (bL t) = s at *
  clear h8 h8n
  go_enter Tryz.func22, Tryz.ntmps22
  go_wp2_with fail
  refine (CR.out _).mono ?_
  rintro e w1 ⟨⟨a, ca, rfl, hsx⟩, hb1⟩
  have HB1 := Lib.hid ((HA.out _).trans (hb1.mono (HA.out _).size))
  have HZ1 := Lib.hid ((hb1.block w.heap.size (lt_of_get HZ0.out)).trans HZ0.out)
  have hz1 := lt_of_get HZ1.out
  have HSX := Lib.hid hsx
  have hlen : s.length ≤ ca := by obtain ⟨a', ca', hv, _, hl⟩ := hsx; simp at hv; obtain ⟨rfl, rfl⟩ := hv; exact hl
  have HTX : Hid (TypesX w1 (w.heap.size + 1) w1.heap.size a s.length s) := Lib.hid (by
    obtain ⟨a', ca', hv, hx, _⟩ := hsx
    simp at hv; obtain ⟨rfl, rfl⟩ := hv
    simpa using hx)
  clear hb1 hsx
  have HBA : Hid (Below w.heap.size w (w1.alloc (.cells #[.slice a s.length ca] 25))) := Lib.hid (HB1.out.alloc HB1.out.size _)
  have HA1 : Hid (Below w1.heap.size w1 (w1.alloc (.cells #[.slice a s.length ca] 25))) := Lib.hid ((Below.refl _ _).alloc (Nat.le_refl _) _)
  have HN1 := Lib.hid (heap_alloc_new w1 (.cells #[.slice a s.length ca] 25))
  have CS : Hid (∀ w', Below w1.heap.size w1 w' → Calls Tryz.prog 63 #[.agg #[.slice a s.length ca]] w' fun e w'' => e = .returned (.bool (schemaB s)) ∧ Below w'.heap.size w' w'') := Lib.hid fun w' h => implSchemaRight w' (w.heap.size + 1) w1.heap.size _ s ((by have := HSX.out.at_; simpa using this : SchemaAt w1 (w.heap.size + 1) w1.heap.size _ s).below (Nat.le_refl _) h) h.size
  have CT : Hid (∀ w', Below w1.heap.size w1 w' → Calls Tryz.prog 64 #[.agg #[.slice a s.length ca]] w' fun e w'' => e = .returned (.string (schT s)) ∧ Below w'.heap.size w' w'') := Lib.hid fun w' h => implSchemaText w' w1.heap.size _ s (((by have := HSX.out.at_; simpa using this : SchemaAt w1 (w.heap.size + 1) w1.heap.size _ s).wide (Nat.zero_le _) (Nat.le_refl _)).below (Nat.le_refl _) h) h.size B (HV.out.on (((HB1.out.trans (h.mono HB1.out.size))).mono hB)).pow (Nat.le_trans hB (Nat.le_trans HB1.out.size h.size))
  have HZA := Lib.hid ((HA1.out.block w.heap.size hz1).trans HZ1.out)
  obtain ⟨sb, hsb⟩ : ∃ p, schemaB s = p := ⟨_, rfl⟩
  rw [hsb] at CS HYES HNO
  obtain ⟨st, hst⟩ : ∃ p, schT s = p := ⟨_, rfl⟩
  rw [hst] at CT HYES HNO
  clear hsb hst CR
  go_wp2_with fail
  refine (CS.out _ HA1.out).mono ?_
  rintro e w2 ⟨rfl, hb2⟩
  have HB2 := Lib.hid (HBA.out.trans (hb2.mono HBA.out.size))
  have HW2 := Lib.hid (HA1.out.trans (hb2.mono HA1.out.size))
  have HZ2 := Lib.hid ((hb2.block w.heap.size (lt_of_get HZA.out)).trans HZA.out)
  have HN2 := Lib.hid ((hb2.block w1.heap.size (lt_of_get HN1.out)).trans HN1.out)
  clear hb2
  have ⟨⟨z0, z1⟩, g0, g1⟩ := keep2 HZ2.out
  have ⟨n0, _⟩ := keep1 HN2.out
  cases sb
  · have hf := Lib.hid (HNO.out (by simp))
    go_wp2_with fail
    change bodyPost _ _ _ _ _ (putL w2 w.heap.size 0 [.slice none 0 0, .int .i64 3])
    obtain ⟨hr, _, _⟩ := putL_cells (g := w.heap.size) (o := 0) (l := [.slice none 0 0, .int .i64 3]) HZ2.out (by simp)
    have HBF := putL_below (g := w.heap.size) (B := w.heap.size) (Nat.le_refl _) [.slice none 0 0, .int .i64 3] 0 HB2.out
    generalize putL w2 w.heap.size 0 [.slice none 0 0, .int .i64 3] = wz at *
    have x0 := hr 0 _ rfl
    have x1 := hr 1 _ rfl
    simp only [Nat.zero_add] at x0 x1
    exact bodyPost_ret (v := .agg #[.slice none 0 0, .int .i64 3]) (by simp [results, Tryz.results22, go_sem, x0, x1]) rfl ⟨by
      unfold OutS; rw [hf.out]; exact ⟨none, 0, rfl, Nat.le_refl _, RowsX.nil HBF.size⟩, HBF⟩
  · go_wp2_with fail
    refine (CT.out _ HW2.out).mono ?_
    rintro e w3 ⟨rfl, hb3⟩
    have HB3 := Lib.hid (HB2.out.trans (hb3.mono HB2.out.size))
    have HW3 := Lib.hid (HW2.out.trans (hb3.mono HW2.out.size))
    have HZ3 := Lib.hid ((hb3.block w.heap.size (lt_of_get HZ2.out)).trans HZ2.out)
    have HN3 := Lib.hid ((hb3.block w1.heap.size (lt_of_get HN2.out)).trans HN2.out)
    clear hb3 z0 z1 g0 g1 n0
    have ⟨⟨z0, z1⟩, g0, g1⟩ := keep2 HZ3.out
    have ⟨n0, _⟩ := keep1 HN3.out
    by_cases heq : st = t
    · have hf := Lib.hid (HYES.out (by trivial) heq)
      subst heq
      go_wp2_with fail
      change bodyPost _ _ _ _ _ (putL w3 w.heap.size 0 [.slice a s.length ca, .int .i64 0])
      obtain ⟨hr, _, _⟩ := putL_cells (g := w.heap.size) (o := 0) (l := [.slice a s.length ca, .int .i64 0]) HZ3.out (by simp)
      have HBF := putL_below (g := w.heap.size) (B := w.heap.size) (Nat.le_refl _) [.slice a s.length ca, .int .i64 0] 0 HB3.out
      have hsz := putL_size [.slice a s.length ca, .int .i64 0] w3 w.heap.size 0
      have HTZ := (HTX.out.below typeLiesX (Nat.le_refl _) HW3.out).block (w' := putL w3 w.heap.size 0 [.slice a s.length ca, .int .i64 0]) typeLiesX fun q q1 q2 => putL_other _ _ _ _ q (by omega)
      have hle : w1.heap.size ≤ (putL w3 w.heap.size 0 [.slice a s.length ca, .int .i64 0]).heap.size := by rw [hsz]; exact HW3.out.size
      generalize putL w3 w.heap.size 0 [.slice a s.length ca, .int .i64 0] = wz at *
      have x0 := hr 0 _ rfl
      have x1 := hr 1 _ rfl
      simp only [Nat.zero_add] at x0 x1
      exact bodyPost_ret (v := .agg #[.slice a s.length ca, .int .i64 0]) (by simp [results, Tryz.results22, go_sem, x0, x1]) rfl ⟨by
        unfold OutS; rw [hf.out]; exact ⟨a, ca, rfl, hlen, HTZ.wide (by omega) hle⟩, HBF⟩
    · have hf := Lib.hid (HNO.out (fun h => heq h.2))
      have n1 := toList_ne heq
      have n2 := toList_beq heq
      clear heq
      go_wp2_with fail
      change bodyPost _ _ _ _ _ (putL w3 w.heap.size 0 [.slice none 0 0, .int .i64 3])
      obtain ⟨hr, _, _⟩ := putL_cells (g := w.heap.size) (o := 0) (l := [.slice none 0 0, .int .i64 3]) HZ3.out (by simp)
      have HBF := putL_below (g := w.heap.size) (B := w.heap.size) (Nat.le_refl _) [.slice none 0 0, .int .i64 3] 0 HB3.out
      generalize putL w3 w.heap.size 0 [.slice none 0 0, .int .i64 3] = wz at *
      have x0 := hr 0 _ rfl
      have x1 := hr 1 _ rfl
      simp only [Nat.zero_add] at x0 x1
      exact bodyPost_ret (v := .agg #[.slice none 0 0, .int .i64 3]) (by simp [results, Tryz.results22, go_sem, x0, x1]) rfl ⟨by
        unfold OutS; rw [hf.out]; exact ⟨none, 0, rfl, Nat.le_refl _, RowsX.nil HBF.size⟩, HBF⟩
end Go.Proofs.YtceabbbmgfeofaaGreatDoor.Rw
