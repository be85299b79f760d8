/-
  Contracts: impl.FieldOf, spec.l04Get, FieldOf; of what was there nothing is changed. Conditions: in memory, texts of at most 2^20 bytes.
-/
import Derived.Test.YtcogbmcnljlnaaaRows
import Derived.Test.YtcogbmcnljlnaaaKindH
namespace Go.Proofs.Ytcogbmcnljlnaaa.Rw
open Go.RowKit Words Go.Maps
set_option linter.unusedVariables false
set_option maxRecDepth 100000

/-- The field of a name of a type of a right schema; the zero one else. -/
noncomputable def fieldOfP (s : List TypeP) (t nm : ByteArray) : FieldP := if (schemaB s && !freshB t s) = true then fieldIn nm (typeIn t s).fields else zeroField
theorem mField1 (v : Value) (W : World) : (method 265 133 v "loop.example/g00836/impl.field").run Try.prog W = .ok (99, v) W := by kernel_rfl
theorem mField2 (v : Value) (W : World) : (method 265 134 v "loop.example/g00836/impl.field").run Try.prog W = .ok (106, v) W := by kernel_rfl
theorem mField3 (v : Value) (W : World) : (method 265 135 v "loop.example/g00836/impl.field").run Try.prog W = .ok (117, v) W := by kernel_rfl
set_option maxHeartbeats 2000000 in
theorem implFieldOf (w : World) (A B : Nat) (v : Value) (s : List TypeP) (t nm : ByteArray) (htk : OkS t) (hn : OkS nm) (hv : SchemaAt w A B v s) (hB : B ≤ w.heap.size) (hw : schWt s ≤ 1048576) :
    Calls Try.prog 10 #[v, .string t, .string nm] w fun e w' => e = .returned (.agg (fieldOfP s t nm).cells.toArray) ∧ Below w.heap.size w w' := by
  have C := Lib.hid (fun o1 o2 => implKindNamed ((w.alloc o1).alloc o2) A B v s t htk (hv.below (C := w.heap.size) hB (((Below.refl _ _).alloc (Nat.le_refl _) o1).alloc (by simp) o2)) (Nat.le_trans hB (by simp; omega)))
  have HA : Hid (∀ o1 o2, Below w.heap.size w ((w.alloc o1).alloc o2)) := Lib.hid fun o1 o2 => ((Below.refl _ _).alloc (Nat.le_refl _) o1).alloc (by simp) o2
  have HN := Lib.hid hn
  obtain ⟨a, ca, rfl, _, _⟩ := hv
  clear hn htk
  go_enter Try.func10, Try.ntmps10
  go_wp2_with fail
  refine (C.out _ _).mono ?_
  rintro e w1 ⟨ho, hb1⟩
  have HB1 := Lib.hid ((HA.out _ _).trans (hb1.mono (HA.out _ _).size))
  have HZ1 := Lib.hid (kept2z hb1).2
  have ⟨⟨z0, z1, z2, z3, z4, z5⟩, g0, g1, g2, g3, g4, g5⟩ := keep6 HZ1.out
  clear hb1
  rcases ho with ⟨hk, lv, rfl, hkv⟩ | ⟨hk, rfl⟩
  · have hfd : fieldOfP s t nm = fieldIn nm (typeIn t s).fields := by unfold fieldOfP; rw [if_pos hk]
    have hsB : schemaB s = true := by simp only [Bool.and_eq_true] at hk; exact hk.1
    have hfr : freshB t s = false := by simp only [Bool.and_eq_true] at hk; simpa using hk.2
    obtain ⟨_, hpt, _⟩ := right_at hsB hfr
    obtain ⟨_, _, _, htf, _⟩ := tiny_at hw (typeIn_in hfr)
    generalize typeIn t s = y at *
    obtain ⟨hk3, ka, kca, kc, kcc, rfl, hkt⟩ := hkv
    obtain ⟨fp, hfp⟩ : ∃ p, fieldOfP s t nm = p := ⟨_, rfl⟩
    have CR : Hid ((y.kind = 1 → Calls Try.prog 99 #[.agg (y.cells ka kca kc kcc).toArray, .string nm] w1 fun e w' => e = .returned (.agg fp.cells.toArray) ∧ Below w1.heap.size w1 w') ∧
        (y.kind = 2 → Calls Try.prog 106 #[.agg (y.cells ka kca kc kcc).toArray, .string nm] w1 fun e w' => e = .returned (.agg fp.cells.toArray) ∧ Below w1.heap.size w1 w') ∧
        (y.kind = 3 → Calls Try.prog 117 #[.agg (y.cells ka kca kc kcc).toArray, .string nm] w1 fun e w' => e = .returned (.agg fp.cells.toArray) ∧ Below w1.heap.size w1 w')) := Lib.hid (by
      refine ⟨fun h => ?_, fun h => ?_, fun h => ?_⟩
      · rw [← hfp, hfd, part_fields hpt (by omega)]; exact fieldM1 w1 .nilIface y ka kca kc kcc nm
      · rw [← hfp, hfd]; exact fieldM2 w1 A B y ka kca kc kcc nm HN.out hkt (Nat.le_trans hB HB1.out.size) htf
      · rw [← hfp, hfd, part_fields hpt (by omega)]; exact fieldM3 w1 .nilIface y ka kca kc kcc nm)
    have HFP := Lib.hid hfp
    generalize hcells : Value.agg (y.cells ka kca kc kcc).toArray = yv at *
    clear hcells hfp hfd hk hkt hpt htf hfr hsB
    have m1 := mField1
    have m2 := mField2
    have m3 := mField3
    obtain ⟨fn, ft, fl, fm, fz, fc⟩ := fp
    simp only [FieldP.cells] at CR ⊢
    rcases hk3 with hk3 | hk3 | hk3
    · have e : kindT y.kind = 133 := by rw [hk3]; rfl
      rw [e]
      have C := Lib.hid (CR.out.1 hk3)
      clear hk3 e
      go_wp2_with fail
      refine C.out.mono ?_
      rintro e w2 ⟨rfl, hb2⟩
      have HB2 := Lib.hid (HB1.out.trans (hb2.mono HB1.out.size))
      have hz2 := (hb2.block (w.heap.size + 1) (lt_of_get HZ1.out)).trans HZ1.out
      have HZ2 := Lib.hid hz2
      clear z0 z1 z2 z3 z4 z5 g0 g1 g2 g3 g4 g5
      have ⟨⟨z0, z1, z2, z3, z4, z5⟩, g0, g1, g2, g3, g4, g5⟩ := keep6 hz2
      clear hb2 hz2
      go_wp2_with fail
      change bodyPost _ _ _ _ _ (putL w2 (w.heap.size + 1) 0 [.string fn, .string ft, .bool fl, .bool fm, .int .i64 fz, .int .i64 fc])
      obtain ⟨hr, _, _⟩ := putL_cells (g := w.heap.size + 1) (o := 0) (l := [.string fn, .string ft, .bool fl, .bool fm, .int .i64 fz, .int .i64 fc]) HZ2.out (by simp)
      have HBF := putL_below (g := w.heap.size + 1) (B := w.heap.size) (by omega) [.string fn, .string ft, .bool fl, .bool fm, .int .i64 fz, .int .i64 fc] 0 HB2.out
      generalize putL w2 (w.heap.size + 1) 0 [.string fn, .string ft, .bool fl, .bool fm, .int .i64 fz, .int .i64 fc] = wz at *
      have ⟨x0, x1, x2, x3, x4, x5⟩ := row6z hr
      exact bodyPost_ret (v := .agg #[.string fn, .string ft, .bool fl, .bool fm, .int .i64 fz, .int .i64 fc]) (by simp [results, Try.results10, go_sem, x0, x1, x2, x3, x4, x5]) rfl ⟨by rw [HFP.out]; rfl, HBF⟩
    · have e : kindT y.kind = 134 := by rw [hk3]; rfl
      rw [e]
      have C := Lib.hid (CR.out.2.1 hk3)
      clear hk3 e
      go_wp2_with fail
      refine C.out.mono ?_
      rintro e w2 ⟨rfl, hb2⟩
      have HB2 := Lib.hid (HB1.out.trans (hb2.mono HB1.out.size))
      have hz2 := (hb2.block (w.heap.size + 1) (lt_of_get HZ1.out)).trans HZ1.out
      have HZ2 := Lib.hid hz2
      clear z0 z1 z2 z3 z4 z5 g0 g1 g2 g3 g4 g5
      have ⟨⟨z0, z1, z2, z3, z4, z5⟩, g0, g1, g2, g3, g4, g5⟩ := keep6 hz2
      clear hb2 hz2
      go_wp2_with fail
      change bodyPost _ _ _ _ _ (putL w2 (w.heap.size + 1) 0 [.string fn, .string ft, .bool fl, .bool fm, .int .i64 fz, .int .i64 fc])
      obtain ⟨hr, _, _⟩ := putL_cells (g := w.heap.size + 1) (o := 0) (l := [.string fn, .string ft, .bool fl, .bool fm, .int .i64 fz, .int .i64 fc]) HZ2.out (by simp)
      have HBF := putL_below (g := w.heap.size + 1) (B := w.heap.size) (by omega) [.string fn, .string ft, .bool fl, .bool fm, .int .i64 fz, .int .i64 fc] 0 HB2.out
      generalize putL w2 (w.heap.size + 1) 0 [.string fn, .string ft, .bool fl, .bool fm, .int .i64 fz, .int .i64 fc] = wz at *
      have ⟨x0, x1, x2, x3, x4, x5⟩ := row6z hr
      exact bodyPost_ret (v := .agg #[.string fn, .string ft, .bool fl, .bool fm, .int .i64 fz, .int .i64 fc]) (by simp [results, Try.results10, go_sem, x0, x1, x2, x3, x4, x5]) rfl ⟨by rw [HFP.out]; rfl, HBF⟩
    · have e : kindT y.kind = 135 := by rw [hk3]; rfl
      rw [e]
      have C := Lib.hid (CR.out.2.2 hk3)
      clear hk3 e
      go_wp2_with fail
      refine C.out.mono ?_
      rintro e w2 ⟨rfl, hb2⟩
      have HB2 := Lib.hid (HB1.out.trans (hb2.mono HB1.out.size))
      have hz2 := (hb2.block (w.heap.size + 1) (lt_of_get HZ1.out)).trans HZ1.out
      have HZ2 := Lib.hid hz2
      clear z0 z1 z2 z3 z4 z5 g0 g1 g2 g3 g4 g5
      have ⟨⟨z0, z1, z2, z3, z4, z5⟩, g0, g1, g2, g3, g4, g5⟩ := keep6 hz2
      clear hb2 hz2
      go_wp2_with fail
      change bodyPost _ _ _ _ _ (putL w2 (w.heap.size + 1) 0 [.string fn, .string ft, .bool fl, .bool fm, .int .i64 fz, .int .i64 fc])
      obtain ⟨hr, _, _⟩ := putL_cells (g := w.heap.size + 1) (o := 0) (l := [.string fn, .string ft, .bool fl, .bool fm, .int .i64 fz, .int .i64 fc]) HZ2.out (by simp)
      have HBF := putL_below (g := w.heap.size + 1) (B := w.heap.size) (by omega) [.string fn, .string ft, .bool fl, .bool fm, .int .i64 fz, .int .i64 fc] 0 HB2.out
      generalize putL w2 (w.heap.size + 1) 0 [.string fn, .string ft, .bool fl, .bool fm, .int .i64 fz, .int .i64 fc] = wz at *
      have ⟨x0, x1, x2, x3, x4, x5⟩ := row6z hr
      exact bodyPost_ret (v := .agg #[.string fn, .string ft, .bool fl, .bool fm, .int .i64 fz, .int .i64 fc]) (by simp [results, Try.results10, go_sem, x0, x1, x2, x3, x4, x5]) rfl ⟨by rw [HFP.out]; rfl, HBF⟩
  · have hfd : Hid (fieldOfP s t nm = zeroField) := Lib.hid (by unfold fieldOfP; rw [if_neg (by rw [hk]; simp)])
    clear hk
    go_wp2_with fail
    change bodyPost _ _ _ _ _ (putL w1 (w.heap.size + 1) 0 [.string ⟨#[]⟩, .string ⟨#[]⟩, .bool false, .bool false, .int .i64 0, .int .i64 0])
    obtain ⟨hr, _, _⟩ := putL_cells (g := w.heap.size + 1) (o := 0) (l := [.string ⟨#[]⟩, .string ⟨#[]⟩, .bool false, .bool false, .int .i64 0, .int .i64 0]) HZ1.out (by simp)
    have HBF := putL_below (g := w.heap.size + 1) (B := w.heap.size) (by omega) [.string ⟨#[]⟩, .string ⟨#[]⟩, .bool false, .bool false, .int .i64 0, .int .i64 0] 0 HB1.out
    generalize putL w1 (w.heap.size + 1) 0 [.string ⟨#[]⟩, .string ⟨#[]⟩, .bool false, .bool false, .int .i64 0, .int .i64 0] = wz at *
    have ⟨x0, x1, x2, x3, x4, x5⟩ := row6z hr
    exact bodyPost_ret (v := .agg #[.string ⟨#[]⟩, .string ⟨#[]⟩, .bool false, .bool false, .int .i64 0, .int .i64 0]) (by simp [results, Try.results10, go_sem, x0, x1, x2, x3, x4, x5]) rfl ⟨by rw [hfd.out]; rfl, HBF⟩
end Go.Proofs.Ytcogbmcnljlnaaa.Rw
