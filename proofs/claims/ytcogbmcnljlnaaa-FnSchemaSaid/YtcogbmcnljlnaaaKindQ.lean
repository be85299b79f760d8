/-
  Contract: impl.TypeOf; of what was there nothing is changed. Conditions: in memory, texts of at most 2^20 bytes.
-/
import Derived.Test.YtcogbmcnljlnaaaRows
import Derived.Test.YtcogbmcnljlnaaaKindP
namespace Go.Proofs.Ytcogbmcnljlnaaa.Rw
open Go.RowKit Words Go.Maps
set_option linter.unusedVariables false
set_option maxRecDepth 100000

/-- The type of a name of a right schema; the zero one else. -/
noncomputable def typeOfP (s : List TypeP) (nm : ByteArray) : TypeP := if (schemaB s && !freshB nm s) = true then typeIn nm s else zeroType
theorem mWhole1 (v : Value) (W : World) : (method 265 133 v "loop.example/g00836/impl.whole").run Try.prog W = .ok (102, v) W := by kernel_rfl
theorem mWhole2 (v : Value) (W : World) : (method 265 134 v "loop.example/g00836/impl.whole").run Try.prog W = .ok (109, v) W := by kernel_rfl
theorem mWhole3 (v : Value) (W : World) : (method 265 135 v "loop.example/g00836/impl.whole").run Try.prog W = .ok (120, v) W := by kernel_rfl
theorem zeroX (w : World) {A B : Nat} (h : A ≤ B) : TypeX w A B (.agg #[.string ⟨#[]⟩, .int .i64 0, .int .i64 0, .slice none 0 0, .slice none 0 0]) zeroType :=
  ⟨none, 0, none, 0, A, rfl, ⟨by unfold OkS; decide, by unfold OkI zeroType; simp, by unfold OkI zeroType; simp⟩, ⟨RowsX.nil (Nat.le_refl _), Nat.le_refl _⟩, RowsX.nil h, Nat.le_refl _⟩

set_option maxHeartbeats 2000000 in
theorem implTypeOf (w : World) (A B : Nat) (v : Value) (s : List TypeP) (nm : ByteArray) (hn : OkS nm) (hv : SchemaAt w A B v s) (hB : B ≤ w.heap.size) (hw : schWt s ≤ 1048576) :
    Calls Try.prog 13 #[v, .string nm] w fun e w' => TypeNew w w' (typeOfP s nm) e ∧ Below w.heap.size w w' := by
  have C := Lib.hid (fun o1 o2 => implKindNamed ((w.alloc o1).alloc o2) A B v s nm hn (hv.below (C := w.heap.size) hB (((Below.refl _ _).alloc (Nat.le_refl _) o1).alloc (by simp) o2)) (Nat.le_trans hB (by simp; omega)))
  have HA : Hid (∀ o1 o2, Below w.heap.size w ((w.alloc o1).alloc o2)) := Lib.hid fun o1 o2 => ((Below.refl _ _).alloc (Nat.le_refl _) o1).alloc (by simp) o2
  have HSO := Lib.hid (schema_ok hv)
  obtain ⟨a, ca, rfl, _, _⟩ := hv
  clear hn
  go_enter Try.func13, Try.ntmps13
  go_wp2_with fail
  refine (C.out _ _).mono ?_
  rintro e w1 ⟨ho, hb1⟩
  have HB1 := Lib.hid ((HA.out _ _).trans (hb1.mono (HA.out _ _).size))
  have HZ1 := Lib.hid (kept2z hb1).2
  have ⟨⟨z0, z1, z2, z3, z4⟩, g0, g1, g2, g3, g4⟩ := keep5 HZ1.out
  clear hb1
  rcases ho with ⟨hk, lv, rfl, hkv⟩ | ⟨hk, rfl⟩
  · have hfd : typeOfP s nm = typeIn nm s := by unfold typeOfP; rw [if_pos hk]
    have hsB : schemaB s = true := by simp only [Bool.and_eq_true] at hk; exact hk.1
    have hfr : freshB nm s = false := by simp only [Bool.and_eq_true] at hk; simpa using hk.2
    have hpt := (right_at hsB hfr).2.1
    obtain ⟨ht1, _, ht2, htf, htm⟩ := tiny_at hw (typeIn_in hfr)
    obtain ⟨hyk, _, _⟩ := HSO.out _ (typeIn_in hfr)
    obtain ⟨hk3, ka, kca, kc, kcc, rfl, hkt⟩ := hkv
    have HFY : Hid (typeOfP s nm = typeIn nm s) := Lib.hid hfd
    generalize typeIn nm s = y at *
    have CR : Hid ((y.kind = 1 → Calls Try.prog 102 #[.agg (y.cells ka kca kc kcc).toArray] w1 fun e w' => TypeNew w1 w' y e ∧ Below w1.heap.size w1 w') ∧
        (y.kind = 2 → Calls Try.prog 109 #[.agg (y.cells ka kca kc kcc).toArray] w1 fun e w' => TypeNew w1 w' y e ∧ Below w1.heap.size w1 w') ∧
        (y.kind = 3 → Calls Try.prog 120 #[.agg (y.cells ka kca kc kcc).toArray] w1 fun e w' => TypeNew w1 w' y e ∧ Below w1.heap.size w1 w')) := Lib.hid (by
      refine ⟨fun h => ?_, fun h => ?_, fun h => ?_⟩
      · exact wholeM1 w1 y ka kca kc kcc hyk ht1 h (part_fields hpt (by omega)) (part_members hpt (by omega))
      · exact wholeM2 w1 A B y ka kca kc kcc hkt (Nat.le_trans hB HB1.out.size) ht1 (by have := part_few hpt; omega) htf h (part_bytes hpt (by omega)) (part_members hpt (by omega))
      · exact wholeM3 w1 A B y ka kca kc kcc hkt (Nat.le_trans hB HB1.out.size) ht1 ht2 htm h (part_bytes hpt (by omega)) (part_fields hpt (by omega)))
    generalize hcells : Value.agg (y.cells ka kca kc kcc).toArray = yv at *
    clear hcells hfd hk hkt hpt htf htm hyk hsB hfr ht1 ht2
    have m1 := mWhole1
    have m2 := mWhole2
    have m3 := mWhole3
    rcases hk3 with hk3 | hk3 | hk3
    · have e : kindT y.kind = 133 := by rw [hk3]; rfl
      rw [e]
      have C := Lib.hid (CR.out.1 hk3)
      clear hk3 e
      go_wp2_with fail
      refine C.out.mono ?_
      rintro e w2 ⟨⟨fa, fca, fc, fcc, rfl, hx2⟩, hb2⟩
      have HB2 := Lib.hid (HB1.out.trans (hb2.mono HB1.out.size))
      have hz2 := (hb2.block (w.heap.size + 1) (lt_of_get HZ1.out)).trans HZ1.out
      have HZ2 := Lib.hid hz2
      have HX2 := Lib.hid hx2
      have hl2 := lt_of_get HZ1.out
      clear z0 z1 z2 z3 z4 g0 g1 g2 g3 g4
      have ⟨⟨z0, z1, z2, z3, z4⟩, g0, g1, g2, g3, g4⟩ := keep5 hz2
      clear hb2 hz2 hx2
      obtain ⟨yn, yk, yb, yf, ym⟩ := y
      simp only [TypeP.cells] at HX2 ⊢
      go_wp2_with fail
      change bodyPost _ _ _ _ _ (putL w2 (w.heap.size + 1) 0 [.string yn, .int .i64 yk, .int .i64 yb, .slice fa yf.length fca, .slice fc ym.length fcc])
      obtain ⟨hr, _, _⟩ := putL_cells (g := w.heap.size + 1) (o := 0) (l := [.string yn, .int .i64 yk, .int .i64 yb, .slice fa yf.length fca, .slice fc ym.length fcc]) HZ2.out (by simp)
      have HBF := putL_below (g := w.heap.size + 1) (B := w.heap.size) (by omega) [.string yn, .int .i64 yk, .int .i64 yb, .slice fa yf.length fca, .slice fc ym.length fcc] 0 HB2.out
      have hsz := putL_size [.string yn, .int .i64 yk, .int .i64 yb, .slice fa yf.length fca, .slice fc ym.length fcc] w2 (w.heap.size + 1) 0
      have HTZ := HX2.out.block (w' := putL w2 (w.heap.size + 1) 0 [.string yn, .int .i64 yk, .int .i64 yb, .slice fa yf.length fca, .slice fc ym.length fcc]) fun q q1 q2 => putL_other _ _ _ _ q (by omega)
      generalize putL w2 (w.heap.size + 1) 0 [.string yn, .int .i64 yk, .int .i64 yb, .slice fa yf.length fca, .slice fc ym.length fcc] = wz at *
      have ⟨x0, x1, x2, x3, x4⟩ := row5z hr
      rw [← hsz] at HTZ
      exact bodyPost_ret (v := .agg #[.string yn, .int .i64 yk, .int .i64 yb, .slice fa yf.length fca, .slice fc ym.length fcc]) (by simp [results, Try.results13, go_sem, x0, x1, x2, x3, x4]) rfl ⟨by rw [HFY.out]; exact ⟨fa, fca, fc, fcc, rfl, HTZ.wide HB1.out.size (Nat.le_refl _)⟩, HBF⟩
    · have e : kindT y.kind = 134 := by rw [hk3]; rfl
      rw [e]
      have C := Lib.hid (CR.out.2.1 hk3)
      clear hk3 e
      go_wp2_with fail
      refine C.out.mono ?_
      rintro e w2 ⟨⟨fa, fca, fc, fcc, rfl, hx2⟩, hb2⟩
      have HB2 := Lib.hid (HB1.out.trans (hb2.mono HB1.out.size))
      have hz2 := (hb2.block (w.heap.size + 1) (lt_of_get HZ1.out)).trans HZ1.out
      have HZ2 := Lib.hid hz2
      have HX2 := Lib.hid hx2
      have hl2 := lt_of_get HZ1.out
      clear z0 z1 z2 z3 z4 g0 g1 g2 g3 g4
      have ⟨⟨z0, z1, z2, z3, z4⟩, g0, g1, g2, g3, g4⟩ := keep5 hz2
      clear hb2 hz2 hx2
      obtain ⟨yn, yk, yb, yf, ym⟩ := y
      simp only [TypeP.cells] at HX2 ⊢
      go_wp2_with fail
      change bodyPost _ _ _ _ _ (putL w2 (w.heap.size + 1) 0 [.string yn, .int .i64 yk, .int .i64 yb, .slice fa yf.length fca, .slice fc ym.length fcc])
      obtain ⟨hr, _, _⟩ := putL_cells (g := w.heap.size + 1) (o := 0) (l := [.string yn, .int .i64 yk, .int .i64 yb, .slice fa yf.length fca, .slice fc ym.length fcc]) HZ2.out (by simp)
      have HBF := putL_below (g := w.heap.size + 1) (B := w.heap.size) (by omega) [.string yn, .int .i64 yk, .int .i64 yb, .slice fa yf.length fca, .slice fc ym.length fcc] 0 HB2.out
      have hsz := putL_size [.string yn, .int .i64 yk, .int .i64 yb, .slice fa yf.length fca, .slice fc ym.length fcc] w2 (w.heap.size + 1) 0
      have HTZ := HX2.out.block (w' := putL w2 (w.heap.size + 1) 0 [.string yn, .int .i64 yk, .int .i64 yb, .slice fa yf.length fca, .slice fc ym.length fcc]) fun q q1 q2 => putL_other _ _ _ _ q (by omega)
      generalize putL w2 (w.heap.size + 1) 0 [.string yn, .int .i64 yk, .int .i64 yb, .slice fa yf.length fca, .slice fc ym.length fcc] = wz at *
      have ⟨x0, x1, x2, x3, x4⟩ := row5z hr
      rw [← hsz] at HTZ
      exact bodyPost_ret (v := .agg #[.string yn, .int .i64 yk, .int .i64 yb, .slice fa yf.length fca, .slice fc ym.length fcc]) (by simp [results, Try.results13, go_sem, x0, x1, x2, x3, x4]) rfl ⟨by rw [HFY.out]; exact ⟨fa, fca, fc, fcc, rfl, HTZ.wide HB1.out.size (Nat.le_refl _)⟩, HBF⟩
    · have e : kindT y.kind = 135 := by rw [hk3]; rfl
      rw [e]
      have C := Lib.hid (CR.out.2.2 hk3)
      clear hk3 e
      go_wp2_with fail
      refine C.out.mono ?_
      rintro e w2 ⟨⟨fa, fca, fc, fcc, rfl, hx2⟩, hb2⟩
      have HB2 := Lib.hid (HB1.out.trans (hb2.mono HB1.out.size))
      have hz2 := (hb2.block (w.heap.size + 1) (lt_of_get HZ1.out)).trans HZ1.out
      have HZ2 := Lib.hid hz2
      have HX2 := Lib.hid hx2
      have hl2 := lt_of_get HZ1.out
      clear z0 z1 z2 z3 z4 g0 g1 g2 g3 g4
      have ⟨⟨z0, z1, z2, z3, z4⟩, g0, g1, g2, g3, g4⟩ := keep5 hz2
      clear hb2 hz2 hx2
      obtain ⟨yn, yk, yb, yf, ym⟩ := y
      simp only [TypeP.cells] at HX2 ⊢
      go_wp2_with fail
      change bodyPost _ _ _ _ _ (putL w2 (w.heap.size + 1) 0 [.string yn, .int .i64 yk, .int .i64 yb, .slice fa yf.length fca, .slice fc ym.length fcc])
      obtain ⟨hr, _, _⟩ := putL_cells (g := w.heap.size + 1) (o := 0) (l := [.string yn, .int .i64 yk, .int .i64 yb, .slice fa yf.length fca, .slice fc ym.length fcc]) HZ2.out (by simp)
      have HBF := putL_below (g := w.heap.size + 1) (B := w.heap.size) (by omega) [.string yn, .int .i64 yk, .int .i64 yb, .slice fa yf.length fca, .slice fc ym.length fcc] 0 HB2.out
      have hsz := putL_size [.string yn, .int .i64 yk, .int .i64 yb, .slice fa yf.length fca, .slice fc ym.length fcc] w2 (w.heap.size + 1) 0
      have HTZ := HX2.out.block (w' := putL w2 (w.heap.size + 1) 0 [.string yn, .int .i64 yk, .int .i64 yb, .slice fa yf.length fca, .slice fc ym.length fcc]) fun q q1 q2 => putL_other _ _ _ _ q (by omega)
      generalize putL w2 (w.heap.size + 1) 0 [.string yn, .int .i64 yk, .int .i64 yb, .slice fa yf.length fca, .slice fc ym.length fcc] = wz at *
      have ⟨x0, x1, x2, x3, x4⟩ := row5z hr
      rw [← hsz] at HTZ
      exact bodyPost_ret (v := .agg #[.string yn, .int .i64 yk, .int .i64 yb, .slice fa yf.length fca, .slice fc ym.length fcc]) (by simp [results, Try.results13, go_sem, x0, x1, x2, x3, x4]) rfl ⟨by rw [HFY.out]; exact ⟨fa, fca, fc, fcc, rfl, HTZ.wide HB1.out.size (Nat.le_refl _)⟩, HBF⟩
  · have hfd : Hid (typeOfP s nm = zeroType) := Lib.hid (by unfold typeOfP; rw [if_neg (by rw [hk]; simp)])
    clear hk
    go_wp2_with fail
    change bodyPost _ _ _ _ _ (putL w1 (w.heap.size + 1) 0 [.string ⟨#[]⟩, .int .i64 0, .int .i64 0, .slice none 0 0, .slice none 0 0])
    obtain ⟨hr, _, _⟩ := putL_cells (g := w.heap.size + 1) (o := 0) (l := [.string ⟨#[]⟩, .int .i64 0, .int .i64 0, .slice none 0 0, .slice none 0 0]) HZ1.out (by simp)
    have HBF := putL_below (g := w.heap.size + 1) (B := w.heap.size) (by omega) [.string ⟨#[]⟩, .int .i64 0, .int .i64 0, .slice none 0 0, .slice none 0 0] 0 HB1.out
    generalize putL w1 (w.heap.size + 1) 0 [.string ⟨#[]⟩, .int .i64 0, .int .i64 0, .slice none 0 0, .slice none 0 0] = wz at *
    have ⟨x0, x1, x2, x3, x4⟩ := row5z hr
    exact bodyPost_ret (v := .agg #[.string ⟨#[]⟩, .int .i64 0, .int .i64 0, .slice none 0 0, .slice none 0 0]) (by simp [results, Try.results13, go_sem, x0, x1, x2, x3, x4]) rfl ⟨by rw [hfd.out]; exact ⟨none, 0, none, 0, rfl, zeroX wz HBF.size⟩, HBF⟩
end Go.Proofs.Ytcogbmcnljlnaaa.Rw
