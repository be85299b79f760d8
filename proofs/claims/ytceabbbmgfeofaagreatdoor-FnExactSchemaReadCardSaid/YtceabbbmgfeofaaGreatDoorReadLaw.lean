/-
  The walk of laws.FnExactSchemaRead: it answers true; of what was there nothing is changed. Conditions: the library's variables hold what the program lays.
-/
import Derived.Test.YtceabbbmgfeofaaGreatDoorRows
import Derived.Test.YtceabbbmgfeofaaGreatDoorReadW
import Derived.Test.YtceabbbmgfeofaaGreatDoorMarkP
namespace Go.Proofs.YtceabbbmgfeofaaGreatDoor.Rw
open Go.RowKit Words Decs Splits
set_option linter.unusedVariables false
set_option maxRecDepth 100000

theorem typesNum_one {s : List TypeP} (h : schemaB s = true) : typesNum s ≤ 700 := by
  have hl := (schemaB_parts h).1.2
  have hx : ∀ x ∈ s, typeNum x ≤ 56 := fun x hx => by
    obtain ⟨i, hi⟩ := List.mem_iff_getElem?.1 hx
    have hp := ((schemaB_parts h).2.2 i x hi).1.2
    have h1 := part_few hp
    have h2 := part_fewM hp
    unfold typeNum; omega
  have : ∀ l : List TypeP, (∀ x ∈ l, typeNum x ≤ 56) → typesNum l ≤ 56 * l.length := by
    intro l
    induction l with
    | nil => intro _; simp [typesNum, sumOf]
    | cons y l ih =>
      intro hl
      have h1 := ih fun z hz => hl z (by simp [hz])
      have h2 := hl y (by simp)
      unfold typesNum at *
      simp only [sumOf, List.length_cons]; omega
  have := this s hx
  omega
theorem outS_facts (t : ByteArray) : 1 + typesNum (outS t).1 ≤ 900000 ∧ OkI (outS t).2 ∧ (outS t).1.length ≤ 12 := by
  unfold outS
  split
  · exact ⟨by simp [typesNum, sumOf], by unfold OkI; simp, by simp⟩
  · split
    · rename_i h
      have hb : schemaB (schemaP (bL t)) = true := by
        cases hs : schemaB (schemaP (bL t)) with
        | true => rfl
        | false => have := schT_no hs; rw [h.1] at this; exact absurd this h.2
      have := typesNum_one hb
      exact ⟨by show 1 + typesNum (schemaP (bL t)) ≤ 900000; omega, by unfold OkI; simp, (schemaB_parts hb).1.2⟩
    · exact ⟨by simp [typesNum, sumOf], by unfold OkI; simp, by simp⟩

set_option maxHeartbeats 8000000 in
theorem schemaReadLaw (w : World) (a0 : ByteArray) (w0 : a0.size ≤ maxLen) (h0 : VarsR w.heap.size w) :
    Calls Tryz.prog 4 #[.string a0] w fun e w' => e = .returned (.bool true) ∧ Below w.heap.size w w' := by
  have HG := Lib.hid h0
  clear h0
  unfold maxLen at w0
  by_cases hbig : 1048576 < a0.size
  · have hbi : (1048576 : Int) < (a0.size : Int) := by omega
    go_enter Tryz.func4, Tryz.ntmps4
    go_wp2_with fail
    go_ret
    exact ⟨rfl, Below.refl _ _⟩
  have hs : OkS a0 := by unfold OkS; omega
  have hsi : (a0.size : Int) ≤ 1048576 := by omega
  have hsn : ¬ (1048576 : Int) < (a0.size : Int) := by omega
  obtain ⟨hnum, hco, hl12⟩ := outS_facts a0
  have CM : Hid (∀ w, Calls Tryz.prog 21 #[.string a0] w fun e w' => (∃ a ca, e = .returned (.agg #[.slice a (outS a0).1.length ca, .int .i64 (outS a0).2]) ∧ (outS a0).1.length ≤ ca ∧ TypesX w' w.heap.size w'.heap.size a (outS a0).1.length (outS a0).1) ∧ Below w.heap.size w w') := Lib.hid fun w => specSchemaRead a0 hs w
  have CI : Hid (∀ w', Below w.heap.size w w' → Calls Tryz.prog 22 #[.string a0] w' fun e w'' => (∃ a ca, e = .returned (.agg #[.slice a (outS a0).1.length ca, .int .i64 (outS a0).2]) ∧ (outS a0).1.length ≤ ca ∧ TypesX w'' w'.heap.size w''.heap.size a (outS a0).1.length (outS a0).1) ∧ Below w'.heap.size w' w'') := Lib.hid fun w' h => implSchemaRead a0 hs w' w.heap.size (HG.out.on h) h.size
  generalize (outS a0).1 = s at *
  generalize (outS a0).2 = c at *
  have HNUM := Lib.hid hnum
  clear hbig hs hnum
  go_enter Tryz.func4, Tryz.ntmps4
  go_wp2_with fail
  refine (CM.out w).mono ?_
  rintro e w1 ⟨⟨xa1, xc1, rfl, hc1, hx1⟩, hb1⟩
  have HX1 := Lib.hid (hx1.below typeLiesX (Nat.le_refl _) ((Below.refl w1.heap.size w1).alloc (Nat.le_refl _) (.cells #[.slice xa1 s.length xc1, .int .i64 c] 54)))
  have HB1 := Lib.hid (hb1.alloc hb1.size (.cells #[.slice xa1 s.length xc1, .int .i64 c] 54))
  have HN1 := Lib.hid (heap_alloc_new w1 (.cells #[.slice xa1 s.length xc1, .int .i64 c] 54))
  have hz1 := hb1.size
  have hz1a : (w1.alloc (.cells #[.slice xa1 s.length xc1, .int .i64 c] 54)).heap.size = w1.heap.size + 1 := by simp
  have HC1 := Lib.hid hc1
  clear hb1 hx1 hc1
  go_wp2_with fail
  refine (CI.out _ HB1.out).mono ?_
  rintro e w2 ⟨⟨xa2, xc2, rfl, hc2, hx2⟩, hb2⟩
  have HC2 := Lib.hid hc2
  have HB2 := Lib.hid (HB1.out.trans (hb2.mono HB1.out.size))
  have HN2 := Lib.hid ((hb2.block w1.heap.size (by omega)).trans HN1.out)
  have HX12 := Lib.hid (RowsX.below typeLiesX HX1.out (by omega) hb2)
  have hz2 := hb2.size
  have hA2 : Below w2.heap.size w2 (w2.alloc (.cells #[.slice xa2 s.length xc2, .int .i64 c] 54)) := (Below.refl _ _).alloc (Nat.le_refl _) _
  have HB3 := Lib.hid (HB2.out.trans (hA2.mono HB2.out.size))
  have HN3 := Lib.hid ((hA2.block w1.heap.size (by omega)).trans HN2.out)
  have HM3 := Lib.hid (heap_alloc_new w2 (.cells #[.slice xa2 s.length xc2, .int .i64 c] 54))
  have HX13 := Lib.hid (RowsX.below typeLiesX HX12.out (by omega) hA2)
  have HX23 := Lib.hid (RowsX.below typeLiesX hx2 (Nat.le_refl _) hA2)
  have hz3 : (w2.alloc (.cells #[.slice xa2 s.length xc2, .int .i64 c] 54)).heap.size = w2.heap.size + 1 := by simp
  clear hb2 hx2 hA2 HN1 HB1 HN2 HX12 HB2 hc2 HX1
  rw [hz1a] at *
  have ⟨⟨n0, n1⟩, _⟩ := keep2 HN3.out
  go_wp2_with fail
  clear n0 n1
  generalize w2.alloc (.cells #[.slice xa2 s.length xc2, .int .i64 c] 54) = w3 at *
  refine (eqSchemaOut w3 0 w3.heap.size _ _ _ _ c s (RowsAt.wide typeLies (RowsX.at_ typeLies TypeLieX.lie HX23.out) (Nat.zero_le _) (by omega)) HC2.out (RowsAt.wide typeLies (RowsX.at_ typeLies TypeLieX.lie HX13.out) (Nat.zero_le _) (by omega)) HC1.out (Nat.le_refl _)).mono ?_
  rintro e w4 ⟨rfl, hb4⟩
  have HB4 := Lib.hid (HB3.out.trans (hb4.mono HB3.out.size))
  have hn4 := (hb4.block w1.heap.size (by omega)).trans HN3.out
  have hm4 := (hb4.block w2.heap.size (by omega)).trans HM3.out
  have HX14 := Lib.hid (RowsX.below typeLiesX HX13.out (by omega) hb4)
  have HX24 := Lib.hid (RowsX.below typeLiesX HX23.out (by omega) hb4)
  have hz4 := hb4.size
  have HN4 := Lib.hid hn4
  have HM4 := Lib.hid hm4
  have ⟨⟨m0, m1⟩, _⟩ := keep2 hm4
  clear hb4 hn4 hm4 HB3 HN3 HM3 HX13 HX23
  go_wp2_with fail
  refine (markSchemaOut w4 (w1.heap.size + 1) w2.heap.size _ _ c s 1 HX24.out HC2.out (by omega) (Nat.le_refl _) (by have := HNUM.out; omega)).mono ?_
  rintro e w5 ⟨rfl, hx5, hw5⟩
  obtain ⟨q, hq⟩ : ∃ q : Int, ((1 + typesNum s : Nat) : Int) = q := ⟨_, rfl⟩
  have hq0 : 0 ≤ q := by omega
  rw [hq]
  have HQ := Lib.hid hq
  have HX5 := Lib.hid hx5
  have hz5 := hw5.size
  have HB5 : Hid (Below w.heap.size w w5) := Lib.hid (HB4.out.trans (hw5.below (C := w.heap.size) (by omega) (by omega)))
  have HN5 := Lib.hid ((hw5.block w1.heap.size (by omega) (.inl (Nat.lt_succ_self _))).trans HN4.out)
  have HM5 := Lib.hid ((hw5.block w2.heap.size (by omega) (.inr (Nat.le_refl _))).trans HM4.out)
  have HX15 := Lib.hid (RowsX.block (w' := w5) typeLiesX HX14.out fun q q1 q2 => hw5.block q (by omega) (.inl (by omega)))
  have ⟨⟨r0, r1⟩, _⟩ := keep2 HM5.out
  clear hq hx5 hw5 m0 m1 HB4 HN4 HM4 HX14 HX24
  go_wp2_with fail
  refine (heldSchemaOut w5 (w1.heap.size + 1) w2.heap.size _ _ c s 1 (by have := RowsX.at_ typeLies TypeLieX.lie HX5.out; exact this) HC2.out (by omega) (Nat.le_refl _) (by have := HNUM.out; omega)).mono ?_
  rintro e w6 ⟨rfl, hb6⟩
  rw [HQ.out]
  have hz6 := hb6.size
  have HB6 := Lib.hid (HB5.out.trans (hb6.mono HB5.out.size))
  have HN6 := Lib.hid ((hb6.block w1.heap.size (by omega)).trans HN5.out)
  have HM6 := Lib.hid ((hb6.block w2.heap.size (by omega)).trans HM5.out)
  have HX16 := Lib.hid (RowsX.below typeLiesX HX15.out (by omega) hb6)
  have HX56 := Lib.hid (RowsX.below typeLiesX HX5.out (by omega) hb6)
  clear hb6 r0 r1 HB5 HN5 HM5 HX15 HX5
  go_wp2_with fail
  refine (CI.out w6 HB6.out).mono ?_
  rintro e w7 ⟨⟨xa3, xc3, rfl, hc3, hx7⟩, hb7⟩
  have hz7 := hb7.size
  have HC3 := Lib.hid hc3
  have hA7 : Below w7.heap.size w7 (w7.alloc (.cells #[.slice xa3 s.length xc3, .int .i64 c] 54)) := (Below.refl _ _).alloc (Nat.le_refl _) _
  have HB8 := Lib.hid ((HB6.out.trans (hb7.mono HB6.out.size)).trans (hA7.mono (by omega)))
  have HN8 := Lib.hid ((hA7.block w1.heap.size (by omega)).trans ((hb7.block w1.heap.size (by omega)).trans HN6.out))
  have HM8 := Lib.hid ((hA7.block w2.heap.size (by omega)).trans ((hb7.block w2.heap.size (by omega)).trans HM6.out))
  have HX18 := Lib.hid (RowsX.below typeLiesX (RowsX.below typeLiesX HX16.out (by omega) hb7) (by omega : w1.heap.size ≤ w7.heap.size) hA7)
  have HX58 := Lib.hid (RowsX.below typeLiesX (RowsX.below typeLiesX HX56.out (by omega) hb7) (by omega : w2.heap.size ≤ w7.heap.size) hA7)
  have HX78 := Lib.hid (RowsX.below typeLiesX hx7 (Nat.le_refl _) hA7)
  have hz8 : (w7.alloc (.cells #[.slice xa3 s.length xc3, .int .i64 c] 54)).heap.size = w7.heap.size + 1 := by simp
  have ⟨⟨n0, n1⟩, _⟩ := keep2 HN8.out
  clear hb7 hx7 hA7 HB6 HN6 HM6 HX16 HX56 hc3
  go_wp2_with fail
  clear n0 n1
  generalize w7.alloc (.cells #[.slice xa3 s.length xc3, .int .i64 c] 54) = w8 at *
  refine (eqSchemaOut w8 0 w8.heap.size _ _ _ _ c s (RowsAt.wide typeLies (RowsX.at_ typeLies TypeLieX.lie HX78.out) (Nat.zero_le _) (by omega)) HC3.out (RowsAt.wide typeLies (RowsX.at_ typeLies TypeLieX.lie HX18.out) (Nat.zero_le _) (by omega)) HC1.out (Nat.le_refl _)).mono ?_
  rintro e w9 ⟨rfl, hb9⟩
  have hz9 := hb9.size
  have HB9 := Lib.hid (HB8.out.trans (hb9.mono HB8.out.size))
  have HM9 := Lib.hid ((hb9.block w2.heap.size (by omega)).trans HM8.out)
  have HX59 := Lib.hid (RowsX.below typeLiesX HX58.out (by omega) hb9)
  have ⟨⟨m0, m1⟩, _⟩ := keep2 HM9.out
  clear hb9 HB8 HN8 HM8 HX18 HX58 HX78
  go_wp2_with fail
  refine (heldSchemaOut w9 (w1.heap.size + 1) w2.heap.size _ _ c s 1 (by have := RowsX.at_ typeLies TypeLieX.lie HX59.out; exact this) HC2.out (by omega) (Nat.le_refl _) (by have := HNUM.out; omega)).mono ?_
  rintro e w10 ⟨rfl, hb10⟩
  rw [HQ.out]
  have HB10 := Lib.hid (HB9.out.trans (hb10.mono HB9.out.size))
  clear hb10 m0 m1 HB9 HM9 HX59
  go_wp2_with fail
  go_ret
  exact ⟨rfl, HB10.out⟩
end Go.Proofs.YtceabbbmgfeofaaGreatDoor.Rw
