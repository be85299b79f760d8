/-
  Contracts: spec.l04Copy, TypeOf; of what was there nothing is changed. Conditions: in memory, lists of at most 2^20.
-/
import Derived.Test.YtcogbmcnljlnaaaRows
import Derived.Test.YtcogbmcnljlnaaaKindQ
namespace Go.Proofs.Ytcogbmcnljlnaaa.Rw
open Go.RowKit Words Go.Maps
set_option linter.unusedVariables false
set_option maxRecDepth 100000

set_option maxHeartbeats 2000000 in
theorem specCopy (w : World) (A B : Nat) (x : TypeP) (a : Option Addr) (ca : Nat) (c : Option Addr) (cc : Nat) (hx : TypeAt w A B (.agg (x.cells a ca c cc).toArray) x) (hB : B ≤ w.heap.size) (hfl : x.fields.length ≤ 1048576) (hml : x.members.length ≤ 1048576) :
    Calls Try.prog 33 #[.agg (x.cells a ca c cc).toArray] w fun e w' => TypeNew w w' x e ∧ Below w.heap.size w w' := by
  obtain ⟨a', ca', c', cc', hve, hk, ⟨hf, hca⟩, hm, hcc⟩ := hx
  obtain ⟨nm, kd, by_, fs, ms⟩ := x
  simp [TypeP.cells] at hve
  obtain ⟨⟨rfl, rfl⟩, rfl, rfl⟩ := hve
  simp only [TypeP.cells] at hf hca hm hcc hfl hml ⊢
  have HK := Lib.hid hk
  have HOF : Hid (∀ f ∈ fs, f.ok) := Lib.hid (rows_all hf fun _ _ _ h => h.1)
  have HOM : Hid (∀ m ∈ ms, OkS m) := Lib.hid (rows_all hm fun _ _ _ h => h.1)
  have HA : Hid (∀ o1 o2 o3, Below w.heap.size w (((w.alloc o1).alloc o2).alloc o3)) := Lib.hid fun o1 o2 o3 => (((Below.refl _ _).alloc (Nat.le_refl _) o1).alloc (by simp) o2).alloc (by simp; omega) o3
  have HF : Hid (∀ o1 o2 o3, FieldsAt (((w.alloc o1).alloc o2).alloc o3) A B a fs.length fs) := Lib.hid fun o1 o2 o3 => hf.below fieldLies hB (HA.out o1 o2 o3)
  have HM := Lib.hid hm
  have HO : Hid (∀ o1 o2, OwnFs (((w.alloc o1).alloc o2).alloc (.cells #[] 31)) (w.heap.size + 2) (.slice (some ⟨w.heap.size + 2, 0, none⟩) 0 0) []) := Lib.hid fun o1 o2 => by
    have := World.ownsRow_lit (base := w.heap.size + 2) (e := 31) (size := 6) ((w.alloc o1).alloc o2) #[] 0 (by simp) (by simp) rfl
    simpa [OwnFs] using this
  have hB1 : Hid (∀ o1 o2 o3, w.heap.size + 2 ≤ (((w.alloc o1).alloc o2).alloc o3).heap.size) := Lib.hid fun o1 o2 o3 => by simp
  have HKK : Hid (∀ o1 o2 o3, (((w.alloc o1).alloc o2).alloc o3).heap[w.heap.size]? = some o1 ∧ (((w.alloc o1).alloc o2).alloc o3).heap[w.heap.size + 1]? = some o2) := Lib.hid fun o1 o2 o3 => by
    refine ⟨by rw [Go.Deep.blk_alloc_lt _ _ _ (by simp; omega), Go.Deep.blk_alloc_lt _ _ _ (by simp)]; exact heap_alloc_new w _, ?_⟩
    rw [Go.Deep.blk_alloc_lt _ _ _ (by simp)]
    have := heap_alloc_new (w.alloc o1) o2
    simpa using this
  clear hf hm hk
  go_enter Try.func33, Try.ntmps33
  go_wp2_with (first
    | (at_builtin; refine app_fields rfl _ _ rfl (w.heap.size + 2) _ [] rfl (HO.out _ _) A B a _ _ fs rfl (HF.out _ _ _) (by simp; omega) (hB1.out _ _ _) ?_; intro a3 c3 w3 hown3 hb3; simp only [List.length_nil, Nat.zero_add, List.nil_append] at hown3; have hk3 := (hb3.block w.heap.size (by omega)).trans (HKK.out _ _ _).1; have hz3 := (hb3.block (w.heap.size + 1) (by omega)).trans (HKK.out _ _ _).2; have ⟨⟨y0, y1, y2, y3, y4⟩, f0, f1, f2, f3, f4⟩ := keep5 hk3; have hl3 := lt_of_get hk3; have hl31 := lt_of_get hz3; have HB3 := Lib.hid ((HA.out _ _ _).trans (hb3.mono (by omega))); have HOW3 := Lib.hid hown3; have HL3 := Lib.hid (Nat.le_trans (hB1.out _ _ _) hb3.size); clear hown3 hb3; have HK4 := Lib.hid (heap_setCell_same w3 w.heap.size 3 _ _ (.slice a3 fs.length c3) hk3); have HZ4 := Lib.hid ((Go.Deep.blk_setCell_other w3 ⟨w.heap.size, 3, none⟩ (.slice a3 fs.length c3) (w.heap.size + 1) (by simp)).trans hz3); have HB4 := Lib.hid ((HB3.out.setCell (p := ⟨w.heap.size, 3, none⟩) (Nat.le_refl _) (.slice a3 fs.length c3)).alloc (by have := HB3.out.size; simpa using this) (.cells #[] 9)); have hsz4 : Hid (((w3.setCell ⟨w.heap.size, 3, none⟩ (.slice a3 fs.length c3)).alloc (.cells #[] 9)).heap.size = w3.heap.size + 1) := Lib.hid (by simp); have HO4 : Hid (OwnTs ((w3.setCell ⟨w.heap.size, 3, none⟩ (.slice a3 fs.length c3)).alloc (.cells #[] 9)) w3.heap.size (.slice (some ⟨w3.heap.size, 0, none⟩) 0 0) []) := Lib.hid (by have := World.ownsRow_lit (base := w3.heap.size) (e := 9) (size := 1) (w3.setCell ⟨w.heap.size, 3, none⟩ (.slice a3 fs.length c3)) #[] 0 (by simp) (by simp) rfl; simpa [OwnTs] using this); have HF4 := Lib.hid (OwnFs.frame HOW3.out (w' := (w3.setCell ⟨w.heap.size, 3, none⟩ (.slice a3 fs.length c3)).alloc (.cells #[] 9)) fun q q1 q2 => (Go.Deep.blk_alloc_lt _ _ _ (by simpa using q2)).trans (Go.Deep.blk_setCell_other _ ⟨w.heap.size, 3, none⟩ _ q (by show q ≠ w.heap.size; omega))); clear hk3 hz3)
    | (at_builtin; refine app_texts rfl _ _ rfl w3.heap.size _ [] rfl HO4.out A B c _ _ ms rfl (HM.out.below textLies hB HB4.out) (by simp; omega) (by rw [hsz4.out]; omega) ?_; intro a5 c5 w5 hown5 hb5; simp only [List.length_nil, Nat.zero_add, List.nil_append] at hown5; have hk5 := (hb5.block w.heap.size hl3).trans ((Go.Deep.blk_alloc_lt _ _ _ (by simpa using hl3)).trans HK4.out); have hz5 := (hb5.block (w.heap.size + 1) hl31).trans ((Go.Deep.blk_alloc_lt _ _ _ (by simpa using hl31)).trans HZ4.out); have ⟨⟨k0, k1, k2, k3, k4⟩, p0, p1, p2, p3, p4⟩ := keep5 (v0 := .string nm) (v1 := .int .i64 kd) (v2 := .int .i64 by_) (v3 := .slice a3 fs.length c3) (v4 := .slice c ms.length cc) hk5; have ⟨⟨z0, z1, z2, z3, z4⟩, g0, g1, g2, g3, g4⟩ := keep5 hz5; have HB5 := Lib.hid (HB4.out.trans (hb5.mono (by omega))); have HOW5 := Lib.hid hown5; have HL5 := Lib.hid (show w3.heap.size + 1 ≤ w5.heap.size by rw [← hsz4.out]; exact hb5.size); have HF5 := Lib.hid (OwnFs.fieldsX (w := w3) HOW3.out HOF.out (by omega) HL3.out); have HBB5 := Lib.hid hb5; have HK5 := Lib.hid hk5; have HZ5 := Lib.hid hz5; clear hown5 hb5 hk5 hz5))
  change bodyPost _ _ _ _ _ (putL (w5.setCell ⟨w.heap.size, 4, none⟩ (.slice a5 ms.length c5)) (w.heap.size + 1) 0 [.string nm, .int .i64 kd, .int .i64 by_, .slice a3 fs.length c3, .slice a5 ms.length c5])
  obtain ⟨b3, d3, he3, hd3, hx3⟩ := HF5.out
  obtain ⟨rfl, rfl⟩ : a3 = b3 ∧ c3 = d3 := by cases he3; exact ⟨rfl, rfl⟩
  obtain ⟨b5, d5, he5, hd5, hx5⟩ := HOW5.out.textsX HOM.out hml (by have := HL5.out; omega)
  obtain ⟨rfl, rfl⟩ : a5 = b5 ∧ c5 = d5 := by cases he5; exact ⟨rfl, rfl⟩
  have hz6 : (w5.setCell ⟨w.heap.size, 4, none⟩ (.slice a5 ms.length c5)).heap[w.heap.size + 1]? = _ := (Go.Deep.blk_setCell_other w5 ⟨w.heap.size, 4, none⟩ (.slice a5 ms.length c5) (w.heap.size + 1) (by simp)).trans HZ5.out
  obtain ⟨hr, _, _⟩ := putL_cells (g := w.heap.size + 1) (o := 0) (l := [.string nm, .int .i64 kd, .int .i64 by_, .slice a3 fs.length c3, .slice a5 ms.length c5]) hz6 (by simp)
  have HBF := putL_below (g := w.heap.size + 1) (B := w.heap.size) (by omega) [.string nm, .int .i64 kd, .int .i64 by_, .slice a3 fs.length c3, .slice a5 ms.length c5] 0 (HB5.out.setCell (p := ⟨w.heap.size, 4, none⟩) (Nat.le_refl _) (.slice a5 ms.length c5))
  have hsz := putL_size [.string nm, .int .i64 kd, .int .i64 by_, .slice a3 fs.length c3, .slice a5 ms.length c5] (w5.setCell ⟨w.heap.size, 4, none⟩ (.slice a5 ms.length c5)) (w.heap.size + 1) 0
  have hoth : ∀ q, w.heap.size + 2 ≤ q → (putL (w5.setCell ⟨w.heap.size, 4, none⟩ (.slice a5 ms.length c5)) (w.heap.size + 1) 0 [.string nm, .int .i64 kd, .int .i64 by_, .slice a3 fs.length c3, .slice a5 ms.length c5]).heap[q]? = w5.heap[q]? := fun q hq => (putL_other _ _ _ _ q (by omega)).trans (Go.Deep.blk_setCell_other w5 ⟨w.heap.size, 4, none⟩ _ q (by show q ≠ w.heap.size; omega))
  have HFZ := hx3.block (w' := putL (w5.setCell ⟨w.heap.size, 4, none⟩ (.slice a5 ms.length c5)) (w.heap.size + 1) 0 [.string nm, .int .i64 kd, .int .i64 by_, .slice a3 fs.length c3, .slice a5 ms.length c5]) fieldLies fun q q1 q2 => (hoth q q1).trans ((HBB5.out.block q q2).trans ((Go.Deep.blk_alloc_lt _ _ _ (by simpa using q2)).trans (Go.Deep.blk_setCell_other _ ⟨w.heap.size, 3, none⟩ _ q (by show q ≠ w.heap.size; omega))))
  have HTZ := hx5.block (w' := putL (w5.setCell ⟨w.heap.size, 4, none⟩ (.slice a5 ms.length c5)) (w.heap.size + 1) 0 [.string nm, .int .i64 kd, .int .i64 by_, .slice a3 fs.length c3, .slice a5 ms.length c5]) textLies fun q q1 q2 => hoth q (by have := HL3.out; omega)
  have hsz2 : (putL (w5.setCell ⟨w.heap.size, 4, none⟩ (.slice a5 ms.length c5)) (w.heap.size + 1) 0 [.string nm, .int .i64 kd, .int .i64 by_, .slice a3 fs.length c3, .slice a5 ms.length c5]).heap.size = w5.heap.size := hsz.trans (by simp)
  clear hoth hsz
  generalize putL (w5.setCell ⟨w.heap.size, 4, none⟩ (.slice a5 ms.length c5)) (w.heap.size + 1) 0 [.string nm, .int .i64 kd, .int .i64 by_, .slice a3 fs.length c3, .slice a5 ms.length c5] = wz at *
  have ⟨x0, x1, x2, x3, x4⟩ := row5z hr
  rw [← hsz2] at HTZ
  exact bodyPost_ret (v := .agg #[.string nm, .int .i64 kd, .int .i64 by_, .slice a3 fs.length c3, .slice a5 ms.length c5]) (by simp [results, Try.results33, go_sem, x0, x1, x2, x3, x4]) rfl ⟨⟨a3, c3, a5, c5, rfl, a3, c3, a5, c5, w3.heap.size, rfl, HK.out, ⟨HFZ.wide (by omega) (Nat.le_refl _), hd3⟩, HTZ, hd5⟩, HBF⟩

theorem typeOfP_no {s : List TypeP} (t : ByteArray) (h : schemaB s = false) : typeOfP s t = zeroType := by unfold typeOfP; rw [h]; rfl
theorem typeOfP_yes {s : List TypeP} (t : ByteArray) (h : schemaB s = true) : typeOfP s t = typeIn t s := by
  unfold typeOfP
  cases hf : freshB t s with
  | true => rw [typeIn_zero hf, h]; rfl
  | false => rw [h]; rfl
theorem typeOfP_big {s : List TypeP} {t : ByteArray} (ht : 8000 < t.size) : typeOfP s t = zeroType := by
  unfold typeOfP
  cases h : schemaB s with
  | false => rfl
  | true => rw [fresh_big h ht]; rfl

set_option maxHeartbeats 1000000 in
theorem specTypeOf (w : World) (A B : Nat) (v : Value) (s : List TypeP) (t : ByteArray) (htk : OkS t) (hv : SchemaAt w A B v s) (hB : B ≤ w.heap.size) (hw : schWt s ≤ 1048576) :
    Calls Try.prog 14 #[v, .string t] w fun e w' => TypeNew w w' (typeOfP s t) e ∧ Below w.heap.size w w' := by
  have C := Lib.hid (fun o1 o2 => specSchemaRight ((w.alloc o1).alloc o2) A B v s (hv.below (C := w.heap.size) hB (((Below.refl _ _).alloc (Nat.le_refl _) o1).alloc (by simp) o2)) (Nat.le_trans hB (by simp; omega)))
  have C2 : Hid (∀ w', Below w.heap.size w w' → Calls Try.prog 34 #[v, .string t] w' fun e w'' => (∃ a ca c cc, e = .returned (.agg ((typeIn t s).cells a ca c cc).toArray) ∧ TypeAt w'' A B (.agg ((typeIn t s).cells a ca c cc).toArray) (typeIn t s)) ∧ Below w'.heap.size w' w'') := Lib.hid fun w' g => specType w' A B v s t htk (hv.below hB g) (Nat.le_trans hB g.size)
  have HL := Lib.hid (⟨fields_len hw t, members_len hw t⟩ : (typeIn t s).fields.length ≤ 1048576 ∧ (typeIn t s).members.length ≤ 1048576)
  have HA : Hid (∀ o1 o2, Below w.heap.size w ((w.alloc o1).alloc o2)) := Lib.hid fun o1 o2 => ((Below.refl _ _).alloc (Nat.le_refl _) o1).alloc (by simp) o2
  obtain ⟨a, ca, rfl, _, _⟩ := hv
  unfold OkS at htk
  have HP : Hid ((schemaB s = false → typeOfP s t = zeroType) ∧ (schemaB s = true → typeOfP s t = typeIn t s) ∧ (8000 < t.size → typeOfP s t = zeroType)) := Lib.hid ⟨typeOfP_no t, typeOfP_yes t, typeOfP_big⟩
  generalize typeIn t s = mm at *
  generalize typeOfP s t = mo at *
  go_enter Try.func14, Try.ntmps14
  go_wp2_with fail
  refine (C.out _ _).mono ?_
  rintro e w1 ⟨rfl, hb1⟩
  have HB1 := Lib.hid ((HA.out _ _).trans (hb1.mono (HA.out _ _).size))
  obtain ⟨hk1, hz1⟩ := kept2z hb1
  have HZ1 := Lib.hid hz1
  have ⟨k0, _⟩ := keep1 hk1
  have ⟨⟨z0, z1, z2, z3, z4⟩, g0, g1, g2, g3, g4⟩ := keep5 hz1
  clear hb1 hk1 hz1
  cases hsb : schemaB s with
  | false =>
    have HFI := Lib.hid (HP.out.1 hsb)
    clear hsb
    go_wp2_with fail
    change bodyPost _ _ _ _ _ (putL w1 (w.heap.size + 1) 0 [.string ⟨#[]⟩, .int .i64 0, .int .i64 0, .slice none 0 0, .slice none 0 0])
    obtain ⟨hr, _, _⟩ := putL_cells (g := w.heap.size + 1) (o := 0) (l := [.string ⟨#[]⟩, .int .i64 0, .int .i64 0, .slice none 0 0, .slice none 0 0]) HZ1.out (by simp)
    have HBF := putL_below (g := w.heap.size + 1) (B := w.heap.size) (by omega) [.string ⟨#[]⟩, .int .i64 0, .int .i64 0, .slice none 0 0, .slice none 0 0] 0 HB1.out
    generalize putL w1 (w.heap.size + 1) 0 [.string ⟨#[]⟩, .int .i64 0, .int .i64 0, .slice none 0 0, .slice none 0 0] = wz at *
    have ⟨x0, x1, x2, x3, x4⟩ := row5z hr
    exact bodyPost_ret (v := .agg #[.string ⟨#[]⟩, .int .i64 0, .int .i64 0, .slice none 0 0, .slice none 0 0]) (by simp [results, Try.results14, go_sem, x0, x1, x2, x3, x4]) rfl ⟨by rw [HFI.out]; exact ⟨none, 0, none, 0, rfl, zeroX wz HBF.size⟩, HBF⟩
  | true =>
    have HFY := Lib.hid (HP.out.2.1 hsb)
    clear hsb
    by_cases q1 : 8000 < t.size
    · have q1i : (8000 : Int) < (t.size : Int) := by omega
      have HFI := Lib.hid (HP.out.2.2 q1)
      clear q1
      go_wp2_with fail
      change bodyPost _ _ _ _ _ (putL w1 (w.heap.size + 1) 0 [.string ⟨#[]⟩, .int .i64 0, .int .i64 0, .slice none 0 0, .slice none 0 0])
      obtain ⟨hr, _, _⟩ := putL_cells (g := w.heap.size + 1) (o := 0) (l := [.string ⟨#[]⟩, .int .i64 0, .int .i64 0, .slice none 0 0, .slice none 0 0]) HZ1.out (by simp)
      have HBF := putL_below (g := w.heap.size + 1) (B := w.heap.size) (by omega) [.string ⟨#[]⟩, .int .i64 0, .int .i64 0, .slice none 0 0, .slice none 0 0] 0 HB1.out
      generalize putL w1 (w.heap.size + 1) 0 [.string ⟨#[]⟩, .int .i64 0, .int .i64 0, .slice none 0 0, .slice none 0 0] = wz at *
      have ⟨x0, x1, x2, x3, x4⟩ := row5z hr
      exact bodyPost_ret (v := .agg #[.string ⟨#[]⟩, .int .i64 0, .int .i64 0, .slice none 0 0, .slice none 0 0]) (by simp [results, Try.results14, go_sem, x0, x1, x2, x3, x4]) rfl ⟨by rw [HFI.out]; exact ⟨none, 0, none, 0, rfl, zeroX wz HBF.size⟩, HBF⟩
    have q1i : ¬ (8000 : Int) < (t.size : Int) := by omega
    clear q1
    go_wp2_with fail
    refine (C2.out _ HB1.out).mono ?_
    rintro e w2 ⟨⟨ta, tca, tc, tcc, rfl, hx2⟩, hb2⟩
    have HB2 := Lib.hid (HB1.out.trans (hb2.mono HB1.out.size))
    have HX2 := Lib.hid hx2
    have hz2 := (hb2.block (w.heap.size + 1) (lt_of_get HZ1.out)).trans HZ1.out
    clear hb2 hx2 z0 z1 z2 z3 z4 g0 g1 g2 g3 g4
    go_wp2_with fail
    refine (specCopy _ A B mm ta tca tc tcc HX2.out (Nat.le_trans hB HB2.out.size) HL.out.1 HL.out.2).mono ?_
    rintro e w3 ⟨⟨fa, fca, fc, fcc, rfl, hx3⟩, hb3⟩
    have HB3 := Lib.hid (HB2.out.trans (hb3.mono HB2.out.size))
    have hz3 := (hb3.block (w.heap.size + 1) (lt_of_get hz2)).trans hz2
    have HZ3 := Lib.hid hz3
    have hl2 := lt_of_get hz2
    have HX3 := Lib.hid hx3
    have ⟨⟨z0, z1, z2, z3, z4⟩, g0, g1, g2, g3, g4⟩ := keep5 hz3
    clear hb3 hz3 hx3 hz2
    obtain ⟨yn, yk, yb, yf, ym⟩ := mm
    simp only [TypeP.cells] at HX3 ⊢
    go_wp2_with fail
    change bodyPost _ _ _ _ _ (putL w3 (w.heap.size + 1) 0 [.string yn, .int .i64 yk, .int .i64 yb, .slice fa yf.length fca, .slice fc ym.length fcc])
    obtain ⟨hr, _, _⟩ := putL_cells (g := w.heap.size + 1) (o := 0) (l := [.string yn, .int .i64 yk, .int .i64 yb, .slice fa yf.length fca, .slice fc ym.length fcc]) HZ3.out (by simp)
    have HBF := putL_below (g := w.heap.size + 1) (B := w.heap.size) (by omega) [.string yn, .int .i64 yk, .int .i64 yb, .slice fa yf.length fca, .slice fc ym.length fcc] 0 HB3.out
    have hsz := putL_size [.string yn, .int .i64 yk, .int .i64 yb, .slice fa yf.length fca, .slice fc ym.length fcc] w3 (w.heap.size + 1) 0
    have HTZ := HX3.out.block (w' := putL w3 (w.heap.size + 1) 0 [.string yn, .int .i64 yk, .int .i64 yb, .slice fa yf.length fca, .slice fc ym.length fcc]) fun q q1 q2 => putL_other _ _ _ _ q (by omega)
    generalize putL w3 (w.heap.size + 1) 0 [.string yn, .int .i64 yk, .int .i64 yb, .slice fa yf.length fca, .slice fc ym.length fcc] = wz at *
    have ⟨x0, x1, x2, x3, x4⟩ := row5z hr
    rw [← hsz] at HTZ
    exact bodyPost_ret (v := .agg #[.string yn, .int .i64 yk, .int .i64 yb, .slice fa yf.length fca, .slice fc ym.length fcc]) (by simp [results, Try.results14, go_sem, x0, x1, x2, x3, x4]) rfl ⟨by rw [HFY.out]; exact ⟨fa, fca, fc, fcc, rfl, HTZ.wide HB2.out.size (Nat.le_refl _)⟩, HBF⟩
end Go.Proofs.Ytcogbmcnljlnaaa.Rw
