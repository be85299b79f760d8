/-
  Contracts: spec.l04Get, FieldOf; of what was there nothing is changed. Conditions: in memory.
-/
import Derived.Test.YtbloedfbpclcoaaRows
import Derived.Test.YtbloedfbpclcoaaKindI
namespace Go.Proofs.Ytbloedfbpclcoaa.Rw
open Go.RowKit Words Go.Maps
set_option linter.unusedVariables false
set_option maxRecDepth 100000

theorem type_small {s : ByteArray} (h : typeB s = true) : 1 ≤ s.size ∧ s.size ≤ 8 := by
  unfold typeB ofB at h
  have := @of_decide_eq_true _ (Classical.propDecidable _) h
  exact ⟨this.some, this.few⟩
theorem word_small {s : ByteArray} (h : wordB s = true) : 1 ≤ s.size ∧ s.size ≤ 8 := by
  unfold wordB ofB at h
  rw [Bool.and_eq_true] at h
  have := @of_decide_eq_true _ (Classical.propDecidable _) h.1
  exact ⟨this.some, this.few⟩
theorem fieldsAll_iff (s : List TypeP) (l : List FieldP) : ∀ (r : List FieldP) (i : Nat), fieldsAll s l r i = true ↔ ∀ (j : Nat) (x : FieldP), r[j]? = some x → fieldB s l (i + j) x = true
  | [], i => by simp [fieldsAll]
  | y :: r, i => by
    rw [fieldsAll, Bool.and_eq_true, fieldsAll_iff s l r (i + 1)]
    constructor
    · rintro ⟨h1, h2⟩ j x hx
      cases j with
      | zero => cases hx; simpa using h1
      | succ j => have := h2 j x (by simpa using hx); rwa [show i + (j + 1) = i + 1 + j by omega]
    · intro h
      exact ⟨by simpa using h 0 y rfl, fun j x hx => by have := h (j + 1) x (by simpa using hx); rwa [show i + 1 + j = i + (j + 1) by omega]⟩
theorem part_field {s : List TypeP} {x : TypeP} (h : partB s x = true) {f : FieldP} (hf : f ∈ x.fields) : wordB f.name = true ∧ ((typeIn f.typ s).kind == 0) = false ∧ sizedB f = true := by
  by_cases hk : x.kind = 2
  · unfold partB objB fieldsB at h
    rw [if_neg (by omega), if_pos hk] at h
    simp only [Bool.and_eq_true] at h
    obtain ⟨i, hi⟩ := List.mem_iff_getElem?.1 hf
    have := (fieldsAll_iff s x.fields x.fields 0).1 h.2.1 i f hi
    unfold fieldB at this
    simp only [Bool.and_eq_true, Bool.not_eq_true'] at this
    exact ⟨this.1.1.1, this.1.2, this.2⟩
  · rw [part_fields h hk] at hf; cases hf
theorem fieldIn_cases (nm : ByteArray) : ∀ (l : List FieldP), fieldIn nm l = zeroField ∨ (fieldIn nm l ∈ l ∧ (fieldIn nm l).name = nm)
  | [] => .inl rfl
  | x :: l => by
    rw [fieldIn]
    split
    · rename_i h; exact .inr ⟨by simp, h⟩
    · rcases fieldIn_cases nm l with h | ⟨h1, h2⟩
      · exact .inl h
      · exact .inr ⟨by simp [h1], h2⟩
theorem fieldOfP_no {s : List TypeP} (t nm : ByteArray) (h : schemaB s = false) : fieldOfP s t nm = zeroField := by unfold fieldOfP; rw [h]; rfl
theorem fieldOfP_yes {s : List TypeP} (t nm : ByteArray) (h : schemaB s = true) : fieldOfP s t nm = fieldIn nm (typeIn t s).fields := by
  unfold fieldOfP
  cases hf : freshB t s with
  | true => rw [typeIn_zero hf, h]; rfl
  | false => rw [h]; rfl
theorem fresh_big {s : List TypeP} {t : ByteArray} (h : schemaB s = true) (ht : 8000 < t.size) : freshB t s = true := by
  cases hf : freshB t s with
  | true => rfl
  | false =>
    obtain ⟨h1, _, h2⟩ := right_at h hf
    have := type_small h1
    rw [h2] at this; omega
theorem fieldOfP_bigT {s : List TypeP} {t : ByteArray} (nm : ByteArray) (ht : 8000 < t.size) : fieldOfP s t nm = zeroField := by
  unfold fieldOfP
  cases h : schemaB s with
  | false => rfl
  | true => rw [fresh_big h ht]; rfl
theorem fieldOfP_bigN {s : List TypeP} (t : ByteArray) {nm : ByteArray} (hn : 8000 < nm.size) : fieldOfP s t nm = zeroField := by
  unfold fieldOfP
  split
  · rename_i h
    simp only [Bool.and_eq_true, Bool.not_eq_true'] at h
    rcases fieldIn_cases nm (typeIn t s).fields with h1 | ⟨h1, h2⟩
    · exact h1
    · have := word_small (part_field (right_at h.1 h.2).2.1 h1).1
      rw [h2] at this; omega
  · rfl

set_option maxHeartbeats 2000000 in
theorem specGet (w : World) (A B : Nat) (v : Value) (s : List TypeP) (t nm : ByteArray) (htk : OkS t) (hn : OkS nm) (hv : SchemaAt w A B v s) (hB : B ≤ w.heap.size) :
    Calls Try.prog 41 #[v, .string t, .string nm] w fun e w' => e = .returned (.agg (fieldIn nm (typeIn t s).fields).cells.toArray) ∧ Below w.heap.size w w' := by
  have C := Lib.hid (fun o1 o2 => specType ((w.alloc o1).alloc o2) A B v s t htk (hv.below (C := w.heap.size) hB (((Below.refl _ _).alloc (Nat.le_refl _) o1).alloc (by simp) o2)) (Nat.le_trans hB (by simp; omega)))
  have HA : Hid (∀ o1 o2, Below w.heap.size w ((w.alloc o1).alloc o2)) := Lib.hid fun o1 o2 => ((Below.refl _ _).alloc (Nat.le_refl _) o1).alloc (by simp) o2
  have HN := Lib.hid hn
  obtain ⟨a, ca, rfl, _, _⟩ := hv
  clear hn htk
  generalize typeIn t s = y at *
  obtain ⟨tn, tk, tb, tf, tm⟩ := y
  go_enter Try.func41, Try.ntmps41
  go_wp2_with fail
  refine (C.out _ _).mono ?_
  rintro e w1 ⟨⟨ta, tca, tc, tcc, rfl, hty⟩, hb1⟩
  have HB1 := Lib.hid ((HA.out _ _).trans (hb1.mono (HA.out _ _).size))
  have HZ1 := Lib.hid (kept2z hb1).2
  clear hb1
  obtain ⟨_, _, _, _, hve, _, ⟨h2, h2c⟩, _, _⟩ := hty
  simp [TypeP.cells] at hve
  obtain ⟨⟨rfl, rfl⟩, rfl, rfl⟩ := hve
  simp only [TypeP.cells] at h2 h2c ⊢
  have HF := Lib.hid h2
  have hfl := h2.2.1
  have CF : Hid (Calls Try.prog 59 #[.slice ta tf.length tca, .string nm] w1 fun e w' => e = .returned (.int .i64 (findF nm tf 0)) ∧ Below w1.heap.size w1 w') := Lib.hid (specField w1 A B ta _ tca tf nm HN.out h2 (Nat.le_trans hB HB1.out.size))
  have hfld : ∀ (W : World), (Instr.field 38 (.agg #[.string tn, .int .i64 tk, .int .i64 tb, .slice ta tf.length tca, .slice tc tm.length tcc]) 3).run Try.prog W = .ok (.slice ta tf.length tca) W := fun _ => rfl
  have HI := findF_in nm tf 0
  clear h2
  go_wp2_with fail
  refine CF.out.mono ?_
  rintro e w2 ⟨rfl, hb2⟩
  have HB2 := Lib.hid (HB1.out.trans (hb2.mono HB1.out.size))
  have hz2 := (hb2.block (w.heap.size + 1) (lt_of_get HZ1.out)).trans HZ1.out
  have HZ2 := Lib.hid hz2
  have ⟨⟨z0, z1, z2, z3, z4, z5⟩, g0, g1, g2, g3, g4, g5⟩ := keep6 hz2
  have HB12 := Lib.hid hb2
  clear hb2 hz2 hfld
  rcases HI with ⟨hi, hfi⟩ | ⟨i, hi, hg, hnm⟩
  · rw [hi]
    have HFI := Lib.hid hfi
    clear hi hfi
    go_wp2_with fail
    change bodyPost _ _ _ _ _ (putL w2 (w.heap.size + 1) 0 [.string ⟨#[]⟩, .string ⟨#[]⟩, .bool false, .bool false, .int .i64 0, .int .i64 0])
    obtain ⟨hr, _, _⟩ := putL_cells (g := w.heap.size + 1) (o := 0) (l := [.string ⟨#[]⟩, .string ⟨#[]⟩, .bool false, .bool false, .int .i64 0, .int .i64 0]) HZ2.out (by simp)
    have HBF := putL_below (g := w.heap.size + 1) (B := w.heap.size) (by omega) [.string ⟨#[]⟩, .string ⟨#[]⟩, .bool false, .bool false, .int .i64 0, .int .i64 0] 0 HB2.out
    generalize putL w2 (w.heap.size + 1) 0 [.string ⟨#[]⟩, .string ⟨#[]⟩, .bool false, .bool false, .int .i64 0, .int .i64 0] = wz at *
    have ⟨x0, x1, x2, x3, x4, x5⟩ := row6z hr
    exact bodyPost_ret (v := .agg #[.string ⟨#[]⟩, .string ⟨#[]⟩, .bool false, .bool false, .int .i64 0, .int .i64 0]) (by simp [results, Try.results41, go_sem, x0, x1, x2, x3, x4, x5]) rfl ⟨by rw [HFI.out]; rfl, HBF⟩
  · rw [Nat.zero_add] at hi
    rw [hi]
    have hil : i < tf.length := (List.getElem?_eq_some_iff.1 hg).1
    have hli : (i : Int) < (tf.length : Int) := by omega
    obtain ⟨f, fb, off, hd, rfl, hA, hbb, hok, hc⟩ := (HF.out.below fieldLies (Nat.le_trans hB HB1.out.size) HB12.out).at hil
    obtain rfl : f = fieldIn nm tf := by rw [hg] at hd; exact (Option.some.inj hd).symm
    obtain ⟨c0, c1, c2, c3, c4, c5⟩ := row6 hc
    clear hi hg hnm hd hc hok hil
    go_wp2_with fail
    change bodyPost _ _ _ _ _ (putL w2 (w.heap.size + 1) 0 [.string (fieldIn nm tf).name, .string (fieldIn nm tf).typ, .bool (fieldIn nm tf).list, .bool (fieldIn nm tf).must, .int .i64 (fieldIn nm tf).size, .int .i64 (fieldIn nm tf).cap])
    obtain ⟨hr, _, _⟩ := putL_cells (g := w.heap.size + 1) (o := 0) (l := [.string (fieldIn nm tf).name, .string (fieldIn nm tf).typ, .bool (fieldIn nm tf).list, .bool (fieldIn nm tf).must, .int .i64 (fieldIn nm tf).size, .int .i64 (fieldIn nm tf).cap]) HZ2.out (by simp)
    have HBF := putL_below (g := w.heap.size + 1) (B := w.heap.size) (by omega) [.string (fieldIn nm tf).name, .string (fieldIn nm tf).typ, .bool (fieldIn nm tf).list, .bool (fieldIn nm tf).must, .int .i64 (fieldIn nm tf).size, .int .i64 (fieldIn nm tf).cap] 0 HB2.out
    generalize putL w2 (w.heap.size + 1) 0 [.string (fieldIn nm tf).name, .string (fieldIn nm tf).typ, .bool (fieldIn nm tf).list, .bool (fieldIn nm tf).must, .int .i64 (fieldIn nm tf).size, .int .i64 (fieldIn nm tf).cap] = wz at *
    have ⟨x0, x1, x2, x3, x4, x5⟩ := row6z hr
    exact bodyPost_ret (v := .agg #[.string (fieldIn nm tf).name, .string (fieldIn nm tf).typ, .bool (fieldIn nm tf).list, .bool (fieldIn nm tf).must, .int .i64 (fieldIn nm tf).size, .int .i64 (fieldIn nm tf).cap]) (by simp [results, Try.results41, go_sem, x0, x1, x2, x3, x4, x5]) rfl ⟨rfl, HBF⟩

set_option maxHeartbeats 2000000 in
theorem specFieldOf (w : World) (A B : Nat) (v : Value) (s : List TypeP) (t nm : ByteArray) (htk : OkS t) (hn : OkS nm) (hv : SchemaAt w A B v s) (hB : B ≤ w.heap.size) :
    Calls Try.prog 17 #[v, .string t, .string nm] w fun e w' => e = .returned (.agg (fieldOfP s t nm).cells.toArray) ∧ Below w.heap.size w w' := by
  have C := Lib.hid (fun o1 o2 => specSchemaRight ((w.alloc o1).alloc o2) A B v s (hv.below (C := w.heap.size) hB (((Below.refl _ _).alloc (Nat.le_refl _) o1).alloc (by simp) o2)) (Nat.le_trans hB (by simp; omega)))
  have C2 : Hid (∀ w', Below w.heap.size w w' → Calls Try.prog 41 #[v, .string t, .string nm] w' fun e w'' => e = .returned (.agg (fieldIn nm (typeIn t s).fields).cells.toArray) ∧ Below w'.heap.size w' w'') := Lib.hid fun w' g => specGet w' A B v s t nm htk hn (hv.below hB g) (Nat.le_trans hB g.size)
  have HA : Hid (∀ o1 o2, Below w.heap.size w ((w.alloc o1).alloc o2)) := Lib.hid fun o1 o2 => ((Below.refl _ _).alloc (Nat.le_refl _) o1).alloc (by simp) o2
  obtain ⟨a, ca, rfl, _, _⟩ := hv
  unfold OkS at hn htk
  have HP : Hid ((schemaB s = false → fieldOfP s t nm = zeroField) ∧ (schemaB s = true → fieldOfP s t nm = fieldIn nm (typeIn t s).fields) ∧ (8000 < t.size → fieldOfP s t nm = zeroField) ∧ (8000 < nm.size → fieldOfP s t nm = zeroField)) := Lib.hid ⟨fieldOfP_no t nm, fieldOfP_yes t nm, fieldOfP_bigT nm, fieldOfP_bigN t⟩
  generalize fieldIn nm (typeIn t s).fields = fg at *
  generalize fieldOfP s t nm = fp at *
  go_enter Try.func17, Try.ntmps17
  go_wp2_with fail
  refine (C.out _ _).mono ?_
  rintro e w1 ⟨rfl, hb1⟩
  have HB1 := Lib.hid ((HA.out _ _).trans (hb1.mono (HA.out _ _).size))
  obtain ⟨hk1, hz1⟩ := kept2z hb1
  have HZ1 := Lib.hid hz1
  have ⟨k0, _⟩ := keep1 hk1
  have ⟨⟨z0, z1, z2, z3, z4, z5⟩, g0, g1, g2, g3, g4, g5⟩ := keep6 hz1
  clear hb1 hk1 hz1
  cases hsb : schemaB s with
  | false =>
    have HFI := Lib.hid (HP.out.1 hsb)
    clear hsb
    go_wp2_with fail
    change bodyPost _ _ _ _ _ (putL w1 (w.heap.size + 1) 0 [.string ⟨#[]⟩, .string ⟨#[]⟩, .bool false, .bool false, .int .i64 0, .int .i64 0])
    obtain ⟨hr, _, _⟩ := putL_cells (g := w.heap.size + 1) (o := 0) (l := [.string ⟨#[]⟩, .string ⟨#[]⟩, .bool false, .bool false, .int .i64 0, .int .i64 0]) HZ1.out (by simp)
    have HBF := putL_below (g := w.heap.size + 1) (B := w.heap.size) (by omega) [.string ⟨#[]⟩, .string ⟨#[]⟩, .bool false, .bool false, .int .i64 0, .int .i64 0] 0 HB1.out
    generalize putL w1 (w.heap.size + 1) 0 [.string ⟨#[]⟩, .string ⟨#[]⟩, .bool false, .bool false, .int .i64 0, .int .i64 0] = wz at *
    have ⟨x0, x1, x2, x3, x4, x5⟩ := row6z hr
    exact bodyPost_ret (v := .agg #[.string ⟨#[]⟩, .string ⟨#[]⟩, .bool false, .bool false, .int .i64 0, .int .i64 0]) (by simp [results, Try.results17, go_sem, x0, x1, x2, x3, x4, x5]) rfl ⟨by rw [HFI.out]; rfl, HBF⟩
  | true =>
    have HFY := Lib.hid (HP.out.2.1 hsb)
    clear hsb
    by_cases q1 : 8000 < t.size
    · have q1i : (8000 : Int) < (t.size : Int) := by omega
      have HFI := Lib.hid (HP.out.2.2.1 q1)
      clear q1
      go_wp2_with fail
      change bodyPost _ _ _ _ _ (putL w1 (w.heap.size + 1) 0 [.string ⟨#[]⟩, .string ⟨#[]⟩, .bool false, .bool false, .int .i64 0, .int .i64 0])
      obtain ⟨hr, _, _⟩ := putL_cells (g := w.heap.size + 1) (o := 0) (l := [.string ⟨#[]⟩, .string ⟨#[]⟩, .bool false, .bool false, .int .i64 0, .int .i64 0]) HZ1.out (by simp)
      have HBF := putL_below (g := w.heap.size + 1) (B := w.heap.size) (by omega) [.string ⟨#[]⟩, .string ⟨#[]⟩, .bool false, .bool false, .int .i64 0, .int .i64 0] 0 HB1.out
      generalize putL w1 (w.heap.size + 1) 0 [.string ⟨#[]⟩, .string ⟨#[]⟩, .bool false, .bool false, .int .i64 0, .int .i64 0] = wz at *
      have ⟨x0, x1, x2, x3, x4, x5⟩ := row6z hr
      exact bodyPost_ret (v := .agg #[.string ⟨#[]⟩, .string ⟨#[]⟩, .bool false, .bool false, .int .i64 0, .int .i64 0]) (by simp [results, Try.results17, go_sem, x0, x1, x2, x3, x4, x5]) rfl ⟨by rw [HFI.out]; rfl, HBF⟩
    have q1i : ¬ (8000 : Int) < (t.size : Int) := by omega
    by_cases q2 : 8000 < nm.size
    · have q2i : (8000 : Int) < (nm.size : Int) := by omega
      have HFI := Lib.hid (HP.out.2.2.2 q2)
      clear q1 q2
      go_wp2_with fail
      change bodyPost _ _ _ _ _ (putL w1 (w.heap.size + 1) 0 [.string ⟨#[]⟩, .string ⟨#[]⟩, .bool false, .bool false, .int .i64 0, .int .i64 0])
      obtain ⟨hr, _, _⟩ := putL_cells (g := w.heap.size + 1) (o := 0) (l := [.string ⟨#[]⟩, .string ⟨#[]⟩, .bool false, .bool false, .int .i64 0, .int .i64 0]) HZ1.out (by simp)
      have HBF := putL_below (g := w.heap.size + 1) (B := w.heap.size) (by omega) [.string ⟨#[]⟩, .string ⟨#[]⟩, .bool false, .bool false, .int .i64 0, .int .i64 0] 0 HB1.out
      generalize putL w1 (w.heap.size + 1) 0 [.string ⟨#[]⟩, .string ⟨#[]⟩, .bool false, .bool false, .int .i64 0, .int .i64 0] = wz at *
      have ⟨x0, x1, x2, x3, x4, x5⟩ := row6z hr
      exact bodyPost_ret (v := .agg #[.string ⟨#[]⟩, .string ⟨#[]⟩, .bool false, .bool false, .int .i64 0, .int .i64 0]) (by simp [results, Try.results17, go_sem, x0, x1, x2, x3, x4, x5]) rfl ⟨by rw [HFI.out]; rfl, HBF⟩
    have q2i : ¬ (8000 : Int) < (nm.size : Int) := by omega
    clear q1 q2
    go_wp2_with fail
    refine (C2.out _ HB1.out).mono ?_
    rintro e w2 ⟨rfl, hb2⟩
    have HB2 := Lib.hid (HB1.out.trans (hb2.mono HB1.out.size))
    have hz2 := (hb2.block (w.heap.size + 1) (lt_of_get HZ1.out)).trans HZ1.out
    have HZ2 := Lib.hid hz2
    clear z0 z1 z2 z3 z4 z5 g0 g1 g2 g3 g4 g5
    have ⟨⟨z0, z1, z2, z3, z4, z5⟩, g0, g1, g2, g3, g4, g5⟩ := keep6 hz2
    clear hb2 hz2
    obtain ⟨fn, ft, fl, fm, fz, fc⟩ := fg
    simp only [FieldP.cells]
    go_wp2_with fail
    change bodyPost _ _ _ _ _ (putL w2 (w.heap.size + 1) 0 [.string fn, .string ft, .bool fl, .bool fm, .int .i64 fz, .int .i64 fc])
    obtain ⟨hr, _, _⟩ := putL_cells (g := w.heap.size + 1) (o := 0) (l := [.string fn, .string ft, .bool fl, .bool fm, .int .i64 fz, .int .i64 fc]) HZ2.out (by simp)
    have HBF := putL_below (g := w.heap.size + 1) (B := w.heap.size) (by omega) [.string fn, .string ft, .bool fl, .bool fm, .int .i64 fz, .int .i64 fc] 0 HB2.out
    generalize putL w2 (w.heap.size + 1) 0 [.string fn, .string ft, .bool fl, .bool fm, .int .i64 fz, .int .i64 fc] = wz at *
    have ⟨x0, x1, x2, x3, x4, x5⟩ := row6z hr
    exact bodyPost_ret (v := .agg #[.string fn, .string ft, .bool fl, .bool fm, .int .i64 fz, .int .i64 fc]) (by simp [results, Try.results17, go_sem, x0, x1, x2, x3, x4, x5]) rfl ⟨by rw [HFY.out]; rfl, HBF⟩
theorem rows_all {α : Type} {n : Nat} {L : World → Nat → Nat → Nat → Nat → α → Prop} {w : World} {A B len : Nat} {a : Option Addr} {l : List α} (h : RowsAt n L w A B a len l) {P : α → Prop} (hp : ∀ b o x, L w A B b o x → P x) : ∀ x ∈ l, P x := fun x hx => by
  obtain ⟨i, hi⟩ := List.mem_iff_getElem?.1 hx
  rcases h.2.2 with rfl | ⟨b, off, _, _, _, hl⟩
  · simp at hx
  · exact hp _ _ _ (hl i x hi)
theorem schema_ok {w : World} {A B : Nat} {v : Value} {s : List TypeP} (h : SchemaAt w A B v s) : ∀ x ∈ s, x.ok ∧ (∀ f ∈ x.fields, f.ok) ∧ ∀ m ∈ x.members, OkS m := by
  obtain ⟨a, ca, _, h1, _⟩ := h
  refine rows_all h1 fun b o x hx => ?_
  obtain ⟨hk, a, ca, c, cc, _, ⟨h2, _⟩, h3, _⟩ := hx
  exact ⟨hk, rows_all h2 fun _ _ _ hf => hf.1, rows_all h3 fun _ _ _ hm => hm.1⟩
theorem zeroField_ok : zeroField.ok := ⟨by unfold OkS; decide, by unfold OkS; decide, by unfold OkI zeroField; simp, by unfold OkI zeroField; simp⟩
theorem fieldOfP_ok {w : World} {A B : Nat} {v : Value} {s : List TypeP} (h : SchemaAt w A B v s) (t nm : ByteArray) : (fieldOfP s t nm).ok := by
  unfold fieldOfP
  split
  · rename_i hc
    simp only [Bool.and_eq_true, Bool.not_eq_true'] at hc
    rcases fieldIn_cases nm (typeIn t s).fields with e | ⟨h1, _⟩
    · rw [e]; exact zeroField_ok
    · exact (schema_ok h _ (typeIn_in hc.2)).2.1 _ h1
  · exact zeroField_ok
end Go.Proofs.Ytbloedfbpclcoaa.Rw
