/-
  Contracts: spec.l04Members, MembersOf; of what was there nothing is changed. Conditions: in memory, lists of at most 2^20.
-/
import Derived.Test.YtbloedfbpclcoaaRows
import Derived.Test.YtbloedfbpclcoaaKindL
import Derived.Test.YtbloedfbpclcoaaOwnAll
namespace Go.Proofs.Ytbloedfbpclcoaa.Rw
open Go.RowKit Words Go.Maps
set_option linter.unusedVariables false
set_option maxRecDepth 100000

/-- What the model tells of a type's objects, whatever the schema. -/
def membersM (s : List TypeP) (t : ByteArray) : List ByteArray := if (typeIn t s).kind = 2 then [t] else (typeIn t s).members
set_option maxHeartbeats 1000000 in
theorem specMembers (w : World) (A B : Nat) (v : Value) (s : List TypeP) (t : ByteArray) (htk : OkS t) (hv : SchemaAt w A B v s) (hB : B ≤ w.heap.size) (hml : (typeIn t s).members.length ≤ 1048576) :
    Calls Try.prog 42 #[v, .string t] w fun e w' => TextsNew w w' (membersM s t) e ∧ Below w.heap.size w w' := by
  have C := Lib.hid (fun o1 => specType (w.alloc o1) A B v s t htk (hv.below (C := w.heap.size) hB ((Below.refl _ _).alloc (Nat.le_refl _) o1)) (Nat.le_trans hB (by simp)))
  have HA : Hid (∀ o1, Below w.heap.size w (w.alloc o1)) := Lib.hid fun o1 => (Below.refl _ _).alloc (Nat.le_refl _) o1
  have HOK := Lib.hid htk
  unfold OkS at htk
  have HMM := Lib.hid (show membersM s t = if (typeIn t s).kind = 2 then [t] else (typeIn t s).members from rfl)
  obtain ⟨a, ca, rfl, _, _⟩ := hv
  generalize membersM s t = mm at *
  generalize typeIn t s = y at *
  obtain ⟨tn, tk, tb, tf, tm⟩ := y
  go_enter Try.func42, Try.ntmps42
  go_wp2_with fail
  refine (C.out _).mono ?_
  rintro e w1 ⟨⟨ta, tca, tc, tcc, rfl, hty⟩, hb1⟩
  have HB1 := Lib.hid ((HA.out _).trans (hb1.mono (HA.out _).size))
  obtain ⟨_, _, _, _, hve, hk, _, h3, h3c⟩ := hty
  simp [TypeP.cells] at hve
  obtain ⟨⟨rfl, rfl⟩, rfl, rfl⟩ := hve
  simp only [TypeP.cells] at h3 h3c hml HMM ⊢
  have HT := Lib.hid h3
  have hrows : ∀ x ∈ tm, OkS x := rows_all h3 fun _ _ _ h => h.1
  have HR := Lib.hid hrows
  have hB1 := Lib.hid (Nat.le_trans hB HB1.out.size)
  clear hb1 h3 hrows hk
  by_cases hk : tk = 2
  · have hkb : (tk == 2) = true := by rw [hk]; rfl
    have hf := Lib.hid (show mm = [t] by rw [HMM.out, if_pos hk])
    clear hk
    go_wp2_with fail
    go_ret
    have hg1 : w1.heap.size + 1 < ((w1.alloc (.cells #[.string tn, .int .i64 tk, .int .i64 tb, .slice ta tf.length tca, .slice tc tm.length tcc] 38)).alloc (.cells #[.string t] 9)).heap.size := by simp
    have hge : (w1.alloc (.cells #[.string tn, .int .i64 tk, .int .i64 tb, .slice ta tf.length tca, .slice tc tm.length tcc] 38)).heap.size = w1.heap.size + 1 := by simp
    have hn := heap_alloc_new (w1.alloc (.cells #[.string tn, .int .i64 tk, .int .i64 tb, .slice ta tf.length tca, .slice tc tm.length tcc] 38)) (.cells #[.string t] 9)
    rw [hge] at hn
    have hz := HB1.out.size
    refine ⟨?_, (HB1.out.alloc hz _).alloc (by simp; omega) _⟩
    rw [hf.out]
    refine ⟨some ⟨w1.heap.size + 1, 0, none⟩, 1, rfl, Nat.le_refl _, rfl, by simp, by omega, .inr ⟨w1.heap.size + 1, 0, rfl, by omega, hg1, LieRX.flat ⟨_, _, hn⟩ hg1 (by omega) fun j y hj => ?_⟩⟩
    have e : j = 0 := by have := (List.getElem?_eq_some_iff.1 hj).1; simp at this; exact this
    subst e; cases hj
    exact ⟨HOK.out, cell_of hn rfl⟩
  · have hkb : (tk == 2) = false := by rw [beq_eq_false_iff_ne]; exact hk
    have hf := Lib.hid (show mm = tm by rw [HMM.out, if_neg hk])
    clear hk
    have HX : Hid (∀ o1 o2, Below w.heap.size w ((w1.alloc o1).alloc o2)) := Lib.hid fun o1 o2 => (HB1.out.alloc HB1.out.size o1).alloc (by have := HB1.out.size; simp; omega) o2
    have HO : Hid (∀ o1, OwnTs ((w1.alloc o1).alloc (.cells #[] 9)) w.heap.size (.slice (some ⟨w1.heap.size + 1, 0, none⟩) 0 0) []) := Lib.hid fun o1 => by
      have := World.ownsRow_lit (base := w.heap.size) (e := 9) (size := 1) (w1.alloc o1) #[] 0 (by have := HB1.out.size; simp; omega) (by simp) rfl
      simpa [OwnTs] using this
    have HT2 : Hid (∀ o1 o2, TextsAt ((w1.alloc o1).alloc o2) A B tc tm.length tm) := Lib.hid fun o1 o2 => HT.out.below textLies (C := w1.heap.size) hB1.out (((Below.refl _ _).alloc (Nat.le_refl _) o1).alloc (by simp) o2)
    go_wp2_with (at_builtin; refine app_texts rfl _ _ rfl w.heap.size _ [] rfl (HO.out _) A B tc _ _ tm rfl (HT2.out _ _) (by simp; omega) (HX.out _ _).size ?_; intro a9 c9 w9 hown9 hb9; simp only [List.length_nil, Nat.zero_add, List.nil_append] at hown9)
    have HB9 := (HX.out _ _).trans hb9
    obtain ⟨a8, c8, he, h1, h2⟩ := hown9.textsX HR.out hml HB9.size
    have HX9 := Lib.hid h2
    have HE := Lib.hid he
    have H1 := Lib.hid h1
    have HB := Lib.hid HB9
    clear hb9 hown9 he h1 h2 HB9
    go_wp2_with fail
    go_ret
    exact ⟨by rw [hf.out]; exact ⟨a8, c8, by rw [← HE.out]; rfl, H1.out, HX9.out⟩, HB.out⟩
theorem members_len {s : List TypeP} (hw : schWt s ≤ 1048576) (t : ByteArray) : (typeIn t s).members.length ≤ 1048576 := by
  cases hf : freshB t s with
  | true => rw [typeIn_zero hf]; simp [zeroType]
  | false => exact (tiny_at hw (typeIn_in hf)).2.2.1
theorem fields_len {s : List TypeP} (hw : schWt s ≤ 1048576) (t : ByteArray) : (typeIn t s).fields.length ≤ 1048576 := by
  cases hf : freshB t s with
  | true => rw [typeIn_zero hf]; simp [zeroType]
  | false => exact (tiny_at hw (typeIn_in hf)).2.1

set_option maxHeartbeats 1000000 in
theorem specMembersOf (w : World) (A B : Nat) (v : Value) (s : List TypeP) (t : ByteArray) (htk : OkS t) (hv : SchemaAt w A B v s) (hB : B ≤ w.heap.size) (hw : schWt s ≤ 1048576) :
    Calls Try.prog 19 #[v, .string t] w fun e w' => TextsNew w w' (membersOfP s t) e ∧ Below w.heap.size w w' := by
  have C := Lib.hid (fun o1 => specSchemaRight (w.alloc o1) A B v s (hv.below (C := w.heap.size) hB ((Below.refl _ _).alloc (Nat.le_refl _) o1)) (Nat.le_trans hB (by simp)))
  have C2 : Hid (∀ w', Below w.heap.size w w' → Calls Try.prog 42 #[v, .string t] w' fun e w'' => TextsNew w' w'' (membersM s t) e ∧ Below w'.heap.size w' w'') := Lib.hid fun w' g => specMembers w' A B v s t htk (hv.below hB g) (Nat.le_trans hB g.size) (members_len hw t)
  have HA : Hid (∀ o1, Below w.heap.size w (w.alloc o1)) := Lib.hid fun o1 => (Below.refl _ _).alloc (Nat.le_refl _) o1
  obtain ⟨a, ca, rfl, _, _⟩ := hv
  unfold OkS at htk
  have HP : Hid ((schemaB s = false → membersOfP s t = []) ∧ (schemaB s = true → membersOfP s t = membersM s t) ∧ (8000 < t.size → membersOfP s t = [])) := Lib.hid ⟨membersOfP_no t, fun h => (fresh_members h).trans rfl, membersOfP_big⟩
  generalize membersM s t = mm at *
  generalize membersOfP s t = mo at *
  have hno : Hid (∀ w1 : World, Below w.heap.size w w1 → mo = [] → TextsNew w (w1.alloc (.cells #[] 9)) mo (.returned (.slice (some ⟨w1.heap.size, 0, none⟩) 0 0)) ∧ Below w.heap.size w (w1.alloc (.cells #[] 9))) := Lib.hid fun w1 g e => by
    rw [e]; exact ⟨⟨_, 0, rfl, Nat.le_refl _, RowsX.nil (by have := g.size; simp; omega)⟩, g.alloc g.size _⟩
  go_enter Try.func19, Try.ntmps19
  go_wp2_with fail
  refine (C.out _).mono ?_
  rintro e w1 ⟨rfl, hb1⟩
  have HB1 := Lib.hid ((HA.out _).trans (hb1.mono (HA.out _).size))
  have hk1 := (hb1.block w.heap.size (by simp)).trans (heap_alloc_new w _)
  have ⟨k0, _⟩ := keep1 hk1
  clear hb1 hk1
  cases hsb : schemaB s with
  | false =>
    have HFI := Lib.hid (HP.out.1 hsb)
    clear hsb
    go_wp2_with fail
    go_ret
    exact hno.out _ HB1.out HFI.out
  | true =>
    have HFY := Lib.hid (HP.out.2.1 hsb)
    clear hsb
    by_cases q1 : 8000 < t.size
    · have q1i : (8000 : Int) < (t.size : Int) := by omega
      have HFI := Lib.hid (HP.out.2.2 q1)
      clear q1
      go_wp2_with fail
      go_ret
      exact hno.out _ HB1.out HFI.out
    have q1i : ¬ (8000 : Int) < (t.size : Int) := by omega
    clear q1
    go_wp2_with fail
    refine (C2.out _ HB1.out).mono ?_
    rintro e w2 ⟨⟨a9, c9, rfl, hc9, hx9⟩, hb2⟩
    have HB2 := Lib.hid (HB1.out.trans (hb2.mono HB1.out.size))
    have HX9 := Lib.hid (hx9.wide (A' := w.heap.size) (B' := w2.heap.size) HB1.out.size (Nat.le_refl _))
    have HC9 := Lib.hid hc9
    clear hb2 hx9 hc9
    go_wp2_with fail
    go_ret
    exact ⟨by rw [HFY.out]; exact ⟨a9, c9, rfl, HC9.out, HX9.out⟩, HB2.out⟩
end Go.Proofs.Ytbloedfbpclcoaa.Rw
