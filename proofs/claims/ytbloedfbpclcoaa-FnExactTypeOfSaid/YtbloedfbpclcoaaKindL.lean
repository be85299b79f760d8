/-
  Contracts: impl.MembersOf, spec.l04Members, MembersOf; of what was there nothing is changed. Conditions: in memory, texts of at most 2^20 bytes.
-/
import Derived.Test.YtbloedfbpclcoaaRows
import Derived.Test.YtbloedfbpclcoaaKindK
namespace Go.Proofs.Ytbloedfbpclcoaa.Rw
open Go.RowKit Words Go.Maps
set_option linter.unusedVariables false
set_option maxRecDepth 100000

/-- The objects that something of a type of a right schema may be; none else. -/
noncomputable def membersOfP (s : List TypeP) (t : ByteArray) : List ByteArray := if (schemaB s && !freshB t s) = true then (if (typeIn t s).kind = 2 then [t] else (typeIn t s).members) else []
theorem mMem1 (v : Value) (W : World) : (method 269 119 v "loop.example/g00836/impl.members").run Try.prog W = .ok (106, v) W := by kernel_rfl
theorem mMem2 (v : Value) (W : World) : (method 269 120 v "loop.example/g00836/impl.members").run Try.prog W = .ok (126, v) W := by kernel_rfl
theorem mMem3 (v : Value) (W : World) : (method 269 121 v "loop.example/g00836/impl.members").run Try.prog W = .ok (139, v) W := by kernel_rfl
theorem TextsNew.up {w w1 w' : World} {l : List ByteArray} {e : Ending} (h : TextsNew w1 w' l e) (hz : w.heap.size ≤ w1.heap.size) : TextsNew w w' l e := by
  obtain ⟨a, cap, h1, h2, h3⟩ := h
  exact ⟨a, cap, h1, h2, h3.wide hz (Nat.le_refl _)⟩

set_option maxHeartbeats 2000000 in
theorem implMembersOf (w : World) (A B : Nat) (v : Value) (s : List TypeP) (t : ByteArray) (htk : OkS t) (hv : SchemaAt w A B v s) (hB : B ≤ w.heap.size) (hw : schWt s ≤ 1048576) :
    Calls Try.prog 13 #[v, .string t] w fun e w' => TextsNew w w' (membersOfP s t) e ∧ Below w.heap.size w w' := by
  have C := Lib.hid (fun o1 => implKindNamed (w.alloc o1) A B v s t htk (hv.below (C := w.heap.size) hB ((Below.refl _ _).alloc (Nat.le_refl _) o1)) (Nat.le_trans hB (by simp)))
  have HA : Hid (∀ o1, Below w.heap.size w (w.alloc o1)) := Lib.hid fun o1 => (Below.refl _ _).alloc (Nat.le_refl _) o1
  have HSO := Lib.hid (schema_ok hv)
  obtain ⟨a, ca, rfl, _, _⟩ := hv
  clear htk
  go_enter Try.func13, Try.ntmps13
  go_wp2_with fail
  refine (C.out _).mono ?_
  rintro e w1 ⟨ho, hb1⟩
  have HB1 := Lib.hid ((HA.out _).trans (hb1.mono (HA.out _).size))
  clear hb1
  rcases ho with ⟨hk, lv, rfl, hkv⟩ | ⟨hk, rfl⟩
  · have hfd : membersOfP s t = if (typeIn t s).kind = 2 then [t] else (typeIn t s).members := by unfold membersOfP; rw [if_pos hk]
    have hsB : schemaB s = true := by simp only [Bool.and_eq_true] at hk; exact hk.1
    have hfr : freshB t s = false := by simp only [Bool.and_eq_true] at hk; simpa using hk.2
    obtain ⟨_, hpt, hnt⟩ := right_at hsB hfr
    obtain ⟨ht1, _, ht2, _, htm⟩ := tiny_at hw (typeIn_in hfr)
    obtain ⟨hyk, _, _⟩ := HSO.out _ (typeIn_in hfr)
    generalize typeIn t s = y at *
    obtain ⟨hk3, ka, kca, kc, kcc, rfl, hkt⟩ := hkv
    obtain ⟨fp, hfp⟩ : ∃ p, membersOfP s t = p := ⟨_, rfl⟩
    have CR : Hid ((y.kind = 1 → Calls Try.prog 106 #[.agg (y.cells ka kca kc kcc).toArray] w1 fun e w' => TextsNew w1 w' fp e ∧ Below w1.heap.size w1 w') ∧
        (y.kind = 2 → Calls Try.prog 126 #[.agg (y.cells ka kca kc kcc).toArray] w1 fun e w' => TextsNew w1 w' fp e ∧ Below w1.heap.size w1 w') ∧
        (y.kind = 3 → Calls Try.prog 139 #[.agg (y.cells ka kca kc kcc).toArray] w1 fun e w' => TextsNew w1 w' fp e ∧ Below w1.heap.size w1 w')) := Lib.hid (by
      refine ⟨fun h => ?_, fun h => ?_, fun h => ?_⟩
      · rw [← hfp, hfd, if_neg (by omega), part_members hpt (by omega)]; exact membersM1 w1 y ka kca kc kcc
      · rw [← hfp, hfd, if_pos h, ← hnt]; exact membersM2 w1 y ka kca kc kcc hyk.1 ht1
      · rw [← hfp, hfd, if_neg (by omega)]; exact membersM3 w1 A B y ka kca kc kcc hkt (Nat.le_trans hB HB1.out.size) ht2 htm)
    have HFP := Lib.hid hfp
    generalize hcells : Value.agg (y.cells ka kca kc kcc).toArray = yv at *
    clear hcells hfp hfd hk hkt hpt hfr hsB htm hyk ht1 ht2 hnt
    have m1 := mMem1
    have m2 := mMem2
    have m3 := mMem3
    rcases hk3 with hk3 | hk3 | hk3
    · have e : kindT y.kind = 119 := by rw [hk3]; rfl
      rw [e]
      have C := Lib.hid (CR.out.1 hk3)
      clear hk3 e
      go_wp2_with fail
      refine C.out.mono ?_
      rintro e w2 ⟨hr2, hb2⟩
      have HB2 := Lib.hid (HB1.out.trans (hb2.mono HB1.out.size))
      obtain ⟨a9, c9, rfl, hc9, hx9⟩ := hr2
      have HX9 := Lib.hid (hx9.wide (A' := w.heap.size) (B' := w2.heap.size) HB1.out.size (Nat.le_refl _))
      have HC9 := Lib.hid hc9
      clear hb2 hx9 hc9
      go_wp2_with fail
      go_ret
      exact ⟨⟨a9, c9, by rw [HFP.out]; rfl, by rw [HFP.out]; exact HC9.out, by rw [HFP.out]; exact HX9.out⟩, HB2.out⟩
    · have e : kindT y.kind = 120 := by rw [hk3]; rfl
      rw [e]
      have C := Lib.hid (CR.out.2.1 hk3)
      clear hk3 e
      go_wp2_with fail
      refine C.out.mono ?_
      rintro e w2 ⟨hr2, hb2⟩
      have HB2 := Lib.hid (HB1.out.trans (hb2.mono HB1.out.size))
      obtain ⟨a9, c9, rfl, hc9, hx9⟩ := hr2
      have HX9 := Lib.hid (hx9.wide (A' := w.heap.size) (B' := w2.heap.size) HB1.out.size (Nat.le_refl _))
      have HC9 := Lib.hid hc9
      clear hb2 hx9 hc9
      go_wp2_with fail
      go_ret
      exact ⟨⟨a9, c9, by rw [HFP.out]; rfl, by rw [HFP.out]; exact HC9.out, by rw [HFP.out]; exact HX9.out⟩, HB2.out⟩
    · have e : kindT y.kind = 121 := by rw [hk3]; rfl
      rw [e]
      have C := Lib.hid (CR.out.2.2 hk3)
      clear hk3 e
      go_wp2_with fail
      refine C.out.mono ?_
      rintro e w2 ⟨hr2, hb2⟩
      have HB2 := Lib.hid (HB1.out.trans (hb2.mono HB1.out.size))
      obtain ⟨a9, c9, rfl, hc9, hx9⟩ := hr2
      have HX9 := Lib.hid (hx9.wide (A' := w.heap.size) (B' := w2.heap.size) HB1.out.size (Nat.le_refl _))
      have HC9 := Lib.hid hc9
      clear hb2 hx9 hc9
      go_wp2_with fail
      go_ret
      exact ⟨⟨a9, c9, by rw [HFP.out]; rfl, by rw [HFP.out]; exact HC9.out, by rw [HFP.out]; exact HX9.out⟩, HB2.out⟩
  · have hfd : Hid (membersOfP s t = []) := Lib.hid (by unfold membersOfP; rw [if_neg (by rw [hk]; simp)])
    clear hk
    go_wp2_with fail
    go_ret
    exact ⟨by rw [hfd.out]; exact ⟨none, 0, rfl, Nat.le_refl _, RowsX.nil HB1.out.size⟩, HB1.out⟩

/-! ### the model's -/
theorem fresh_members {s : List TypeP} {t : ByteArray} (h : schemaB s = true) : membersOfP s t = if (typeIn t s).kind = 2 then [t] else (typeIn t s).members := by
  unfold membersOfP
  cases hf : freshB t s with
  | true => rw [typeIn_zero hf, h]; rfl
  | false => rw [h]; rfl
theorem membersOfP_big {s : List TypeP} {t : ByteArray} (ht : 8000 < t.size) : membersOfP s t = [] := by
  unfold membersOfP
  cases h : schemaB s with
  | false => rfl
  | true => rw [fresh_big h ht]; rfl
theorem membersOfP_no {s : List TypeP} (t : ByteArray) (h : schemaB s = false) : membersOfP s t = [] := by unfold membersOfP; rw [h]; rfl
end Go.Proofs.Ytbloedfbpclcoaa.Rw
