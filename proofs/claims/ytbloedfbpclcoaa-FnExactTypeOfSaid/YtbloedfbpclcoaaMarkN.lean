/-
  Contracts: laws.markType, heldType; of what was there nothing else is changed. Conditions: apart in memory, marks from 1 to 9 000 000.
-/
import Derived.Test.YtbloedfbpclcoaaRows
import Derived.Test.YtbloedfbpclcoaaMarkM
namespace Go.Proofs.Ytbloedfbpclcoaa.Rw
open Go.RowKit Decs
set_option linter.unusedVariables false
set_option maxRecDepth 100000

/-- What a type holds, with marks from k on. -/
def withinMark (x : TypeP) (k : Nat) : TypeP := ⟨x.name, x.kind, x.bytes, fieldsMark x.fields k, textsMark x.members (k + 6 * x.fields.length)⟩
def withinNum (x : TypeP) : Nat := 6 * x.fields.length + x.members.length

theorem markType (w : World) (A B : Nat) (v : Value) (x : TypeP) (k : Nat) (hs : TypeX w A B v x) (hB : B ≤ w.heap.size) (h1 : 1 ≤ k) (hk : k + withinNum x ≤ 9000000) :
    Calls Try.prog 27 #[v, .int .i64 k] w fun e w' => e = .returned (.int .i64 ((k + withinNum x : Nat) : Int)) ∧ TypeX w' A B v (withinMark x k) ∧ Within A B w w' := by
  obtain ⟨a, ca, c, cc, M, rfl, hok, ⟨hf, hfc⟩, ⟨hm, hmc⟩⟩ := hs
  obtain ⟨nm, kd, by_, fs, ms⟩ := x
  unfold withinNum at hk ⊢
  simp only [TypeP.cells] at hf hfc hm hmc hk ⊢
  have HF := Lib.hid hf
  have HM := Lib.hid hm
  have eAM := hf.2.2.1
  have eMB := hm.2.2.1
  have hlf := hf.2.1
  have hlm := hm.2.1
  have HA : Hid (∀ o, Below w.heap.size w (w.alloc o)) := Lib.hid fun o => (Below.refl _ _).alloc (Nat.le_refl _) o
  clear hf hm
  go_enter Try.func27, Try.ntmps27
  go_wp2_with fail
  refine (markFieldS _ A M a _ ca fs k (HF.out.below fieldLies (Nat.le_trans eMB hB) (HA.out _)) (by have := (HA.out (.cells #[.string nm, .int .i64 kd, .int .i64 by_, .slice a fs.length ca, .slice c ms.length cc] 38)).size; omega) h1 (by omega)).mono ?_
  rintro e w1 ⟨rfl, hf1, hw1⟩
  have hk1 : w1.heap[w.heap.size]? = some (.cells #[.string nm, .int .i64 kd, .int .i64 by_, .slice a fs.length ca, .slice c ms.length cc] 38 (0, 0)) := (hw1.block w.heap.size (by simp) (.inr (by omega))).trans (heap_alloc_new w _)
  have ⟨⟨y0, y1, y2, y3, y4⟩, _⟩ := keep5 hk1
  have HF1 := Lib.hid hf1
  have HW1 := Lib.hid ((Within.of_below (A := A) (B := M) (HA.out _)).trans hw1)
  clear hf1 hw1 hk1
  go_wp2_with fail
  refine (markStringS _ M B c _ cc ms (k + 6 * fs.length) (HM.out.block textLies fun q q1 q2 => HW1.out.block q (by omega) (.inr q1)) (by have := HW1.out.size; omega) (by omega) (by omega)).mono ?_
  rintro e w2 ⟨rfl, hm2, hw2⟩
  have HX2 : Hid (TypeX w2 A B (.agg #[.string nm, .int .i64 kd, .int .i64 by_, .slice a fs.length ca, .slice c ms.length cc]) (withinMark ⟨nm, kd, by_, fs, ms⟩ k)) := Lib.hid ⟨a, ca, c, cc, M, by simp [TypeP.cells, withinMark, fieldsMark_len, textsMark_len], hok, ⟨by
      rw [show (withinMark ⟨nm, kd, by_, fs, ms⟩ k).fields = fieldsMark fs k from rfl, fieldsMark_len]
      exact HF1.out.block fieldLies fun q q1 q2 => hw2.block q (by have := HW1.out.size; omega) (.inl q2), by
      rw [show (withinMark ⟨nm, kd, by_, fs, ms⟩ k).fields = fieldsMark fs k from rfl, fieldsMark_len]; exact hfc⟩, by
      rw [show (withinMark ⟨nm, kd, by_, fs, ms⟩ k).members = textsMark ms (k + 6 * fs.length) from rfl, textsMark_len]
      exact hm2, by
      rw [show (withinMark ⟨nm, kd, by_, fs, ms⟩ k).members = textsMark ms (k + 6 * fs.length) from rfl, textsMark_len]; exact hmc⟩
  have HW2 := Lib.hid ((HW1.out.wide (Nat.le_refl _) eMB).trans (hw2.wide eAM (Nat.le_refl _)))
  clear hm2 hw2
  go_wp2_with fail
  go_ret
  exact ⟨ret_i (by omega), HX2.out, HW2.out⟩

theorem heldType (w : World) (A B : Nat) (v : Value) (x : TypeP) (k : Nat) (hs : TypeAt w A B v (withinMark x k)) (hB : B ≤ w.heap.size) (h1 : 1 ≤ k) (hk : k + withinNum x ≤ 9000000) :
    Calls Try.prog 28 #[v, .int .i64 k] w fun e w' => e = .returned (.int .i64 ((k + withinNum x : Nat) : Int)) ∧ Below w.heap.size w w' := by
  obtain ⟨a, ca, c, cc, rfl, hok, ⟨hf, hfc⟩, ⟨hm, hmc⟩⟩ := hs
  obtain ⟨nm, kd, by_, fs, ms⟩ := x
  unfold withinNum at hk ⊢
  simp only [TypeP.cells, withinMark, fieldsMark_len, textsMark_len] at hf hfc hm hmc hk ⊢
  have HF := Lib.hid hf
  have HM := Lib.hid hm
  have hlf := hf.2.1
  have hlm := hm.2.1
  have HA : Hid (∀ o, Below w.heap.size w (w.alloc o)) := Lib.hid fun o => (Below.refl _ _).alloc (Nat.le_refl _) o
  clear hf hm
  go_enter Try.func28, Try.ntmps28
  go_wp2_with fail
  refine (heldFieldS _ A B a _ ca fs k (HF.out.below fieldLies hB (HA.out _)) (Nat.le_trans hB (HA.out _).size) h1 (by omega)).mono ?_
  rintro e w1 ⟨rfl, hb1⟩
  have hk1 : w1.heap[w.heap.size]? = some (.cells #[.string nm, .int .i64 kd, .int .i64 by_, .slice a fs.length ca, .slice c ms.length cc] 38 (0, 0)) := (hb1.block w.heap.size (by simp)).trans (heap_alloc_new w _)
  have ⟨⟨y0, y1, y2, y3, y4⟩, _⟩ := keep5 hk1
  have HB1 := Lib.hid ((HA.out _).trans (hb1.mono (HA.out _).size))
  clear hb1 hk1
  go_wp2_with fail
  refine (heldStringS _ A B c _ cc ms (k + 6 * fs.length) (HM.out.below textLies hB HB1.out) (Nat.le_trans hB HB1.out.size) (by omega) (by omega)).mono ?_
  rintro e w2 ⟨rfl, hb2⟩
  have HB2 := Lib.hid (HB1.out.trans (hb2.mono HB1.out.size))
  clear hb2
  go_wp2_with fail
  go_ret
  exact ⟨ret_i (by omega), HB2.out⟩
end Go.Proofs.Ytbloedfbpclcoaa.Rw
