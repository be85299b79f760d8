/-
  Whether a number is within limits, plainly; contract: spec.l02Is tells so; nothing is changed. Conditions: numbers of int64.
-/
import Derived.Test.YtlbjnblbjbdaaaaDoorRows
import Derived.Test.YtlbjnblbjbdaaaaDoorBpP
namespace Go.Proofs.YtlbjnblbjbdaaaaDoor.Bnd
open Go.RowKit Rw
set_option linter.unusedVariables false
set_option maxRecDepth 100000

def inB (n lo hi : Int) : Bool := decide (lo ≤ n) && decide (n ≤ hi)
theorem specIn (n lo hi : Int) (hn : OkI n) (hl : OkI lo) (hh : OkI hi) (w : World) :
    Calls Tryd.prog 28 #[.int .i64 n, .int .i64 lo, .int .i64 hi] w fun e w' => e = .returned (.bool (inB n lo hi)) ∧ w = w' := by
  obtain ⟨hn1, hn2⟩ := hn; obtain ⟨hl1, hl2⟩ := hl; obtain ⟨hh1, hh2⟩ := hh
  unfold inB
  go_enter Tryd.func28, Tryd.ntmps28
  by_cases h1 : lo ≤ n
  · by_cases h2 : n ≤ hi
    · go_wp2_with fail
      go_ret
      exact ⟨by simp [h1, h2], by trivial⟩
    · have h2' : hi < n := by omega
      go_wp2_with fail
      go_ret
      exact ⟨by simp [h2], by trivial⟩
  · have h1' : n < lo := by omega
    have h2 : decide (lo ≤ n) = false := by simp [h1]
    go_wp2_with fail
    go_ret
    exact ⟨rfl, by trivial⟩
theorem in_part (n lo hi : Int) : (n < lo ∧ inB n lo hi = false) ∨ (lo ≤ n ∧ hi < n ∧ inB n lo hi = false) ∨ (lo ≤ n ∧ n ≤ hi ∧ inB n lo hi = true) := by
  unfold inB
  by_cases h1 : lo ≤ n
  · by_cases h2 : n ≤ hi
    · exact .inr (.inr ⟨h1, h2, by rw [decide_eq_true h1, decide_eq_true h2]; rfl⟩)
    · exact .inr (.inl ⟨h1, by omega, by rw [decide_eq_true h1, decide_eq_false h2]; rfl⟩)
  · exact .inl ⟨by omega, by rw [decide_eq_false h1, Bool.false_and]⟩
theorem ret_b {a b : Bool} (h : a = b) : Ending.returned (.bool a) = .returned (.bool b) := by rw [h]
end Go.Proofs.YtlbjnblbjbdaaaaDoor.Bnd
