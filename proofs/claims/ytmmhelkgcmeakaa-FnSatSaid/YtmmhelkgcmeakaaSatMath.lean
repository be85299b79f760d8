/-
  The plain numbers with a top: cut, sum, product, the greater one, the sum of a list; no program. Conditions: none.
-/
import Derived.Test.YtmmhelkgcmeakaaRows
namespace Go.Proofs.Ytmmhelkgcmeakaa.SatMath
set_option linter.unusedVariables false

/-- What n counts as. -/
def cut (n : Int) : Int := if n < 0 then 0 else if 1000000000 < n then 1000000000 else n
theorem cut_lo (n : Int) : 0 ≤ cut n := by unfold cut; split <;> (try split) <;> omega
theorem cut_hi (n : Int) : cut n ≤ 1000000000 := by unfold cut; split <;> (try split) <;> omega
theorem cut_id {n : Int} (h0 : 0 ≤ n) (h1 : n ≤ 1000000000) : cut n = n := by unfold cut; split <;> (try split) <;> omega
theorem cut_le {n m : Int} (h : n ≤ m) : cut n ≤ cut m := by unfold cut; repeat' split
                                                             all_goals omega
theorem cut_min {n : Int} (h0 : 0 ≤ n) : min n 1000000000 = cut n := by unfold cut; split <;> (try split) <;> omega
theorem cut_minmax (n : Int) : min (max n 0) 1000000000 = cut n := by unfold cut; split <;> (try split) <;> omega

def add (a b : Int) : Int := cut (cut a + cut b)
def mul (a b : Int) : Int := cut (cut a * cut b)
def big (a b : Int) : Int := max (cut a) (cut b)
theorem mul_lo (a b : Int) : 0 ≤ cut a * cut b := Int.mul_nonneg (cut_lo a) (cut_lo b)
theorem mul_hi (a b : Int) : cut a * cut b ≤ 1000000000000000000 := by
  have h := Int.mul_le_mul (cut_hi a) (cut_hi b) (cut_lo b) (by omega : (0 : Int) ≤ 1000000000)
  omega
theorem add_lo (a b : Int) : 0 ≤ add a b := cut_lo _
theorem add_hi (a b : Int) : add a b ≤ 1000000000 := cut_hi _
theorem mul_lo' (a b : Int) : 0 ≤ mul a b := cut_lo _
theorem mul_hi' (a b : Int) : mul a b ≤ 1000000000 := cut_hi _
theorem add_comm (a b : Int) : add a b = add b a := by unfold add; rw [Int.add_comm]
theorem mul_comm (a b : Int) : mul a b = mul b a := by unfold mul; rw [Int.mul_comm]
theorem big_le_add (a b : Int) : big a b ≤ add a b := by
  have := cut_lo a; have := cut_lo b; have := cut_hi a; have := cut_hi b
  unfold big add
  generalize cut a = x at *
  generalize cut b = y at *
  unfold cut
  repeat' split
  all_goals omega
theorem add_assoc (a b c : Int) : add (add a b) c = add a (add b c) := by
  have := cut_lo a; have := cut_lo b; have := cut_lo c
  have e : ∀ a b : Int, cut (add a b) = min (cut a + cut b) 1000000000 := fun a b => by
    rw [cut_id (add_lo a b) (add_hi a b)]
    exact (cut_min (by have := cut_lo a; have := cut_lo b; omega)).symm
  have e' : ∀ a b : Int, add a b = min (cut a + cut b) 1000000000 := fun a b => (cut_min (by have := cut_lo a; have := cut_lo b; omega)).symm
  rw [e' (add a b) c, e' a (add b c), e a b, e b c]
  omega
theorem mul_le {c d : Int} (a : Int) (h : c ≤ d) : mul a c ≤ mul a d :=
  cut_le (Int.mul_le_mul_of_nonneg_left (cut_le h) (cut_lo a))
theorem add_le {c d : Int} (a : Int) (h : c ≤ d) : add a c ≤ add a d :=
  cut_le (by have := cut_le h; omega)
def sum (l : List Int) : Int := l.foldl add 0
theorem sum_snoc (l : List Int) (x : Int) : sum (l ++ [x]) = add (sum l) x := by unfold sum; rw [List.foldl_append]; rfl
theorem sum_lo (l : List Int) : 0 ≤ sum l := by
  rcases List.eq_nil_or_concat l with rfl | ⟨k, x, rfl⟩
  · exact Int.le_refl _
  · rw [List.concat_eq_append, sum_snoc]; exact add_lo _ _
theorem sum_hi (l : List Int) : sum l ≤ 1000000000 := by
  rcases List.eq_nil_or_concat l with rfl | ⟨k, x, rfl⟩
  · show (0 : Int) ≤ 1000000000; omega
  · rw [List.concat_eq_append, sum_snoc]; exact add_hi _ _
theorem sum_cut (l : List Int) : cut (sum l) = sum l := cut_id (sum_lo l) (sum_hi l)
theorem sum_take {l : List Int} {k : Nat} (h : k < l.length) : sum (l.take (k + 1)) = add (sum (l.take k)) l[k] := by
  rw [List.take_succ_eq_append_getElem h, sum_snoc]
/-- What a list counts: nothing, if it is too long. -/
def sumOf (l : List Int) : Int := if 400 < l.length then 0 else sum l
end Go.Proofs.Ytmmhelkgcmeakaa.SatMath
