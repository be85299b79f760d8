/-
  What the law on numbers with a top wants of the plain ones, as contracts of both sides at four numbers. Conditions: numbers of int64.
-/
import Derived.Test.YtmmhelkgcmeakaaRows
import Derived.Test.YtmmhelkgcmeakaaSatSum
import Derived.Test.YtmmhelkgcmeakaaDrawSat
namespace Go.Proofs.Ytmmhelkgcmeakaa.SatLaw
open Go.RowKit SatMath Sats
set_option linter.unusedVariables false

/-- A call at two numbers answers r, at whatever world. -/
def At (f : FuncId) (x y r : Int) : Prop := ∀ w, Calls Try.prog f #[.int .i64 x, .int .i64 y] w fun e w' => e = .returned (.int .i64 r) ∧ w = w'
def Fits (x : Int) : Prop := -9223372036854775808 ≤ x ∧ x ≤ 9223372036854775807
theorem implAdd {x y : Int} (hx : Fits x) (hy : Fits y) : At 13 x y (add x y) := fun w => implSatAdd x y hx.1 hx.2 hy.1 hy.2 w
theorem specAdd {x y : Int} (hx : Fits x) (hy : Fits y) : At 16 x y (add x y) := fun w => specSatAdd x y hx.1 hx.2 hy.1 hy.2 w
theorem implMul {x y : Int} (hx : Fits x) (hy : Fits y) : At 14 x y (mul x y) := fun w => implSatMul x y hx.1 hx.2 hy.1 hy.2 w
theorem specMul {x y : Int} (hx : Fits x) (hy : Fits y) : At 17 x y (mul x y) := fun w => specSatMul x y hx.1 hx.2 hy.1 hy.2 w
theorem implMax {x y : Int} (hx : Fits x) (hy : Fits y) : At 19 x y (big x y) := fun w => implSatMax x y hx.1 hx.2 hy.1 hy.2 w
theorem specMax {x y : Int} (hx : Fits x) (hy : Fits y) : At 20 x y (big x y) := fun w => specSatMax x y hx.1 hx.2 hy.1 hy.2 w
theorem fits_add (x y : Int) : Fits (add x y) := ⟨by have := add_lo x y; omega, by have := add_hi x y; omega⟩
/-- The answers that the law compares, and what holds of them. -/
structure Facts (a b c d : Int) : Prop where
  ex : ∃ X Y M U V P1 P2 S1 S2 : Int,
    (0 ≤ X ∧ X ≤ 1000000000 ∧ 0 ≤ Y ∧ Y ≤ 1000000000 ∧ M ≤ X ∧ (c < d → P1 ≤ P2 ∧ S1 ≤ S2)) ∧
    At 13 a b X ∧ At 16 a b X ∧ At 13 b a X ∧
    At 14 c d Y ∧ At 17 c d Y ∧ At 14 d c Y ∧
    At 19 a b M ∧ At 20 a b M ∧
    At 13 X c U ∧ At 13 b c V ∧ At 13 a V U ∧
    At 14 a c P1 ∧ At 14 a d P2 ∧ At 13 a c S1 ∧ At 13 a d S2
theorem facts {a b c d : Int} (ha : Fits a) (hb : Fits b) (hc : Fits c) (hd : Fits d) : Facts a b c d :=
  ⟨add a b, mul c d, big a b, add (add a b) c, add b c, mul a c, mul a d, add a c, add a d,
    ⟨add_lo _ _, add_hi _ _, mul_lo' _ _, mul_hi' _ _, big_le_add _ _, fun h => ⟨mul_le _ (by omega), add_le _ (by omega)⟩⟩,
    implAdd ha hb, specAdd ha hb, add_comm b a ▸ implAdd hb ha, implMul hc hd, specMul hc hd, mul_comm d c ▸ implMul hd hc, implMax ha hb, specMax ha hb,
    implAdd (fits_add a b) hc, implAdd hb hc, add_assoc a b c ▸ implAdd ha (fits_add b c), implMul ha hc, implMul ha hd, implAdd ha hc, implAdd ha hd⟩
theorem sumOf_range (l : List Int) : 0 ≤ sumOf l ∧ sumOf l ≤ 1000000000 := by
  unfold sumOf
  split
  · exact ⟨by omega, by omega⟩
  · exact ⟨sum_lo l, sum_hi l⟩
end Go.Proofs.Ytmmhelkgcmeakaa.SatLaw
