/-
  Contract: strconv.FormatInt at base 10 answers the digits of a number; of what was there nothing is changed. Condition: the library's table of powers of ten reads as the program lays it.
-/
import Derived.Test.YtnkknfnndoegpaaGreatDoorRows
import Derived.Test.YtnkknfnndoegpaaGreatDoorDec
import Derived.Test.YtnkknfnndoegpaaGreatDoorShelf
import Derived.Lib.AppendIntMem
namespace Go.Proofs.YtnkknfnndoegpaaGreatDoor.Decs
open Go.RowKit
set_option linter.unusedVariables false

/-- The table of powers of ten reads as it is laid, and goes on so whatever is written from block B on. -/
def Pow (B : Nat) (w : World) : Prop := Lib.TabBelow Tryz.prog B w "internal/strconv.uint64pow10" .u64 Lib.pow10Tab
theorem Pow.on {B : Nat} {w w1 : World} (h : Pow B w) (hb : Below B w w1) : Pow B w1 := Lib.TabBelow.on h hb
theorem Pow.mono {B C : Nat} {w : World} (h : Pow B w) (hB : B ≤ C) : Pow C w := fun w' hb => h w' (hb.mono hB)
theorem Pow.over {B : Nat} {w w1 : World} (h : Pow B w) (hB : B ≤ w.heap.size) (hb : Below w.heap.size w w1) : Pow B w1 := h.on (hb.mono hB)

theorem Pow.new {w w1 : World} (h : Pow w.heap.size w) (hb : Below w.heap.size w w1) : Pow w1.heap.size w1 := (h.on hb).mono hb.size

theorem decDigits_decL : ∀ (n m : Nat), n < m → Lib.decDigits n = decL n := by
  intro n m
  induction m generalizing n with
  | zero => intro h; omega
  | succ m ih =>
    intro h
    rw [Lib.decDigits]
    by_cases hn : n < 10
    · rw [dif_pos hn, decL_small hn]
    · rw [dif_neg hn, decL_big (by omega), ih (n / 10) (by omega)]
theorem itoa_decB (f : Int) : (⟨(Lib.itoa f).toArray⟩ : ByteArray) = decB f := by
  unfold Lib.itoa decB
  by_cases h : f < 0
  · rw [if_pos h, if_pos h, decDigits_decL _ _ (Nat.lt_succ_self _)]; rfl
  · rw [if_neg h, if_neg h, decDigits_decL _ _ (Nat.lt_succ_self _), show f.natAbs = f.toNat by omega]; rfl

theorem fmtInt (f : Int) (h0 : -9223372036854775808 ≤ f) (h1 : f ≤ 9223372036854775807) (B : Nat) (w : World) (hp : Pow B w) :
    Calls Tryz.prog 96 #[.int .i64 f, .int .i64 10] w fun e w' => e = .returned (.string (decB f)) ∧ Below w.heap.size w w' := by
  refine (Tryz.strconv_FormatInt_10 f h0 h1 w (Lib.TabBelow.here hp)).mono ?_
  rintro e w' ⟨rfl, k, os, rfl⟩
  exact ⟨ret_string (itoa_decB f), Lib.below_grow _ w (Nat.le_refl _) k os⟩
end Go.Proofs.YtnkknfnndoegpaaGreatDoor.Decs
