/-
  Contract: impl.Loops tells the name of the Frag that comes first to spread itself; of what was there nothing is changed. Conditions: in memory; the library's variable errors.errorType holds the handle of the type error.
-/
import Derived.Test.YthdncjdopejkkaaDoorRows
import Derived.Test.YthdncjdopejkkaaDoorLoopsW
namespace Go.Proofs.YthdncjdopejkkaaDoor.Selss
open Go.RowKit Words
set_option linter.unusedVariables false
set_option maxRecDepth 100000

theorem implLoops (w : World) (A B : Nat) (v : Value) (d : DocP) (hs : DocAt w A B v d) (hB : B ≤ w.heap.size) (hg : ErrW.ErrVar w) :
    Calls Tryd.prog 8 #[v] w fun e w' => e = .returned (.string (loopsD d)) ∧ Below w.heap.size w w' := by
  have CL : Hid (∀ w' : World, Below w.heap.size w w' → Calls Tryd.prog 19 #[v] w' fun e w'' => (∃ v', e = .returned v' ∧ LoopOut d v') ∧ Below w'.heap.size w' w'') := Lib.hid fun w' h => implLoopOf w' A B v d (hs.below hB h) (Nat.le_trans hB h.size)
  obtain ⟨a, ca, b, cb, rfl, _, _⟩ := hs
  have HG := Lib.hid hg
  have HA : Hid (∀ o, Below w.heap.size w (w.alloc o)) := Lib.hid fun o => (Below.refl _ _).alloc (Nat.le_refl _) o
  clear hg
  go_enter Tryd.func8, Tryd.ntmps8
  go_wp2_with fail
  refine (CL.out _ (HA.out _)).mono ?_
  rintro e w1 ⟨⟨v1, rfl, ho⟩, hb1⟩
  have HB1 := Lib.hid ((HA.out _).trans (hb1.mono (HA.out _).size))
  clear hb1
  have fin : ∀ (x : ByteArray) (c : Int), loopsD d = x → Calls Tryd.prog 18 #[v1] w1 (fun en w' => en = .returned (.agg #[.string x, .int .i64 c]) ∧ Below w1.heap.size w1 w') → ∃ (x : ByteArray) (c : Int), loopsD d = x ∧ Calls Tryd.prog 18 #[v1] w1 (fun en w' => en = .returned (.agg #[.string x, .int .i64 c]) ∧ Below w1.heap.size w1 w') := fun x c h1 h2 => ⟨x, c, h1, h2⟩
  obtain ⟨x, c, hx, hc⟩ : ∃ (x : ByteArray) (c : Int), loopsD d = x ∧ Calls Tryd.prog 18 #[v1] w1 (fun en w' => en = .returned (.agg #[.string x, .int .i64 c]) ∧ Below w1.heap.size w1 w') := by
    rcases ho with ⟨hd, rfl⟩ | ⟨hd, ⟨x, hx, hn, hok, h8, rfl⟩ | ⟨hn, he, rfl⟩⟩
    · exact fin _ 1 (loopsD_no hd) (ErrW.validForm w1 (HG.out.below HB1.out))
    · exact fin x.name 7 ((loopsD_yes hd).trans hn) (ErrW.validThere (.leaf (.there x.name)) x.name rfl (by omega) w1 (HG.out.below HB1.out))
    · exact fin _ 0 ((loopsD_yes hd).trans he) (ErrW.validNil w1)
  have HX := Lib.hid hx
  have HC := Lib.hid hc
  clear hx hc ho fin
  go_wp2_with fail
  refine HC.out.mono ?_
  rintro e w2 ⟨rfl, hb2⟩
  have HB2 := Lib.hid (HB1.out.trans (hb2.mono HB1.out.size))
  clear hb2
  have fw := field_what
  go_wp2_with fail
  go_ret
  exact ⟨ret_s HX.out.symm, HB2.out⟩
end Go.Proofs.YthdncjdopejkkaaDoor.Selss
