/-
  For every text and every place, laws.FnExactGetText answers true: impl.GetText and spec.GetText answer alike in every field (the card, tied to the program's text). Conditions: none beyond the row's own.
-/
import Derived.Test.YtlncdkeooacebaaDoorCards
import Derived.Test.YtlncdkeooacebaaDoorTie
import Derived.Test.YtlncdkeooacebaaDoorDoor
import Derived.Test.YtlncdkeooacebaaDoorGetText
import Derived.Test.YtlncdkeooacebaaDoorEqText
import Derived.SevenTiedAt
namespace Go.Proofs.YtlncdkeooacebaaDoor.fnExactGetText
open Go.ChangeShapes Go.WideShapes Go.ChangeAt Go.RowKit ErrAs Doors
open Go.ChangeMaps (open_string shut_string)
set_option linter.unusedVariables false

/-- The walk. -/
theorem walk (a0 : ByteArray) (a1 : Int) (w : World) (w0 : a0.size ≤ maxLen) (w1 : (Lit.int .i64 a1).wf = true) (hg : ErrVar w) :
    Calls Tryd.prog 5 #[.string a0, .int .i64 a1] w fun e w' => e = .returned (.bool true) ∧ Below w.heap.size w w' := by
  by_cases hbig : 1048576 < a0.size
  · have hbi : (1048576 : Int) < (a0.size : Int) := by omega
    have hm := w0
    unfold maxLen at hm
    clear w0 w1 hg
    go_enter Tryd.func5, Tryd.ntmps5
    go_wp2_with fail
    go_ret
    exact ⟨rfl, Below.refl _ _⟩
  · have hsm : a0.size ≤ 1048576 := by omega
    have ⟨b0, b1⟩ := bounds_i64 w1
    clear hbig w1
    have HI : Hid (∀ w, ErrVar w → Calls Tryd.prog 15 #[.string a0, .int .i64 a1] w fun e w' => e = .returned (.agg #[.string (GetTexts.readT a0 (Gets.getN a0 a1)).1, .int .i64 (GetTexts.readT a0 (Gets.getN a0 a1)).2.1, .int .i64 (GetTexts.readT a0 (Gets.getN a0 a1)).2.2]) ∧ Below w.heap.size w w') := Lib.hid fun w h => GetTexts.implGetText a0 a1 w0 b0 b1 w h
    have HS : Hid (∀ w, Calls Tryd.prog 18 #[.string a0, .int .i64 a1] w fun e w' => e = .returned (.agg #[.string (GetTexts.readT a0 (Gets.getN a0 a1)).1, .int .i64 (GetTexts.readT a0 (Gets.getN a0 a1)).2.1, .int .i64 (GetTexts.readT a0 (Gets.getN a0 a1)).2.2]) ∧ Below w.heap.size w w') := Lib.hid fun w => GetTexts.specGetText a0 a1 w0 b0 b1 w
    generalize GetTexts.readT a0 (Gets.getN a0 a1) = r at HI HS
    obtain ⟨t, b, c⟩ := r
    dsimp only at HI HS
    have HG := Lib.hid hg
    clear hg
    go_enter Tryd.func5, Tryd.ntmps5
    go_wp2_with fail
    refine (HS.out _).mono ?_
    rintro e w1 ⟨rfl, hb1⟩
    have hz1 := hb1.size
    have HG2 := Lib.hid ((HG.out.below hb1).below ((Below.refl _ w1).alloc (Nat.le_refl _) (.cells #[.string t, .int .i64 b, .int .i64 c] 31)))
    go_wp2_with fail
    refine (HI.out _ HG2.out).mono ?_
    rintro e w2 ⟨rfl, hb2⟩
    have hb2' := hb2.mono (Nat.le_of_eq (by simp : w1.heap.size + 1 = _))
    have ⟨⟨c0, c1, c2⟩, f0, f1, f2⟩ := Gets.keep3 hb2'
    have hz2 : w1.heap.size < w2.heap.size := by have := hb2'.size; simp at this; omega
    go_wp2_with fail
    refine (EqText.same t b c _).mono ?_
    rintro e w3 ⟨rfl, hb3⟩
    have hB : Below w.heap.size w w3 := (hb1.alloc hz1 _).trans ((hb2.mono (by simp; omega)).trans (((Below.refl _ w2).alloc (Nat.le_refl _) _).mono (by omega) |>.trans (hb3.mono (by simp; omega))))
    go_wp2_with fail
    go_ret
    exact ⟨rfl, hB⟩

set_option maxRecDepth 100000 in
theorem reads (os : Os) {H : Type} (enc : TypeId × Value → H) : ∃ places, DataW.whole enc Tryd.prog ((laidWorld os).forCall (fun _ _ => 0) ⟨#[], #[.string ByteArray.empty, .int .i64 0], []⟩).memory Tryd.f5.params.toList Rows.fnExactGetTextSpec.vars false #[.string ByteArray.empty, .int .i64 0].toList 8 = some ([.lit (.string []), .lit (.int .i64 0)], [], places) :=
  ⟨[], by kernel_rfl⟩

set_option maxRecDepth 100000 in
theorem contract (H : Type) (enc : TypeId × Value → H) (W : World) (base : Nat) (args : Array Value) (ds gs : List (DataW H)) (before : List MemPlace)
    (hval0 : ∀ (j : Nat) t v, Tryd.f5.params[j]? = some t → args[j]? = some v → Value.okWide Tryd.prog W .any base t v)
    (hW : DataW.Whole enc Tryd.prog Tryd.f5.params.toList Rows.fnExactGetTextSpec.vars false W args.toList ds gs before) (hL : laidMetH Tryd.prog Rows.fnExactGetTextRow.laid W) :
    Calls Tryd.prog 5 args W fun e W' => ∃ v, e = .returned v ∧ Rows.fnExactGetTextSpec.post enc Tryd.prog Tryd.f5 false true false false W args v W' := by
  have hval : ∀ (j : Nat) t v, Tryd.f5.params[j]? = some t → args[j]? = some v → Value.okWide Tryd.prog W .any base t v := hval0
  have hW' := hW
  obtain ⟨p, q, hA0, hV, rfl, hfz, hnd⟩ := hW
  have hA : DataW.TrodAll enc Tryd.prog W 0 (fun _ => true) true Tryd.f5.params.toList args.toList ds p := hA0
  rw [Tryd.params5] at hA hval
  obtain ⟨v0, vs0, d0, ds0, p0, q0, hargs, rfl, rfl, h0, r0⟩ := trodAll_cons hA
  obtain ⟨v1, vs1, d1, ds1, p1, q1, rfl, rfl, rfl, h1, r1⟩ := trodAll_cons r0
  obtain ⟨rfl, rfl, rfl⟩ := trodAll_nil r1
  obtain rfl : args = #[v0, v1] := by cases args; simp_all
  obtain ⟨rfl, rfl⟩ := trodVars_none hV
  obtain ⟨a0, rfl, rfl, rfl, w0⟩ := open_string Tryd.underlying9 (hval 0 9 v0 rfl rfl) h0
  obtain ⟨a1, rfl, rfl, rfl, w1⟩ := open_int Tryd.underlying2 (hval 1 2 v1 rfl rfl) h1
  have hg : ErrVar W := errVar hL
  clear hA0 hval0
  refine (walk a0 a1 W w0 w1 hg).mono fun e W' ⟨he, bel⟩ => ?_
  subst he
  exact ⟨_, rfl, _, _, _, [], _, [], hW', trodAll_mk1 (shut_bool Tryd.underlying4 _), (trodAll_cons_mk (shut_string Tryd.underlying9 w0) (trodAll_cons_mk (shut_int Tryd.underlying2 w1) trodAll_mk0)), rfl, bel.frame _, fun h => by cases h⟩

set_option maxRecDepth 100000 in
theorem lifted (os : Os) (started : os.Started) (H : Type) (enc : TypeId × Value → H) (F : Stop.Interp) :
    ReturnsInHanded {} Tryd.checked os 5 .any ((OpenSpec.ofChange Rows.fnExactGetTextSpec).preRow enc Tryd.prog Tryd.f5 Rows.fnExactGetTextRow.domain false Rows.fnExactGetTextRow.laid) (((OpenSpec.ofChange Rows.fnExactGetTextSpec).at F).post enc Tryd.prog Tryd.f5 false true false false) := by
  obtain ⟨places, hx⟩ := reads os enc
  refine returnsInHanded_of_row (C := Tryd.checked) (s := OpenSpec.ofChange Rows.fnExactGetTextSpec) own started (by kernel_rfl) Tryd.func5
    (witness_row_at (enc := enc) (C := Tryd.checked) false (laidWorld os) #[.string ByteArray.empty, .int .i64 0] rfl (by kernel_rfl) (by kernel_rfl) (by kernel_rfl)
      (OpenSpec.preRow_of_cond 8 hx (by kernel_rfl) (fun k hk => by cases hk) (by kernel_rfl) (laid_met os _))) ?_
  intro W base args ds gs before hval hW _ _ _ hL _ _
  exact contract H enc W base args ds gs before hval hW hL

theorem said : Rows.FnExactGetTextSaid :=
  OpenClaim.holds_of_cond 5 Tryd.f5 rfl rfl rfl rfl rfl rfl rfl ⟨rfl, rfl, rfl, rfl, rfl⟩ rfl rfl rfl rfl rfl (by kernel_rfl) Tryd.func5 (by kernel_rfl)
    (of_decide_eq_true (by kernel_rfl)) (by unfold Func.isWrapper; first | (rw [if_pos (by decide +kernel)]; kernel_rfl) | (rw [if_neg (by decide +kernel)]; exact ⟨rfl, rfl⟩))
    (fun os started H enc _ F => by rw [OpenClaim.pre_eq_preRow]; exact lifted os started H enc F)

theorem plain (f : FuncId) (fn : Func) (hf : Tryd.pinned.checked.prog.funcNamed "loop.example/g00836/laws.FnExactGetText" = some f) (hfn : Tryd.pinned.checked.prog.funcs[f]? = some fn) :
    true = Tryd.pinned.checked.prog.looks [] ∧ ∀ (j : Nat) t, fn.params[j]? = some t → Tryd.pinned.checked.prog.wantsStandIn t = false := by
  obtain rfl : f = 5 := Option.some.inj ((show Tryd.prog.funcNamed "loop.example/g00836/laws.FnExactGetText" = some 5 by kernel_rfl).symm.trans hf) |>.symm
  obtain rfl : fn = Tryd.f5 := (Option.some.inj (Tryd.func5.symm.trans hfn)).symm
  refine ⟨by kernel_rfl, fun j t ht => ?_⟩
  rw [Tryd.params5] at ht
  have hm := Array.mem_of_getElem? ht
  simp only [List.mem_toArray, List.mem_cons, List.not_mem_nil, or_false] at hm
  rcases hm with rfl | rfl
  · exact (show Tryd.prog.wantsStandIn 9 = false by kernel_rfl)
  · exact (show Tryd.prog.wantsStandIn 2 = false by kernel_rfl)

/-- The given statement. -/
theorem proved : Rows.FnExactGetTextCardSaid :=
  Claim7.holds_tied_plain_at .later [] _ _ _ _ said (fun _ h => by cases h) (by kernel_rfl) (fun _ h => by cases h) fnExactGetText_row_tie rfl ⟨rfl, rfl⟩ (by kernel_rfl) rfl plain (by kernel_rfl)
#print axioms proved
end Go.Proofs.YtlncdkeooacebaaDoor.fnExactGetText
