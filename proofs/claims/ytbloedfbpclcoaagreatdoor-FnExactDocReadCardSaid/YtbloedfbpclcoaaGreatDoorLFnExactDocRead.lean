/-
  The walk of laws.FnExactDocRead: it answers true; of what was there nothing is changed. Conditions: the library's variables hold what the program lays.
-/
/-
  For every text, laws.FnExactDocRead answers true: impl.DocRead and spec.DocRead answer alike, in memory of the call's own. Conditions: none beyond the row's own.
-/
import Derived.Test.YtbloedfbpclcoaaGreatDoorRows
import Derived.Test.YtbloedfbpclcoaaGreatDoorModDocB
import Derived.Test.YtbloedfbpclcoaaGreatDoorImplRead
import Derived.Test.YtbloedfbpclcoaaGreatDoorDocLaw
import Derived.Test.YtbloedfbpclcoaaGreatDoorCards
import Derived.Test.YtbloedfbpclcoaaGreatDoorTie
import Derived.Test.YtbloedfbpclcoaaGreatDoorDoorZ
import Derived.SevenTiedAt
namespace Go.Proofs.YtbloedfbpclcoaaGreatDoor.Selss
open Go.RowKit Words Decs Splits
set_option linter.unusedVariables false
set_option maxRecDepth 100000

set_option maxHeartbeats 4000000 in
theorem docReadLaw (w : World) (a0 : ByteArray) (w0 : a0.size ≤ maxLen) (h0 : Decs.Vars w.heap.size w) :
    Calls Tryz.prog 4 #[.string a0] w fun e w' => e = .returned (.bool true) ∧ Below w.heap.size w w' := by
  have HG := Lib.hid h0
  clear h0
  unfold maxLen at w0
  by_cases hbig : 1048576 < a0.size
  · have hbi : (1048576 : Int) < (a0.size : Int) := by omega
    go_enter Tryz.func4, Tryz.ntmps4
    go_wp2_with fail
    go_ret
    exact ⟨rfl, Below.refl _ _⟩
  have hs : a0.size ≤ 1048576 := by omega
  have hsi : (a0.size : Int) ≤ 1048576 := by omega
  clear hbig
  go_enter Tryz.func4, Tryz.ntmps4
  go_wp2_with fail
  refine (specDocRead a0 hs w).mono ?_
  rintro e w1 ⟨s0, s1, rfl, hb1, hx1⟩
  obtain ⟨d, hd⟩ : ∃ d, (outP a0).1 = d := ⟨_, rfl⟩
  obtain ⟨c, hc⟩ : ∃ c, (outP a0).2 = c := ⟨_, rfl⟩
  have HCO : Hid (OkI c) := Lib.hid (by rw [← hc]; exact outP_code a0)
  have HNUM : Hid (1 + docNum d ≤ 900000) := Lib.hid (by rw [← hd]; exact outP_num a0)
  rw [hd] at hx1
  rw [hc]
  obtain ⟨xa1, xca1, xb1, xcb1, rfl, rfl⟩ := docX_slices hx1
  have HD := Lib.hid hd
  have HC := Lib.hid hc
  have HX1 := Lib.hid hx1
  have hA1 : Below w1.heap.size w1 (w1.alloc (.cells #[.slice xa1 d.sels.len xca1, .slice xb1 d.frags.length xcb1, .int .i64 c] 31)) := (Below.refl _ _).alloc (Nat.le_refl _) _
  have HB1 := Lib.hid (hb1.trans (hA1.mono hb1.size))
  have HN1 := Lib.hid (heap_alloc_new w1 (.cells #[.slice xa1 d.sels.len xca1, .slice xb1 d.frags.length xcb1, .int .i64 c] 31))
  have HX1a := Lib.hid (HX1.out.below (Nat.le_refl _) hA1)
  have hz1 := hb1.size
  have hz1a : (w1.alloc (.cells #[.slice xa1 d.sels.len xca1, .slice xb1 d.frags.length xcb1, .int .i64 c] 31)).heap.size = w1.heap.size + 1 := by simp
  clear hb1 hx1 hd hc hA1
  go_wp2_with fail
  refine (implDocRead a0 hs (w1.alloc (.cells #[.slice xa1 d.sels.len xca1, .slice xb1 d.frags.length xcb1, .int .i64 c] 31)) w.heap.size (HG.out.on HB1.out) (by omega)).mono ?_
  rintro e w2 ⟨s0, s1, rfl, hb2, hx2⟩
  rw [HD.out] at hx2
  rw [HC.out]
  obtain ⟨xa2, xca2, xb2, xcb2, rfl, rfl⟩ := docX_slices hx2
  have HX2 := Lib.hid hx2
  have HB2 := Lib.hid (HB1.out.trans (hb2.mono HB1.out.size))
  have HN2 := Lib.hid ((hb2.block w1.heap.size (by omega)).trans HN1.out)
  have HX12 := Lib.hid (HX1a.out.below (by omega) hb2)
  have hz2 := hb2.size
  have hA2 : Below w2.heap.size w2 (w2.alloc (.cells #[.slice xa2 d.sels.len xca2, .slice xb2 d.frags.length xcb2, .int .i64 c] 31)) := (Below.refl _ _).alloc (Nat.le_refl _) _
  have HB3 := Lib.hid (HB2.out.trans (hA2.mono HB2.out.size))
  have HN3 := Lib.hid ((hA2.block w1.heap.size (by omega)).trans HN2.out)
  have HM3 := Lib.hid (heap_alloc_new w2 (.cells #[.slice xa2 d.sels.len xca2, .slice xb2 d.frags.length xcb2, .int .i64 c] 31))
  have HX13 := Lib.hid (HX12.out.below (by omega) hA2)
  have HX23 := Lib.hid (HX2.out.below (Nat.le_refl _) hA2)
  have hz3 : (w2.alloc (.cells #[.slice xa2 d.sels.len xca2, .slice xb2 d.frags.length xcb2, .int .i64 c] 31)).heap.size = w2.heap.size + 1 := by simp
  clear hb2 hx2 hA2 HN1 HX1a HB1 HN2 HX12 HB2
  rw [hz1a] at *
  have ⟨⟨n0, n1, n2⟩, _⟩ := keep3 HN3.out
  go_wp2_with fail
  clear n0 n1 n2
  generalize w2.alloc (.cells #[.slice xa2 d.sels.len xca2, .slice xb2 d.frags.length xcb2, .int .i64 c] 31) = w3 at *
  refine (eqDocOut w3 0 w3.heap.size _ _ _ _ d c HCO.out (HX23.out.doc.wide (Nat.zero_le _) (by omega)) (HX13.out.doc.wide (Nat.zero_le _) (by omega)) (Nat.le_refl _)).mono ?_
  rintro e w4 ⟨rfl, hb4⟩
  have HB4 := Lib.hid (HB3.out.trans (hb4.mono HB3.out.size))
  have hn4 := (hb4.block w1.heap.size (by omega)).trans HN3.out
  have hm4 := (hb4.block w2.heap.size (by omega)).trans HM3.out
  have HX14 := Lib.hid (HX13.out.below (by omega) hb4)
  have HX24 := Lib.hid (HX23.out.below (by omega) hb4)
  have hz4 := hb4.size
  have HN4 := Lib.hid hn4
  have HM4 := Lib.hid hm4
  have ⟨⟨m0, m1, m2⟩, _⟩ := keep3 hm4
  clear hb4 hn4 hm4 HB3 HN3 HM3 HX13 HX23
  go_wp2_with fail
  refine (markDocOut w4 (w1.heap.size + 1) w2.heap.size _ _ d c 1 HX24.out (by omega) (Nat.le_refl _) HNUM.out).mono ?_
  rintro e w5 ⟨rfl, hx5, hw5⟩
  obtain ⟨q, hq⟩ : ∃ q : Int, ((1 + docNum d : Nat) : Int) = q := ⟨_, rfl⟩
  have hq0 : 0 ≤ q := by omega
  rw [hq]
  have HQ := Lib.hid hq
  have HX5 := Lib.hid hx5
  have hz5 := hw5.size
  have HB5 : Hid (Below w.heap.size w w5) := Lib.hid (HB4.out.trans (hw5.below (C := w.heap.size) (by omega) (by omega)))
  have HN5 := Lib.hid ((hw5.block w1.heap.size (by omega) (.inl (Nat.lt_succ_self _))).trans HN4.out)
  have HM5 := Lib.hid ((hw5.block w2.heap.size (by omega) (.inr (Nat.le_refl _))).trans HM4.out)
  have HX15 := Lib.hid (HX14.out.block (w' := w5) fun q q1 q2 => hw5.block q (by omega) (.inl (by omega)))
  have ⟨⟨r0, r1, r2⟩, _⟩ := keep3 HM5.out
  clear hq hx5 hw5 m0 m1 m2 HB4 HN4 HM4 HX14 HX24
  go_wp2_with fail
  refine (heldDocOut w5 (w1.heap.size + 1) w2.heap.size _ _ d c 1 HX5.out.doc (by omega) (Nat.le_refl _) HNUM.out).mono ?_
  rintro e w6 ⟨rfl, hb6⟩
  rw [HQ.out]
  have hz6 := hb6.size
  have HB6 := Lib.hid (HB5.out.trans (hb6.mono HB5.out.size))
  have HN6 := Lib.hid ((hb6.block w1.heap.size (by omega)).trans HN5.out)
  have HM6 := Lib.hid ((hb6.block w2.heap.size (by omega)).trans HM5.out)
  have HX16 := Lib.hid (HX15.out.below (by omega) hb6)
  have HX56 := Lib.hid (HX5.out.below (by omega) hb6)
  clear hb6 r0 r1 r2 HB5 HN5 HM5 HX15 HX5
  go_wp2_with fail
  refine (implDocRead a0 hs w6 w.heap.size (HG.out.on HB6.out) (by omega)).mono ?_
  rintro e w7 ⟨s0, s1, rfl, hb7, hx7⟩
  rw [HD.out] at hx7
  rw [HC.out]
  obtain ⟨xa3, xca3, xb3, xcb3, rfl, rfl⟩ := docX_slices hx7
  have hz7 := hb7.size
  have HX7 := Lib.hid hx7
  have hA7 : Below w7.heap.size w7 (w7.alloc (.cells #[.slice xa3 d.sels.len xca3, .slice xb3 d.frags.length xcb3, .int .i64 c] 31)) := (Below.refl _ _).alloc (Nat.le_refl _) _
  have HB8 := Lib.hid ((HB6.out.trans (hb7.mono HB6.out.size)).trans (hA7.mono (by omega)))
  have HN8 := Lib.hid ((hA7.block w1.heap.size (by omega)).trans ((hb7.block w1.heap.size (by omega)).trans HN6.out))
  have HM8 := Lib.hid ((hA7.block w2.heap.size (by omega)).trans ((hb7.block w2.heap.size (by omega)).trans HM6.out))
  have HX18 := Lib.hid ((HX16.out.below (by omega) hb7).below (C := w7.heap.size) (by omega) hA7)
  have HX58 := Lib.hid ((HX56.out.below (by omega) hb7).below (C := w7.heap.size) (by omega) hA7)
  have HX78 := Lib.hid (HX7.out.below (Nat.le_refl _) hA7)
  have hz8 : (w7.alloc (.cells #[.slice xa3 d.sels.len xca3, .slice xb3 d.frags.length xcb3, .int .i64 c] 31)).heap.size = w7.heap.size + 1 := by simp
  have ⟨⟨n0, n1, n2⟩, _⟩ := keep3 HN8.out
  clear hb7 hx7 hA7 HB6 HN6 HM6 HX16 HX56 HX7
  go_wp2_with fail
  clear n0 n1 n2
  generalize w7.alloc (.cells #[.slice xa3 d.sels.len xca3, .slice xb3 d.frags.length xcb3, .int .i64 c] 31) = w8 at *
  refine (eqDocOut w8 0 w8.heap.size _ _ _ _ d c HCO.out (HX78.out.doc.wide (Nat.zero_le _) (by omega)) (HX18.out.doc.wide (Nat.zero_le _) (by omega)) (Nat.le_refl _)).mono ?_
  rintro e w9 ⟨rfl, hb9⟩
  have hz9 := hb9.size
  have HB9 := Lib.hid (HB8.out.trans (hb9.mono HB8.out.size))
  have HM9 := Lib.hid ((hb9.block w2.heap.size (by omega)).trans HM8.out)
  have HX59 := Lib.hid (HX58.out.below (by omega) hb9)
  have ⟨⟨m0, m1, m2⟩, _⟩ := keep3 HM9.out
  clear hb9 HB8 HN8 HM8 HX18 HX58 HX78
  go_wp2_with fail
  refine (heldDocOut w9 (w1.heap.size + 1) w2.heap.size _ _ d c 1 HX59.out.doc (by omega) (Nat.le_refl _) HNUM.out).mono ?_
  rintro e w10 ⟨rfl, hb10⟩
  rw [HQ.out]
  have HB10 := Lib.hid (HB9.out.trans (hb10.mono HB9.out.size))
  clear hb10 m0 m1 m2 HB9 HM9 HX59
  go_wp2_with fail
  go_ret
  exact ⟨rfl, HB10.out⟩
end Go.Proofs.YtbloedfbpclcoaaGreatDoor.Selss

namespace Go.Proofs.YtbloedfbpclcoaaGreatDoor.fnExactDocRead
open Go.ChangeShapes Go.WideShapes Go.ChangeAt Go.RowKit Doors
open Go.ChangeMaps (open_string shut_string)
open Selss
set_option linter.unusedVariables false

set_option maxRecDepth 100000 in
/-- The walk. -/
theorem walk (a0 : ByteArray) (w : World) (w0 : a0.size ≤ maxLen) (h0 : Decs.Vars w.heap.size w) :
    Calls Tryz.prog 4 #[.string a0] w fun e w' => e = .returned (.bool true) ∧ Below w.heap.size w w' := by
  exact docReadLaw w a0 w0 h0

set_option maxRecDepth 100000 in
theorem reads (os : Os) {H : Type} (enc : TypeId × Value → H) : ∃ places, DataW.whole enc Tryz.prog ((laidWorld os).forCall (fun _ _ => 0) ⟨#[], #[.string ByteArray.empty], []⟩).memory Tryz.f4.params.toList Rows.fnExactDocReadSpec.vars false #[.string ByteArray.empty].toList 8 = some ([.lit (.string [])], [], places) :=
  ⟨[], by kernel_rfl⟩
set_option maxRecDepth 100000 in
theorem contract (H : Type) (enc : TypeId × Value → H) (W : World) (base : Nat) (args : Array Value) (ds gs : List (DataW H)) (before : List MemPlace)
    (hval0 : ∀ (j : Nat) t v, Tryz.f4.params[j]? = some t → args[j]? = some v → Value.okWide Tryz.prog W .any base t v)
    (hW : DataW.Whole enc Tryz.prog Tryz.f4.params.toList Rows.fnExactDocReadSpec.vars false W args.toList ds gs before) (hL : laidMetH Tryz.prog Rows.fnExactDocReadRow.laid W) (hSh : W.ShapedOpen Tryz.prog) :
    Calls Tryz.prog 4 args W fun e W' => ∃ v, e = .returned v ∧ Rows.fnExactDocReadSpec.post enc Tryz.prog Tryz.f4 false true false false W args v W' := by
  have hval : ∀ (j : Nat) t v, Tryz.f4.params[j]? = some t → args[j]? = some v → Value.okWide Tryz.prog W .any base t v := hval0
  have hW' := hW
  obtain ⟨p, q, hA0, hV, rfl, hfz, hnd⟩ := hW
  have hA : DataW.TrodAll enc Tryz.prog W 0 (fun _ => true) true Tryz.f4.params.toList args.toList ds p := hA0
  rw [Tryz.params4] at hA hval
  obtain ⟨v0, vs0, d0, ds0, p0, q0, hargs, rfl, rfl, h0, r0⟩ := trodAll_cons hA
  obtain ⟨rfl, rfl, rfl⟩ := trodAll_nil r0
  obtain rfl : args = #[v0] := by cases args; simp_all
  obtain ⟨rfl, rfl⟩ := trodVars_none hV
  have k0 := h0
  have lt0 : ∀ x ∈ p0, x.block < W.heap.size := by obtain ⟨m, hm⟩ := k0; exact DataW.trod_lt m _ _ _ hm
  obtain ⟨a0, rfl, _, _, w0⟩ := open_string Tryz.underlying9 (hval 0 9 v0 rfl rfl) h0
  clear hA0 hval0
  refine (walk a0 W w0 (Doors.vars hL hSh)).mono fun e W' ⟨he, bel⟩ => ?_
  subst he
  exact ⟨_, rfl, _, _, _, [], _, [], hW', trodAll_mk1 (shut_bool Tryz.underlying4 _), (trodAll_cons_mk (Below.trod laidOut (by kernel_rfl) (of_decide_eq_true (by kernel_rfl)) k0 bel lt0) trodAll_mk0), rfl, bel.frame _, fun h => by cases h⟩

set_option maxRecDepth 100000 in
theorem lifted (os : Os) (started : os.Started) (H : Type) (enc : TypeId × Value → H) (F : Stop.Interp) :
    ReturnsInHanded {} Tryz.checked os 4 .any ((OpenSpec.ofChange Rows.fnExactDocReadSpec).preRow enc Tryz.prog Tryz.f4 Rows.fnExactDocReadRow.domain false Rows.fnExactDocReadRow.laid) (((OpenSpec.ofChange Rows.fnExactDocReadSpec).at F).post enc Tryz.prog Tryz.f4 false true false false) := by
  obtain ⟨places, hx⟩ := reads os enc
  refine returnsInHanded_of_row (C := Tryz.checked) (s := OpenSpec.ofChange Rows.fnExactDocReadSpec) own started (by kernel_rfl) Tryz.func4
    (witness_row_at (enc := enc) (C := Tryz.checked) false (laidWorld os) #[.string ByteArray.empty] rfl (by kernel_rfl) (by kernel_rfl) (by kernel_rfl)
      (OpenSpec.preRow_of_cond 8 hx (by kernel_rfl) (fun k hk => by cases hk) (by kernel_rfl) (laid_met os _))) ?_
  intro W base args ds gs before hval hW _ _ _ hL hSh _
  exact contract H enc W base args ds gs before hval hW hL hSh

theorem said : Rows.FnExactDocReadSaid :=
  OpenClaim.holds_of_cond 4 Tryz.f4 rfl rfl rfl rfl rfl rfl rfl ⟨rfl, rfl, rfl, rfl, rfl⟩ rfl rfl rfl rfl rfl (by kernel_rfl) Tryz.func4 (by kernel_rfl)
    (of_decide_eq_true (by kernel_rfl)) (by unfold Func.isWrapper; first | (rw [if_pos (by decide +kernel)]; kernel_rfl) | (rw [if_neg (by decide +kernel)]; exact ⟨rfl, rfl⟩))
    (fun os started H enc _ F => by rw [OpenClaim.pre_eq_preRow]; exact lifted os started H enc F)

theorem plain (f : FuncId) (fn : Func) (hf : Tryz.pinned.checked.prog.funcNamed "loop.example/g00836/laws.FnExactDocRead" = some f) (hfn : Tryz.pinned.checked.prog.funcs[f]? = some fn) :
    true = Tryz.pinned.checked.prog.looks [] ∧ ∀ (j : Nat) t, fn.params[j]? = some t → Tryz.pinned.checked.prog.wantsStandIn t = false := by
  obtain rfl : f = 4 := Option.some.inj ((show Tryz.prog.funcNamed "loop.example/g00836/laws.FnExactDocRead" = some 4 by kernel_rfl).symm.trans hf) |>.symm
  obtain rfl : fn = Tryz.f4 := (Option.some.inj (Tryz.func4.symm.trans hfn)).symm
  refine ⟨by kernel_rfl, fun j t ht => ?_⟩
  rw [Tryz.params4] at ht
  have hm := Array.mem_of_getElem? ht
  simp only [List.mem_toArray, List.mem_cons, List.not_mem_nil, or_false] at hm
  subst hm
  · exact (show Tryz.prog.wantsStandIn 9 = false by kernel_rfl)

/-- The given statement. -/
theorem proved : Rows.FnExactDocReadCardSaid :=
  Claim7.holds_tied_plain_at .later [] _ _ _ _ said (fun _ h => by cases h) (by kernel_rfl) (fun _ h => by cases h) fnExactDocRead_row_tie rfl ⟨rfl, rfl⟩ (by kernel_rfl) rfl plain (by kernel_rfl)
#print axioms proved
end Go.Proofs.YtbloedfbpclcoaaGreatDoor.fnExactDocRead
