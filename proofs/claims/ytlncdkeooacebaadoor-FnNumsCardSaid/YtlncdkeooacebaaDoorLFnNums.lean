/-
  For every two inputs, laws.FnNums answers true: a number that was written is read back at its place, and without its last byte it is too short; so for texts (the card, tied to the program's text). Conditions: none beyond the row's own.
-/
import Derived.Test.YtlncdkeooacebaaDoorCards
import Derived.Test.YtlncdkeooacebaaDoorTie
import Derived.Test.YtlncdkeooacebaaDoorDoor
import Derived.Test.YtlncdkeooacebaaDoorDrawE
import Derived.Test.YtlncdkeooacebaaDoorNumsMath
import Derived.SevenTiedAt
namespace Go.Proofs.YtlncdkeooacebaaDoor.fnNums
open Go.ChangeShapes Go.WideShapes Go.ChangeAt Go.RowKit ErrAs Doors
open Go.ChangeMaps (open_string shut_string)
set_option linter.unusedVariables false

/-- A slice of bytes that came in: it is nil; or it leads to a row of 'cap' cells, the numbers 'zs', each a byte. -/
def IsRow (k : IntKind) (w : World) (a : Option Addr) (len cap : Nat) (zs : List Int) : Prop :=
  (a = none ∧ len = 0 ∧ cap = 0 ∧ zs = []) ∨
  ∃ x, a = some x ∧ len ≤ cap ∧ cap ≤ maxLen ∧ zs.length = cap ∧ (∀ i, i < zs.length → w.cell? (x.add i) = some (.int k (zs.getD i 0))) ∧ ∀ n ∈ zs, (Lit.int k n).wf = true
set_option maxRecDepth 100000 in
set_option maxHeartbeats 3200000 in
/-- The walk. -/
theorem walk (a0 : Option Addr) (len0 cap0 : Nat) (z0 : List Int) (a1 : Option Addr) (len1 cap1 : Nat) (z1 : List Int) (w : World) (w0 : IsRow .u8 w a0 len0 cap0 z0) (w1 : IsRow .u8 w a1 len1 cap1 z1) (hg : ErrVar w) :
    Calls Tryd.prog 3 #[.slice a0 len0 cap0, .slice a1 len1 cap1] w fun e w' => e = .returned (.bool true) ∧ Below w.heap.size w w' := by
  have B0 := Lib.hid (Draws.BytesAt.of_row w0)
  have B1 := Lib.hid (Draws.BytesAt.of_row w1)
  have HG := Lib.hid hg
  clear w0 w1 hg
  by_cases hbig : 1048576 < len0
  · have hbi : (1048576 : Int) < (len0 : Int) := by omega
    go_enter Tryd.func3, Tryd.ntmps3
    go_wp2_with fail
    go_ret
    exact ⟨rfl, Below.refl _ _⟩
  have hbi : (len0 : Int) ≤ 1048576 := by omega
  by_cases hbig1 : 1048576 < len1
  · have hbi1 : (1048576 : Int) < (len1 : Int) := by omega
    clear hbig
    go_enter Tryd.func3, Tryd.ntmps3
    go_wp2_with fail
    go_ret
    exact ⟨rfl, Below.refl _ _⟩
  have hbi1 : (len1 : Int) ≤ 1048576 := by omega
  clear hbig hbig1
  go_enter Tryd.func3, Tryd.ntmps3
  go_wp2_with fail
  refine (Draws.drawPutNum _ len0 cap0 a0 B0.out (by omega)).mono ?_
  rintro e w2 ⟨⟨n, rfl, hn0, hn1⟩, hb2⟩
  have HB2 := Lib.hid hb2
  clear hb2
  go_wp2_with fail
  refine (Nums.implPutNum n hn0 hn1 _).mono ?_
  rintro e w3 ⟨rfl, hb3⟩
  have HB3 := Lib.hid (HB2.out.trans (hb3.mono HB2.out.size))
  clear hb3
  go_wp2_with fail
  refine (Nums.specPutNum n hn0 hn1 _).mono ?_
  rintro e w4 ⟨rfl, hb4⟩
  have HB4 := Lib.hid (HB3.out.trans (hb4.mono HB3.out.size))
  clear hb4
  have hpos := NumsMath.put_pos n
  have h10 := PutTexts.putB_size n
  have HNI : Hid (Gets.getN (⟨#[120, 121]⟩ ++ NumMath.putB n ++ ⟨#[122]⟩) 2 = (n, ((NumMath.putB n).size : Int) + 2, 0)) := Lib.hid (NumsMath.num_in hn0 hn1 rfl (by decide))
  have HNC : Hid (∀ k, k + 1 = (NumMath.putB n).size → Gets.getN ((NumMath.putB n).extract 0 k) 0 = (0, 0, 4)) := Lib.hid fun k hk => NumsMath.num_cut hn0 hn1 hk
  generalize NumMath.putB n = T at *
  obtain ⟨k, hk⟩ : ∃ k, k + 1 = T.size := ⟨T.size - 1, by omega⟩
  have hki : (T.size : Int) - 1 = (k : Int) := by omega
  have HCI : Hid (∀ W, ErrVar W → Calls Tryd.prog 11 #[.string (⟨#[120, 121]⟩ ++ T ++ ⟨#[122]⟩), .int .i64 2] W fun e w' => e = .returned (.agg #[.int .i64 n, .int .i64 ((T.size : Int) + 2), .int .i64 0]) ∧ Below W.heap.size W w') := Lib.hid fun W h => by
    have hz : (⟨#[120, 121]⟩ ++ T ++ ⟨#[122]⟩ : ByteArray).size = T.size + 3 := by
      rw [ByteArray.size_append, ByteArray.size_append]; show 2 + T.size + 1 = _; omega
    have h2 := Gets.implGetNum (⟨#[120, 121]⟩ ++ T ++ ⟨#[122]⟩) 2 (by unfold maxLen; omega) (by omega) (by omega) W h
    rw [HNI.out] at h2; exact h2
  have HCC : Hid (∀ W, ErrVar W → Calls Tryd.prog 11 #[.string (T.extract 0 k), .int .i64 0] W fun e w' => e = .returned (.agg #[.int .i64 0, .int .i64 0, .int .i64 4]) ∧ Below W.heap.size W w') := Lib.hid fun W h => by
    have h2 := Gets.implGetNum (T.extract 0 k) 0 (by unfold maxLen; rw [ByteArray.size_extract]; omega) (by omega) (by omega) W h
    rw [HNC.out k hk] at h2; exact h2
  clear HNI HNC
  go_wp2_with fail
  refine (HCI.out _ (HG.out.below HB4.out)).mono ?_
  rintro e w5 ⟨rfl, hb5⟩
  have HB5 := Lib.hid (HB4.out.trans (hb5.mono HB4.out.size))
  clear hb5
  have HB5' := Lib.hid (HB5.out.alloc HB5.out.size (.cells #[.int .i64 n, .int .i64 ((T.size : Int) + 2), .int .i64 0] 26))
  go_wp2_with fail
  refine (HCC.out _ (HG.out.below HB5'.out)).mono ?_
  rintro e w6 ⟨rfl, hb6⟩
  have HB6 := Lib.hid (HB5'.out.trans (hb6.mono HB5'.out.size))
  clear hb6 HCI HCC
  go_wp2_with fail
  rewrite [NumsMath.field_num]
  go_wp2_with fail
  refine (Draws.drawPutText _ len1 cap1 a1 ((B1.out.below HB6.out).mono HB6.out.size) (by omega)).mono ?_
  rintro e w7 ⟨⟨u, rfl, hu⟩, hb7⟩
  have HB7 := Lib.hid (HB6.out.trans (hb7.mono HB6.out.size))
  clear hb7
  go_wp2_with fail
  refine (PutTexts.implPutText u (by unfold maxLen; omega) _).mono ?_
  rintro e w8 ⟨rfl, hb8⟩
  have HB8 := Lib.hid (HB7.out.trans (hb8.mono HB7.out.size))
  clear hb8
  go_wp2_with fail
  refine (PutTexts.specPutText u (by unfold maxLen; omega) _).mono ?_
  rintro e w9 ⟨rfl, hb9⟩
  have HB9 := Lib.hid (HB8.out.trans (hb9.mono HB8.out.size))
  clear hb9
  by_cases h8 : 8000 < u.size
  · rw [PutTexts.putTextB_no h8]
    go_wp2_with fail
    refine (PutTexts.specPutText u (by unfold maxLen; omega) _).mono ?_
    rintro e w10 ⟨rfl, hb10⟩
    have HB10 := Lib.hid (HB9.out.trans (hb10.mono HB9.out.size))
    rw [PutTexts.putTextB_no h8]
    go_wp2_with fail
    go_ret
    exact ⟨rfl, HB10.out⟩
  have hpz : (NumMath.putB (u.size : Int) ++ u).size = (NumMath.putB (u.size : Int)).size + u.size := by simp
  have hp0 := NumsMath.put_pos (u.size : Int)
  have hp10 := PutTexts.putB_size (u.size : Int)
  have HTI : Hid ((NumMath.putB (u.size : Int) ++ u).size + 1 ≤ 8000 → GetTexts.readT (⟨#[120]⟩ ++ (NumMath.putB u.size ++ u)) (Gets.getN (⟨#[120]⟩ ++ (NumMath.putB u.size ++ u)) 1) = (u, ((NumMath.putB u.size ++ u).size : Int) + 1, 0)) := Lib.hid fun h => NumsMath.text_in rfl h
  have HTC : Hid (∀ k, (NumMath.putB (u.size : Int) ++ u).size + 1 ≤ 8000 → k + 1 = (NumMath.putB (u.size : Int) ++ u).size → GetTexts.readT ((NumMath.putB u.size ++ u).extract 0 k) (Gets.getN ((NumMath.putB u.size ++ u).extract 0 k) 0) = (⟨#[]⟩, 0, 4)) := Lib.hid fun k h hk => NumsMath.text_cut h hk
  have hpp : 0 < (NumMath.putB (u.size : Int) ++ u).size := by omega
  have hpm : (NumMath.putB (u.size : Int) ++ u).size ≤ 8010 := by omega
  rw [PutTexts.putTextB_yes (by omega)]
  clear hpz hp0 hp10
  generalize NumMath.putB (u.size : Int) ++ u = P at HTI HTC hpp hpm ⊢
  have hne : (P.toList == []) = false := by
    rw [beq_eq_false_iff_ne]; intro h
    rw [Lib.toList_data] at h
    have h2 : P.data.toList.length = 0 := by rw [h]; rfl
    have h3 : P.data.toList.length = P.size := by rw [Array.length_toList]; rfl
    omega
  have hne2 : P.toList.isEmpty = false := by
    cases hh : P.toList with
    | nil => rw [hh] at hne; exact absurd hne (by decide)
    | cons x y => rfl
  by_cases hb : P.size + 1 ≤ 8000
  · have hbi : (P.size : Int) + 1 ≤ 8000 := by omega
    obtain ⟨q, hq⟩ : ∃ q, q + 1 = P.size := ⟨P.size - 1, by omega⟩
    have hqi : (P.size : Int) - 1 = (q : Int) := by omega
    have HCI : Hid (∀ W, ErrVar W → Calls Tryd.prog 15 #[.string (⟨#[120]⟩ ++ P), .int .i64 1] W fun e w' => e = .returned (.agg #[.string u, .int .i64 ((P.size : Int) + 1), .int .i64 0]) ∧ Below W.heap.size W w') := Lib.hid fun W h => by
      have hz : (⟨#[120]⟩ ++ P : ByteArray).size = P.size + 1 := by
        rw [ByteArray.size_append]; show 1 + P.size = _; omega
      have h2 := GetTexts.implGetText (⟨#[120]⟩ ++ P) 1 (by unfold maxLen; omega) (by omega) (by omega) W h
      rw [HTI.out hb] at h2; exact h2
    have HCC : Hid (∀ W, ErrVar W → Calls Tryd.prog 15 #[.string (P.extract 0 q), .int .i64 0] W fun e w' => e = .returned (.agg #[.string ⟨#[]⟩, .int .i64 0, .int .i64 4]) ∧ Below W.heap.size W w') := Lib.hid fun W h => by
      have h2 := GetTexts.implGetText (P.extract 0 q) 0 (by unfold maxLen; rw [ByteArray.size_extract]; omega) (by omega) (by omega) W h
      rw [HTC.out q hb hq] at h2; exact h2
    clear HTI HTC hpm h8
    go_wp2_with fail
    refine (HCI.out _ (HG.out.below HB9.out)).mono ?_
    rintro e w10 ⟨rfl, hb10⟩
    have HB10 := Lib.hid (HB9.out.trans (hb10.mono HB9.out.size))
    clear hb10
    go_wp2_with fail
    refine (HCC.out _ (HG.out.below HB10.out)).mono ?_
    rintro e w11 ⟨rfl, hb11⟩
    have HB11 := Lib.hid (HB10.out.trans (hb11.mono HB10.out.size))
    clear hb11
    go_wp2_with fail
    rewrite [NumsMath.field_text]
    go_wp2_with fail
    go_ret
    exact ⟨rfl, HB11.out⟩
  · have hbi : (8000 : Int) < (P.size : Int) + 1 := by omega
    have hpmi : (P.size : Int) ≤ 8010 := by omega
    clear HTI HTC hpm h8
    go_wp2_with fail
    go_ret
    exact ⟨rfl, HB9.out⟩

set_option maxRecDepth 100000 in
theorem reads (os : Os) {H : Type} (enc : TypeId × Value → H) : ∃ places, DataW.whole enc Tryd.prog ((laidWorld os).forCall (fun _ _ => 0) ⟨#[], #[.slice none 0 0, .slice none 0 0], []⟩).memory Tryd.f3.params.toList Rows.fnNumsSpec.vars false #[.slice none 0 0, .slice none 0 0].toList 8 = some ([.nil, .nil], [], places) :=
  ⟨[], by kernel_rfl⟩

set_option maxRecDepth 100000 in
theorem contract (H : Type) (enc : TypeId × Value → H) (W : World) (base : Nat) (args : Array Value) (ds gs : List (DataW H)) (before : List MemPlace)
    (hval0 : ∀ (j : Nat) t v, Tryd.f3.params[j]? = some t → args[j]? = some v → Value.okWide Tryd.prog W .any base t v)
    (hW : DataW.Whole enc Tryd.prog Tryd.f3.params.toList Rows.fnNumsSpec.vars false W args.toList ds gs before) (hL : laidMetH Tryd.prog Rows.fnNumsRow.laid W) :
    Calls Tryd.prog 3 args W fun e W' => ∃ v, e = .returned v ∧ Rows.fnNumsSpec.post enc Tryd.prog Tryd.f3 false true false false W args v W' := by
  have hval : ∀ (j : Nat) t v, Tryd.f3.params[j]? = some t → args[j]? = some v → Value.okWide Tryd.prog W .any base t v := hval0
  have hW' := hW
  obtain ⟨p, q, hA0, hV, rfl, hfz, hnd⟩ := hW
  have hA : DataW.TrodAll enc Tryd.prog W 0 (fun _ => true) true Tryd.f3.params.toList args.toList ds p := hA0
  rw [Tryd.params3] at hA hval
  obtain ⟨v0, vs0, d0, ds0, p0, q0, hargs, rfl, rfl, h0, r0⟩ := trodAll_cons hA
  obtain ⟨v1, vs1, d1, ds1, p1, q1, rfl, rfl, rfl, h1, r1⟩ := trodAll_cons r0
  obtain ⟨rfl, rfl, rfl⟩ := trodAll_nil r1
  obtain rfl : args = #[v0, v1] := by cases args; simp_all
  obtain ⟨rfl, rfl⟩ := trodVars_none hV
  obtain ⟨a0, len0, cap0, rfl⟩ := okWide_slice Tryd.underlying22 (hval 0 22 v0 rfl rfl)
  have k0 := h0
  have lt0 : ∀ x ∈ p0, x.block < W.heap.size := by obtain ⟨m, hm⟩ := k0; exact DataW.trod_lt m _ _ _ hm
  obtain ⟨z0, w0⟩ : ∃ zs, IsRow .u8 W a0 len0 cap0 zs := by
    obtain ⟨fuel, hf⟩ := h0
    rcases open_ints Tryd.underlying22 Tryd.underlying5 (by kernel_rfl) hf with ⟨hcs, _⟩ | ⟨x, l, c, zs, hcs, _, hl, hm, hz, _, hcell, hwz⟩
    · simp [Value.cells] at hcs
      obtain ⟨rfl, rfl, rfl⟩ := hcs
      exact ⟨[], .inl ⟨rfl, rfl, rfl, rfl⟩⟩
    · simp [Value.cells] at hcs
      obtain ⟨rfl, rfl, rfl⟩ := hcs
      exact ⟨zs, .inr ⟨_, rfl, hl, hm, by simpa using hz, hcell, hwz⟩⟩
  obtain ⟨a1, len1, cap1, rfl⟩ := okWide_slice Tryd.underlying22 (hval 1 22 v1 rfl rfl)
  have k1 := h1
  have lt1 : ∀ x ∈ p1, x.block < W.heap.size := by obtain ⟨m, hm⟩ := k1; exact DataW.trod_lt m _ _ _ hm
  obtain ⟨z1, w1⟩ : ∃ zs, IsRow .u8 W a1 len1 cap1 zs := by
    obtain ⟨fuel, hf⟩ := h1
    rcases open_ints Tryd.underlying22 Tryd.underlying5 (by kernel_rfl) hf with ⟨hcs, _⟩ | ⟨x, l, c, zs, hcs, _, hl, hm, hz, _, hcell, hwz⟩
    · simp [Value.cells] at hcs
      obtain ⟨rfl, rfl, rfl⟩ := hcs
      exact ⟨[], .inl ⟨rfl, rfl, rfl, rfl⟩⟩
    · simp [Value.cells] at hcs
      obtain ⟨rfl, rfl, rfl⟩ := hcs
      exact ⟨zs, .inr ⟨_, rfl, hl, hm, by simpa using hz, hcell, hwz⟩⟩
  have hg : ErrVar W := errVar hL
  clear hA0 hval0
  refine (walk a0 len0 cap0 z0 a1 len1 cap1 z1 W w0 w1 hg).mono fun e W' ⟨he, bel⟩ => ?_
  subst he
  exact ⟨_, rfl, _, _, _, [], _, [], hW', trodAll_mk1 (shut_bool Tryd.underlying4 _), (trodAll_cons_mk (Below.trod laidOut (by kernel_rfl) (of_decide_eq_true (by kernel_rfl)) k0 bel lt0) (trodAll_cons_mk (Below.trod laidOut (by kernel_rfl) (of_decide_eq_true (by kernel_rfl)) k1 bel lt1) trodAll_mk0)), rfl, bel.frame _, fun h => by cases h⟩

set_option maxRecDepth 100000 in
theorem lifted (os : Os) (started : os.Started) (H : Type) (enc : TypeId × Value → H) (F : Stop.Interp) :
    ReturnsInHanded {} Tryd.checked os 3 .any ((OpenSpec.ofChange Rows.fnNumsSpec).preRow enc Tryd.prog Tryd.f3 Rows.fnNumsRow.domain false Rows.fnNumsRow.laid) (((OpenSpec.ofChange Rows.fnNumsSpec).at F).post enc Tryd.prog Tryd.f3 false true false false) := by
  obtain ⟨places, hx⟩ := reads os enc
  refine returnsInHanded_of_row (C := Tryd.checked) (s := OpenSpec.ofChange Rows.fnNumsSpec) own started (by kernel_rfl) Tryd.func3
    (witness_row_at (enc := enc) (C := Tryd.checked) false (laidWorld os) #[.slice none 0 0, .slice none 0 0] rfl (by kernel_rfl) (by kernel_rfl) (by kernel_rfl)
      (OpenSpec.preRow_of_cond 8 hx (by kernel_rfl) (fun k hk => by cases hk) (by kernel_rfl) (laid_met os _))) ?_
  intro W base args ds gs before hval hW _ _ _ hL _ _
  exact contract H enc W base args ds gs before hval hW hL

theorem said : Rows.FnNumsSaid :=
  OpenClaim.holds_of_cond 3 Tryd.f3 rfl rfl rfl rfl rfl rfl rfl ⟨rfl, rfl, rfl, rfl, rfl⟩ rfl rfl rfl rfl rfl (by kernel_rfl) Tryd.func3 (by kernel_rfl)
    (of_decide_eq_true (by kernel_rfl)) (by unfold Func.isWrapper; first | (rw [if_pos (by decide +kernel)]; kernel_rfl) | (rw [if_neg (by decide +kernel)]; exact ⟨rfl, rfl⟩))
    (fun os started H enc _ F => by rw [OpenClaim.pre_eq_preRow]; exact lifted os started H enc F)

theorem plain (f : FuncId) (fn : Func) (hf : Tryd.pinned.checked.prog.funcNamed "loop.example/g00836/laws.FnNums" = some f) (hfn : Tryd.pinned.checked.prog.funcs[f]? = some fn) :
    true = Tryd.pinned.checked.prog.looks [] ∧ ∀ (j : Nat) t, fn.params[j]? = some t → Tryd.pinned.checked.prog.wantsStandIn t = false := by
  obtain rfl : f = 3 := Option.some.inj ((show Tryd.prog.funcNamed "loop.example/g00836/laws.FnNums" = some 3 by kernel_rfl).symm.trans hf) |>.symm
  obtain rfl : fn = Tryd.f3 := (Option.some.inj (Tryd.func3.symm.trans hfn)).symm
  refine ⟨by kernel_rfl, fun j t ht => ?_⟩
  rw [Tryd.params3] at ht
  have hm := Array.mem_of_getElem? ht
  simp only [List.mem_toArray, List.mem_cons, List.not_mem_nil, or_false] at hm
  rcases hm with rfl | rfl
  · exact (show Tryd.prog.wantsStandIn 22 = false by kernel_rfl)
  · exact (show Tryd.prog.wantsStandIn 22 = false by kernel_rfl)

/-- The given statement. -/
theorem proved : Rows.FnNumsCardSaid :=
  Claim7.holds_tied_plain_at .later [] _ _ _ _ said (fun _ h => by cases h) (by kernel_rfl) (fun _ h => by cases h) fnNums_row_tie rfl ⟨rfl, rfl⟩ (by kernel_rfl) rfl plain (by kernel_rfl)
#print axioms proved
end Go.Proofs.YtlncdkeooacebaaDoor.fnNums
