/-
  For every two inputs, laws.FnSeal answers true: a drawn text is got back from its seal, with any one byte turned it is refused, and a CRC goes on from text to text. Conditions: none beyond the row's own.
-/
import Derived.Test.YtpfgmdlkacildaaRows
import Derived.WalkKit
import Derived.ProofKit
import Derived.OpenShut
import Derived.ShutString
import Derived.ChangeOld
import Derived.Below
import Derived.Test.YtpfgmdlkacildaaSealLaw
import Derived.IntWalk
namespace Go.Proofs.Ytpfgmdlkacildaa.fnSeal
open Go.ChangeShapes Go.WideShapes Go.ChangeAt Go.RowKit
open Go.ChangeMaps (open_string shut_string)
open CrcMath Crcs Texts Seals Unseals
set_option linter.unusedVariables false

theorem own : ownKnob Try.prog.godebug = none := by kernel_rfl
theorem laidOut : laidOutB Try.prog = true := by kernel_rfl

/-- WHAT THE WALK IS TOLD OF A SLICE OF INTEGERS THAT CAME IN: it is nil; or it leads to a row of 'cap' cells, the numbers 'zs' (the first 'len' are its elements, the rest its spare room), each fitting its kind. -/
def IsRow (k : IntKind) (w : World) (a : Option Addr) (len cap : Nat) (zs : List Int) : Prop :=
  (a = none ∧ len = 0 ∧ cap = 0 ∧ zs = []) ∨
  ∃ x, a = some x ∧ len ≤ cap ∧ cap ≤ maxLen ∧ zs.length = cap ∧ (∀ i, i < zs.length → w.cell? (x.add i) = some (.int k (zs.getD i 0))) ∧ ∀ n ∈ zs, (Lit.int k n).wf = true

/-! ### STEP 1: THE WALK: the Go text returns true, AND WRITES NOTHING THAT WAS THERE: 'Below w.heap.size w w'' (Derived/Below.lean: '.refl', '.alloc', '.drew', '.setCell' at a new block, '.trans'). Open each 'IsRow' by 'rcases' AHEAD of 'go_enter'; part every test ahead of the walk. -/
set_option maxHeartbeats 1600000 in
theorem walk (a0 : Option Addr) (len0 cap0 : Nat) (z0 : List Int) (a1 : Option Addr) (len1 cap1 : Nat) (z1 : List Int) (w : World) (w0 : IsRow .u8 w a0 len0 cap0 z0) (w1 : IsRow .u8 w a1 len1 cap1 z1) :
    Calls Try.prog 3 #[.slice a0 len0 cap0, .slice a1 len1 cap1] w fun e w' => e = .returned (.bool true) ∧ Below w.heap.size w w' := by
  have B0 := Lib.hid (Draws.BytesAt.of_row w0)
  have B1 := Lib.hid (Draws.BytesAt.of_row w1)
  clear w0 w1
  by_cases hbig : 1048576 < len0
  · have hbi : (1048576 : Int) < (len0 : Int) := by omega
    go_enter Try.func3, Try.ntmps3
    go_wp2_with fail
    go_ret
    exact ⟨rfl, Below.refl _ _⟩
  have hbi : (len0 : Int) ≤ 1048576 := by omega
  by_cases hbig1 : 1048576 < len1
  · have hbi1 : (1048576 : Int) < (len1 : Int) := by omega
    clear hbig
    go_enter Try.func3, Try.ntmps3
    go_wp2_with fail
    go_ret
    exact ⟨rfl, Below.refl _ _⟩
  have hbi1 : (len1 : Int) ≤ 1048576 := by omega
  clear hbig hbig1
  go_enter Try.func3, Try.ntmps3
  go_wp2_with fail
  refine (Draws.small_seal _ len0 cap0 a0 B0.out (by omega)).mono ?_
  rintro e w2 ⟨⟨t, rfl, ht⟩, hb2⟩
  go_wp2_with fail
  refine (Seals.implSeal t (by unfold maxLen; omega) _).mono ?_
  rintro e w3 ⟨rfl, hb3⟩
  have hb3' := hb2.trans (hb3.mono hb2.size)
  go_wp2_with fail
  refine (Seals.specSeal t (by unfold maxLen; omega) _).mono ?_
  rintro e w4 ⟨rfl, hb4⟩
  have hb4' := hb3'.trans (hb4.mono hb3'.size)
  have HB4 := Lib.hid hb4'
  clear hb2 hb3 hb3' hb4 hb4'
  have htail : ∀ (W : World), Below w.heap.size w W → Calls Try.prog 16 #[.slice a1 len1 cap1] W fun e w' => (∃ (c : Int) (u : ByteArray), e = .returned (.tuple #[.int .i64 c, .string u]) ∧ (Lit.int .i64 c).wf = true ∧ u.size ≤ 9) ∧ Below W.heap.size W w' := fun W hW =>
    SealLaw.drawCrcMore W len1 cap1 a1 ((B1.out.below hW).mono hW.size) (by omega)
  have HT := Lib.hid htail
  clear htail
  by_cases hs : t.size ≤ 7996
  · have ⟨hx, hsz⟩ := SealLaw.seal_ext hs
    have HX := Lib.hid hx
    have hne : ((sealB t).toList == []) = false := by
      rw [beq_eq_false_iff_ne]; intro h
      rw [Lib.toList_data] at h
      have h2 := congrArg List.length h
      have h0 : ([] : List UInt8).length = 0 := rfl
      rw [SealLaw.list_size, h0] at h2; omega
    have hne2 : (sealB t).toList.isEmpty = false := by
      cases hh : (sealB t).toList with
      | nil => rw [hh] at hne; simp at hne
      | cons x y => rfl
    have hS8 : (sealB t).size ≤ 8000 := by omega
    have hS4 : 4 ≤ (sealB t).size := by omega
    have HOK := Lib.hid (okB_seal hs)
    have HTU : Hid (∀ (k : Nat) (hk : k < (sealB t).size) (b : UInt8), b ≠ (sealB t)[k] → okB (turned (sealB t) k b) = false) := Lib.hid fun k hk b hb => okB_turned hs hk hb
    have HU : Hid (∀ W, Calls Try.prog 15 #[.string (sealB t)] W fun e w' => e = .returned (.agg #[.string t, .int .i64 0, .int .i64 0]) ∧ Below W.heap.size W w') := Lib.hid fun W => by
      have h := implUnseal (sealB t) (by unfold maxLen; omega) W
      rw [unR_yes hS8 hS4 HOK.out, HX.out] at h; exact h
    clear hs hsz hx
    generalize sealB t = S at *
    obtain ⟨X, cap, hcv, hbX, hgX, hcellX, hbackX⟩ := SealLaw.bytes_conv w4 S
    have HBX := Lib.hid hbackX
    have HCX := Lib.hid hcellX
    have HWX := Lib.hid (HB4.out.trans (hbX.mono HB4.out.size))
    have hg4 := Lib.hid HB4.out.size
    clear hbackX hcellX
    have HL : Hid (∀ (W : World) (most : Int), Below w.heap.size w W → most ≤ 1000000 → (Calls Try.prog 14 #[.slice a1 len1 cap1, .int .i64 0, .int .i64 most] W fun e w' => (∃ r : Int, e = .returned (.int .i64 r) ∧ 0 ≤ r ∧ (r < most ∨ r = 0)) ∧ W = w') ∧ (Calls Try.prog 14 #[.slice a1 len1 cap1, .int .i64 1, .int .i64 most] W fun e w' => (∃ r : Int, e = .returned (.int .i64 r) ∧ 0 ≤ r ∧ (r < most ∨ r = 0)) ∧ W = w')) := Lib.hid fun W most hW hm =>
      ⟨Draws.lwAt W w.heap.size len1 cap1 a1 (B1.out.below hW) (by omega) 0 (by omega) most hm, Draws.lwAt W w.heap.size len1 cap1 a1 (B1.out.below hW) (by omega) 1 (by omega) most hm⟩
    go_wp2_with fail
    refine ((HL.out _ _ HWX.out (by omega)).1).mono ?_
    rintro e w5 ⟨⟨r, rfl, hr0, hr1⟩, rfl⟩
    obtain ⟨k, rfl⟩ := Int.eq_ofNat_of_zero_le hr0
    have hk : k < S.size := by omega
    have ⟨hck, hfk⟩ := HCX.out k hk
    have hxb : 0 ≤ (S[k].toNat : Int) ∧ (S[k].toNat : Int) ≤ 255 := by have := S[k].toNat_lt; omega
    go_wp2_with fail
    go_region_with (go_at_call 14; refine ((HL.out _ _ (by first | exact HWX.out | exact HWX.out.drew) (by omega)).2).mono ?_; rintro e w5 ⟨⟨d, rfl, hd0, hd1⟩, rfl⟩)
    all_goals
      have ew : IntKind.u8.wrap (IntKind.i64.wrap (1 + d)) = 1 + d := by rw [IntWalk.i64_in _ (by omega), IntKind.wrap_u8']; omega
      rw [ew]
      have hv := SealLaw.xor_turn hxb (show 1 ≤ 1 + d ∧ 1 + d ≤ 255 by omega)
      generalize bits BinOp.xor IntKind.u8 (S[k].toNat : Int) (1 + d) = V at hv ⊢
      have hoff := HTU.out k hk (u8of V) (SealLaw.u8of_ne hv.1 hv.2.1 hv.2.2)
      have HU2 : Hid (∀ W, Calls Try.prog 15 #[.string (turned S k (u8of V))] W fun e w' => (∃ (z : ByteArray) (c : Int), e = .returned (.agg #[.string z, .int .i64 0, .int .i64 c]) ∧ c = 5) ∧ Below W.heap.size W w') := Lib.hid fun W => by
        have h := implUnseal (turned S k (u8of V)) (by unfold maxLen; rw [turned_size]; omega) W
        rw [unR_no (by rw [turned_size]; exact hS8) (by rw [turned_size]; exact hS4) hoff] at h; exact h.mono fun e w' q => ⟨⟨_, _, q.1, rfl⟩, q.2⟩
      have HST := Lib.hid (fun W h => HBX.out W k V hk hv.1 hv.2.1 h)
      have HWY := Lib.hid ((HWX.out.setCell (p := ⟨w4.heap.size, k, none⟩) hg4.out (.int .u8 V)).drew)
      have hlt6 : w4.heap.size < (X.setCell ⟨w4.heap.size, k, none⟩ (.int .u8 V)).heap.size := by simp; exact hgX
      have HLT6 := Lib.hid hlt6
      clear hoff hv hlt6 hck hfk hcv ew
      generalize turned S k (u8of V) = TT at HU2 HST
      go_wp2_with fail
      refine (HU.out _).mono ?_
      rintro e w6 ⟨rfl, hb6⟩
      have hst6 := HST.out w6 (fun j => hb6.cell (p := ⟨w4.heap.size, j, none⟩) HLT6.out)
      have HB6 := Lib.hid (HWY.out.trans (hb6.mono HWY.out.size))
      clear hb6
      go_wp2_with fail
      refine (HU2.out _).mono ?_
      rintro e w7 ⟨⟨z, c, rfl, hc5⟩, hb7⟩
      have HBW := Lib.hid (HB6.out.trans (hb7.mono HB6.out.size))
      clear hb7 hst6
      go_wp2_with fail
      rw [SealLaw.field_code]
      go_wp2_with fail
      refine (HT.out _ HBW.out).mono ?_
      rintro e w8 ⟨⟨c, u, rfl, hcw, hu⟩, hb8⟩
      have HE := Lib.hid (HBW.out.trans (hb8.mono HBW.out.size))
      have HCW := Lib.hid hcw
      clear hcw hb8
      by_cases hov : 8000 < t.size + u.size
      · have hovi : (8000 : Int) < (t.size : Int) + (u.size : Int) := by omega
        go_wp2_with fail
        go_ret
        exact ⟨rfl, HE.out⟩
      · have hle : (t.size : Int) + (u.size : Int) ≤ 8000 := by omega
        have hon := SealLaw.crc_on (t := t) (u := u) (by omega)
        have hcr := moreV_range 0 t
        have HON : Hid ((crcMoreV (crcMoreV 0 t) u == crcMoreV 0 (t ++ u)) = true) := Lib.hid (by rw [hon]; exact beq_iff_eq.2 rfl)
        have hsz2 : (t ++ u).size ≤ 8000 := by simp; omega
        clear hov hon
        go_wp2_with fail
        refine (implCrcMore c u (by unfold maxLen; omega) HCW.out _).mono ?_
        rintro e w9 ⟨rfl, rfl⟩
        go_wp2_with fail
        refine (specCrcMore c u (by unfold maxLen; omega) HCW.out _).mono ?_
        rintro e w9 ⟨rfl, rfl⟩
        go_wp2_with fail
        refine (implCrc t (by unfold maxLen; omega) _).mono ?_
        rintro e w9 ⟨rfl, rfl⟩
        go_wp2_with fail
        refine (implCrcMore (crcMoreV 0 t) u (by unfold maxLen; omega) (WalkArith.wf_i64 (by omega)) _).mono ?_
        rintro e w9 ⟨rfl, rfl⟩
        go_wp2_with fail
        refine (implCrc (t ++ u) (by unfold maxLen; omega) _).mono ?_
        rintro e w9 ⟨rfl, rfl⟩
        have hon2 := HON.out
        go_wp2_with fail
        go_ret
        exact ⟨rfl, HE.out⟩
  · have hne : sealB t = ⟨#[]⟩ := sealB_no (by omega)
    rw [hne]
    have HBW := HB4
    go_wp2_with fail
    refine (HT.out _ HBW.out).mono ?_
    rintro e w8 ⟨⟨c, u, rfl, hcw, hu⟩, hb8⟩
    have HE := Lib.hid (HBW.out.trans (hb8.mono HBW.out.size))
    have HCW := Lib.hid hcw
    clear hcw hb8
    by_cases hov : 8000 < t.size + u.size
    · have hovi : (8000 : Int) < (t.size : Int) + (u.size : Int) := by omega
      go_wp2_with fail
      go_ret
      exact ⟨rfl, HE.out⟩
    · have hle : (t.size : Int) + (u.size : Int) ≤ 8000 := by omega
      have hon := SealLaw.crc_on (t := t) (u := u) (by omega)
      have hcr := moreV_range 0 t
      have HON : Hid ((crcMoreV (crcMoreV 0 t) u == crcMoreV 0 (t ++ u)) = true) := Lib.hid (by rw [hon]; exact beq_iff_eq.2 rfl)
      have hsz2 : (t ++ u).size ≤ 8000 := by simp; omega
      clear hov hon
      go_wp2_with fail
      refine (implCrcMore c u (by unfold maxLen; omega) HCW.out _).mono ?_
      rintro e w9 ⟨rfl, rfl⟩
      go_wp2_with fail
      refine (specCrcMore c u (by unfold maxLen; omega) HCW.out _).mono ?_
      rintro e w9 ⟨rfl, rfl⟩
      go_wp2_with fail
      refine (implCrc t (by unfold maxLen; omega) _).mono ?_
      rintro e w9 ⟨rfl, rfl⟩
      go_wp2_with fail
      refine (implCrcMore (crcMoreV 0 t) u (by unfold maxLen; omega) (WalkArith.wf_i64 (by omega)) _).mono ?_
      rintro e w9 ⟨rfl, rfl⟩
      go_wp2_with fail
      refine (implCrc (t ++ u) (by unfold maxLen; omega) _).mono ?_
      rintro e w9 ⟨rfl, rfl⟩
      have hon2 := HON.out
      go_wp2_with fail
      go_ret
      exact ⟨rfl, HE.out⟩

/-! ### THE ROW's STEP: WRITTEN OUT: LEAVE IT -/
set_option maxRecDepth 100000 in
theorem lifted (os : Os) (started : os.Started) (H : Type) (enc : TypeId × Value → H) :
    ReturnsInHanded {} Try.checked os 3 .any (Rows.fnSealSpec.pre6 enc Try.prog Try.f3 Rows.fnSealRow.domain false) (Rows.fnSealSpec.post enc Try.prog Try.f3 false true false false) := by
  refine returnsInHanded_of_change (C := Try.checked) own started (by kernel_rfl) Try.func3
    (ChangeSpec.witness6 (enc := enc) (C := Try.checked) false ⟨#[], #[.slice none 0 0, .slice none 0 0], []⟩ 8 (by kernel_rfl) (by kernel_rfl) (by kernel_rfl) (by kernel_rfl)) ?_
  intro W base args ds gs before hval0 hW hcnd _
  have hval : ∀ (j : Nat) t v, Try.f3.params[j]? = some t → args[j]? = some v → Value.okWide Try.prog W .any base t v := hval0
  have hW' := hW
  obtain ⟨p, q, hA0, hV, rfl, hfz, hnd⟩ := hW
  have hA : DataW.TrodAll enc Try.prog W 0 (fun _ => true) true Try.f3.params.toList args.toList ds p := hA0
  rw [Try.params3] at hA hval
  obtain ⟨v0, vs0, d0, ds0, p0, q0, hargs, rfl, rfl, h0, r0⟩ := trodAll_cons hA
  obtain ⟨v1, vs1, d1, ds1, p1, q1, rfl, rfl, rfl, h1, r1⟩ := trodAll_cons r0
  obtain ⟨rfl, rfl, rfl⟩ := trodAll_nil r1
  obtain rfl : args = #[v0, v1] := by cases args; simp_all
  obtain ⟨rfl, rfl⟩ := trodVars_none hV
  obtain ⟨a0, len0, cap0, rfl⟩ := okWide_slice Try.underlying22 (hval 0 22 v0 rfl rfl)
  have k0 := h0
  have lt0 : ∀ x ∈ p0, x.block < W.heap.size := by obtain ⟨m, hm⟩ := k0; exact DataW.trod_lt m _ _ _ hm
  obtain ⟨z0, w0⟩ : ∃ zs, IsRow .u8 W a0 len0 cap0 zs := by
    obtain ⟨fuel, hf⟩ := h0
    rcases open_ints Try.underlying22 Try.underlying5 (by kernel_rfl) hf with ⟨hcs, _⟩ | ⟨x, l, c, zs, hcs, _, hl, hm, hz, _, hcell, hwz⟩
    · simp [Value.cells] at hcs
      obtain ⟨rfl, rfl, rfl⟩ := hcs
      exact ⟨[], .inl ⟨rfl, rfl, rfl, rfl⟩⟩
    · simp [Value.cells] at hcs
      obtain ⟨rfl, rfl, rfl⟩ := hcs
      exact ⟨zs, .inr ⟨_, rfl, hl, hm, by simpa using hz, hcell, hwz⟩⟩
  obtain ⟨a1, len1, cap1, rfl⟩ := okWide_slice Try.underlying22 (hval 1 22 v1 rfl rfl)
  have k1 := h1
  have lt1 : ∀ x ∈ p1, x.block < W.heap.size := by obtain ⟨m, hm⟩ := k1; exact DataW.trod_lt m _ _ _ hm
  obtain ⟨z1, w1⟩ : ∃ zs, IsRow .u8 W a1 len1 cap1 zs := by
    obtain ⟨fuel, hf⟩ := h1
    rcases open_ints Try.underlying22 Try.underlying5 (by kernel_rfl) hf with ⟨hcs, _⟩ | ⟨x, l, c, zs, hcs, _, hl, hm, hz, _, hcell, hwz⟩
    · simp [Value.cells] at hcs
      obtain ⟨rfl, rfl, rfl⟩ := hcs
      exact ⟨[], .inl ⟨rfl, rfl, rfl, rfl⟩⟩
    · simp [Value.cells] at hcs
      obtain ⟨rfl, rfl, rfl⟩ := hcs
      exact ⟨zs, .inr ⟨_, rfl, hl, hm, by simpa using hz, hcell, hwz⟩⟩
  clear hA0 hval0
  refine (walk a0 len0 cap0 z0 a1 len1 cap1 z1 W w0 w1).mono fun e W' ⟨he, bel⟩ => ?_
  subst he
  exact ⟨_, rfl, _, _, _, [], _, [], hW', trodAll_mk1 (shut_bool Try.underlying4 _), (trodAll_cons_mk (Below.trod laidOut (by kernel_rfl) (of_decide_eq_true (by kernel_rfl)) k0 bel lt0) (trodAll_cons_mk (Below.trod laidOut (by kernel_rfl) (of_decide_eq_true (by kernel_rfl)) k1 bel lt1) trodAll_mk0)), rfl, bel.frame _, fun h => by cases h⟩

theorem over : Rows.fnSealRow.holds Try.pinned (OpenSpec.ofChange Rows.fnSealSpec) :=
  OpenClaim.holds_of_wide 3 Try.f3 rfl rfl rfl rfl rfl rfl rfl ⟨rfl, rfl, rfl, rfl, rfl⟩ rfl rfl rfl rfl rfl (by kernel_rfl) Try.func3 (by kernel_rfl)
    (of_decide_eq_true (by kernel_rfl)) (by unfold Func.isWrapper; first | (rw [if_pos (by decide +kernel)]; kernel_rfl) | (rw [if_neg (by decide +kernel)]; exact ⟨rfl, rfl⟩))
    (fun os started H enc _ => lifted os started H enc)

/-- The given statement. -/
theorem proved : Rows.FnSealSaid := over
#print axioms proved
end Go.Proofs.Ytpfgmdlkacildaa.fnSeal
