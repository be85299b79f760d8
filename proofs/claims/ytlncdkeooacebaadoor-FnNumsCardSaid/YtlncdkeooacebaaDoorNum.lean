/-
  Contracts: l01Fold answers the plain function fold; spec.PutNum and impl.PutNum answer the bytes putB; of what was there nothing is changed. Conditions: a number of int64.
-/
import Derived.Test.YtlncdkeooacebaaDoorRows
import Derived.Test.YtlncdkeooacebaaDoorNumMath
import Derived.Test.YtlncdkeooacebaaDoorBytes
namespace Go.Proofs.YtlncdkeooacebaaDoor.Nums
open Go.RowKit NumMath Texts Bytes
set_option linter.unusedVariables false
set_option maxRecDepth 100000

theorem ret_int {k : IntKind} {a b : Int} (h : a = b) : Ending.returned (.int k a) = .returned (.int k b) := by rw [h]
theorem ret_string {a b : ByteArray} (h : a = b) : Ending.returned (.string a) = .returned (.string b) := by rw [h]
theorem l01Fold (n : Int) (h0 : -9223372036854775808 ≤ n) (h1 : n ≤ 9223372036854775807) (w : World) :
    Calls Tryd.prog 32 #[.int .i64 n] w fun e w' => e = .returned (.int .u64 ((fold n : Nat) : Int)) ∧ w = w' := by
  by_cases hn : n < 0
  · have hf := Lib.hid (fold_neg h0 hn)
    go_enter Tryd.func32, Tryd.ntmps32
    go_wp2_with fail
    go_ret
    exact ⟨ret_int hf.out, rfl⟩
  · have hn' : 0 ≤ n := by omega
    have hf := Lib.hid (fold_pos hn')
    clear hn
    go_enter Tryd.func32, Tryd.ntmps32
    go_wp2_with fail
    go_ret
    exact ⟨ret_int hf.out, rfl⟩

theorem specPutNum (n : Int) (h0 : -9223372036854775808 ≤ n) (h1 : n ≤ 9223372036854775807) (w : World) :
    Calls Tryd.prog 10 #[.int .i64 n] w fun e w' => e = .returned (.string (putB n)) ∧ Below w.heap.size w w' := by
  obtain ⟨U, hU⟩ : ∃ U, U = fold n := ⟨_, rfl⟩
  have hlt := fold_lt h0 h1
  rw [← hU] at hlt
  have HU := Lib.hid hU
  have hleft : Hid (∀ k, left k U < 18446744073709551616) := Lib.hid fun k => left_lt k U hlt
  have HC : Hid (∀ w, Calls Tryd.prog 32 #[.int .i64 n] w fun e w' => e = .returned (.int .u64 (U : Int)) ∧ w = w') := Lib.hid (by rw [hU]; exact l01Fold n h0 h1)
  have HLT := Lib.hid hlt
  clear hU hlt
  go_enter Tryd.func10, Tryd.ntmps10
  go_wp2_with (go_at_call 32; refine (HC.out _).mono ?_; rintro e w' ⟨rfl, rfl⟩)
  go_loopw [3, 4] (fun u v wr => ∃ k : Nat, ∃ x : Int, Hid (x = ((left k U : Nat) : Int) ∧ on k U) ∧ 0 ≤ x ∧ u = .int .u64 x ∧ OwnB wr w.heap.size v (did k U) ∧ Below w.heap.size w wr) (fun u _ _ => (intOf u).toNat)
  case atStart => exact ⟨0, _, Lib.hid ⟨rfl, fun j hj => by omega⟩, by omega, rfl, OwnB.made w _ (Nat.le_refl _), (Below.refl _ _).alloc (Nat.le_refl _) _⟩
  case round =>
    obtain ⟨k, x, hx, hx0, rfl, hown, hbel⟩ := hrel
    have hz := hbel.size
    have hk9 : k ≤ 9 := on_few HLT.out hx.out.2
    have hq : x / 128 ≤ 144115188075855871 := by have := hleft.out k; have := hx.out.1; omega
    have hlen : (did k U).length ≤ 9 := by rw [did_length]; exact hk9
    by_cases hge : 128 ≤ x
    · go_wp2_with (at_builtin; refine app_byte rfl _ _ rfl w.heap.size _ (did k U) rfl (hown.alloc _) ⟨wr.heap.size, 0, none⟩ 1 rfl (x % 128 + 128) (by omega) (by omega) (one_new _ _ _) (by omega) (by simp; omega) ?_; intro v' w1 hown' hb1)
      have hbel' : Below w.heap.size w w1 := (hbel.alloc hz _).trans hb1
      have hnx : (x / 128 = ((left (k + 1) U : Nat) : Int) ∧ on (k + 1) U) := ⟨by rw [left, hx.out.1]; omega, on_next hx.out.2 (by have := hx.out.1; omega)⟩
      have HN := Lib.hid hnx
      have hdid : did (k + 1) U = did k U ++ [u8of (x % 128 + 128)] := by
        rw [did, u8of]; congr 2; have := hx.out.1; congr 1; omega
      rw [← hdid] at hown'
      clear hnx hdid hown hbel
      go_roundw
      case rel => exact ⟨k + 1, _, HN, by omega, rfl, hown', hbel'⟩
      case measure => simp [intOf]; omega
    · have hlt : x < 128 := by omega
      clear hge
      have hend : putL 9 U = did k U ++ [u8of x] := by
        rw [put_end HLT.out hx.out.2 (by have := hx.out.1; omega), u8of]; congr 2; have := hx.out.1; congr 1; omega
      go_wp2_with (at_builtin; refine app_byte rfl _ _ rfl w.heap.size _ (did k U) rfl (hown.alloc _) ⟨wr.heap.size, 0, none⟩ 1 rfl x (by omega) (by omega) (one_new _ _ _) (by omega) (by simp; omega) ?_; intro v' w1 hown' hb1; have hst := hown'.string)
      go_ret
      exact ⟨ret_string (by rw [putB, ← HU.out, hend]), (hbel.alloc hz _).trans hb1⟩

theorem ten_len : Tryd.prog.arrayLen 65 = 10 := by kernel_rfl
theorem slice_ten (k : Nat) (hk : k ≤ 9) (p : Addr) (W : World) :
    (Instr.sliceAt 65 (.pointer (some p)) none (some (.int .i64 ((k : Int) + 1))) none).run Tryd.prog W = .ok (.slice (some p) (k + 1) 10) W := by
  rw [run_sliceAt_array_h W 65 p (by simp [Program.arrayLen, Program.elem, Tryd.underlying65]) .i64 ((k : Int) + 1) (by omega) (by rw [ten_len]; omega), ten_len]
  have e : ((k : Int) + 1).toNat = k + 1 := by omega
  rw [e]
  rfl

theorem implPutNum (n : Int) (h0 : -9223372036854775808 ≤ n) (h1 : n ≤ 9223372036854775807) (w : World) :
    Calls Tryd.prog 9 #[.int .i64 n] w fun e w' => e = .returned (.string (putB n)) ∧ Below w.heap.size w w' := by
  obtain ⟨U, hU⟩ : ∃ U, U = fold n := ⟨_, rfl⟩
  have hlt := fold_lt h0 h1
  rw [← hU] at hlt
  have HF := Lib.hid (fold_bits h0 h1)
  have HU := Lib.hid hU
  have hleft : Hid (∀ k, left k U < 18446744073709551616) := Lib.hid fun k => left_lt k U hlt
  have HLT := Lib.hid hlt
  clear hU hlt
  go_enter Tryd.func9, Tryd.ntmps9
  go_wp2_with fail
  go_loopw [3, 5] (fun u i wr => ∃ k : Nat, ∃ x : Int, ∃ C : Array Value, Hid (x = ((left k U : Nat) : Int) ∧ on k U) ∧ 0 ≤ x ∧ u = .int .u64 x ∧ i = .int .i64 k ∧ wr.heap[w.heap.size]? = some (.cells C 65 (0, 0)) ∧ Hid (C.size = 10 ∧ C.toList.take k = Lib.byteCells (did k U)) ∧ Below w.heap.size w wr) (fun u _ _ => (intOf u).toNat)
  case atStart => exact ⟨0, _, _, Lib.hid ⟨by rw [HF.out, ← HU.out]; rfl, fun j hj => by omega⟩, by rw [HF.out]; omega, rfl, rfl, heap_alloc_new w _, Lib.hid ⟨rfl, rfl⟩, (Below.refl _ _).alloc (Nat.le_refl _) _⟩
  case round =>
    obtain ⟨k, x, C, hx, hx0, rfl, rfl, hrow, hC, hbel⟩ := hrel
    have hz := hbel.size
    have hk9 : k ≤ 9 := on_few HLT.out hx.out.2
    have hq : x / 128 ≤ 144115188075855871 := by have := hleft.out k; have := hx.out.1; omega
    by_cases hge : 128 ≤ x
    · have hor := or_128 x
      have hcell := row_cell hrow (k := k) (by have := hC.out.1; omega)
      have hfree := frozen_of_row wr w.heap.size k C _ hrow
      have HP := Lib.hid (row_put hrow (by have := hC.out.1; omega) hC.out.2 (show 0 ≤ x % 128 + 128 by omega) (by omega))
      go_wp2_with fail
      have hnx : (x / 128 = ((left (k + 1) U : Nat) : Int) ∧ on (k + 1) U) := ⟨by rw [left, hx.out.1]; omega, on_next hx.out.2 (by have := hx.out.1; omega)⟩
      have HN := Lib.hid hnx
      have hdid : did (k + 1) U = did k U ++ [u8of (x % 128 + 128)] := by
        rw [did, u8of]; congr 2; have := hx.out.1; congr 1; omega
      have HC : Hid ((C.setIfInBounds k (.int .u8 (x % 128 + 128))).size = 10 ∧ (C.setIfInBounds k (.int .u8 (x % 128 + 128))).toList.take (k + 1) = Lib.byteCells (did (k + 1) U)) :=
        Lib.hid ⟨HP.out.2.1.trans hC.out.1, by rw [hdid]; exact HP.out.2.2⟩
      clear hnx hdid
      go_roundw
      case rel => exact ⟨k + 1, _, _, HN, by omega, rfl, by go_num, HP.out.1, HC, hbel.setCell (Nat.le_refl _) _⟩
      case measure => simp [intOf]; omega
    · have hlt : x < 128 := by omega
      clear hge
      have hend : putL 9 U = did k U ++ [u8of x] := by
        rw [put_end HLT.out hx.out.2 (by have := hx.out.1; omega), u8of]; congr 2; have := hx.out.1; congr 1; omega
      have hcell := row_cell hrow (k := k) (by have := hC.out.1; omega)
      have hfree := frozen_of_row wr w.heap.size k C _ hrow
      have hp := row_put hrow (by have := hC.out.1; omega) hC.out.2 hx0 (show x < 256 by omega)
      have hst := string_of_prefix (n := k + 1) hp.1 hp.2.2 (by rw [List.length_append, did_length]; rfl) 10
      have HE := Lib.hid hend
      clear hend hp
      have hsl := slice_ten k hk9 ⟨w.heap.size, 0, none⟩
      go_wp2_with fail
      go_ret
      exact ⟨ret_string (by rw [putB, ← HU.out, HE.out]), hbel.setCell (Nat.le_refl _) _⟩
end Go.Proofs.YtlncdkeooacebaaDoor.Nums
