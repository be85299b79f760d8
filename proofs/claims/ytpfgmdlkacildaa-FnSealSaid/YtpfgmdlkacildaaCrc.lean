/-
  Contracts: crcByte, impl.CrcMore, impl.Crc, spec.l01Crc, spec.CrcMore and spec.Crc answer the plain functions of CrcMath, and leave the world as it is. Conditions: numbers within their kinds, a text of at most maxLen bytes.
-/
import Derived.Test.YtpfgmdlkacildaaRows
import Derived.Test.YtpfgmdlkacildaaCrcMath
import Derived.WalkKit
import Derived.Outline
import Derived.Lib.Hide
namespace Go.Proofs.Ytpfgmdlkacildaa.Crcs
open Go.RowKit CrcMath
set_option linter.unusedVariables false

theorem ret_int {k : IntKind} {a b : Int} (h : a = b) : Ending.returned (.int k a) = .returned (.int k b) := by rw [h]

theorem crcByte_any (r c : Int) (h0 : 0 ≤ r) (h1 : r ≤ 4294967295) (h2 : 0 ≤ c) (h3 : c ≤ 255) (w : World) :
    Calls Try.prog 38 #[.int .u32 r, .int .u8 c] w fun e w' => e = .returned (.int .u32 ((cb r.toNat c.toNat : Nat) : Int)) ∧ w = w' := by
  have hx := Lib.hid (xor_eq r c h0 h1 h2 (by omega))
  have hxr := xor_range r c h0 h1 h2 (by omega)
  have hn := Lib.hid (cb_lt (r := r.toNat) (c := c.toNat) (by omega) (by omega))
  have hit : Hid (∀ k, it k (r.toNat ^^^ c.toNat) < 4294967296) := Lib.hid fun k => it_lt k (xor_lt (by omega) (by omega))
  go_enter Try.func38, Try.ntmps38
  go_wp2_with fail
  go_loop [0, 10] (fun v i => ∃ k : Nat, ∃ x : Int, k ≤ 8 ∧ 0 ≤ x ∧ x ≤ 4294967295 ∧ Hid (x = ((it k (r.toNat ^^^ c.toNat) : Nat) : Int)) ∧ i = .int .i64 k ∧ v = .int .u32 x) (fun _ i => 8 - (intOf i).toNat)
  case atStart => exact ⟨0, _, by omega, hxr.1, hxr.2, hx, rfl, rfl⟩
  case round =>
    obtain ⟨k, x, hk, hx0, hx1, hxe, rfl, rfl⟩ := hrel
    by_cases hlt : k < 8
    · have hy : Hid ((bits BinOp.and IntKind.u32 x 1 == 1) = true → bits BinOp.xor IntKind.u32 (x / 2) 3988292384 = ((it (k + 1) (r.toNat ^^^ c.toNat) : Nat) : Int)) := Lib.hid fun t => st_yes hxe.out hx1 t
      have hn : Hid ((bits BinOp.and IntKind.u32 x 1 == 1) = false → x / 2 = ((it (k + 1) (r.toNat ^^^ c.toNat) : Nat) : Int)) := Lib.hid fun t => st_no hxe.out hx1 t
      have hl := hit.out (k + 1)
      go_wp2_with fail
      · have t : (bits BinOp.and IntKind.u32 x 1 == 1) = true := by assumption
        go_round
        case rel => exact ⟨k + 1, _, by omega, by rw [hy.out t]; omega, by rw [hy.out t]; omega, Lib.hid (hy.out t), by go_num, rfl⟩
        case measure => simp [intOf]; omega
      · have t : (bits BinOp.and IntKind.u32 x 1 == 1) = false := by assumption
        go_round
        case rel => exact ⟨k + 1, _, by omega, by rw [hn.out t]; omega, by rw [hn.out t]; omega, Lib.hid (hn.out t), by go_num, rfl⟩
        case measure => simp [intOf]; omega
    · have hk8 : Hid (k = 8) := Lib.hid (by omega)
      go_wp2_with fail
      go_ret
      exact ⟨ret_int (by rw [hxe.out, hk8.out]; rfl), rfl⟩

def crcMoreV (crc : Int) (s : ByteArray) : Int := if 8000 < s.size ∨ crc < 0 ∨ 4294967295 < crc then 0 else ((crcOf crc.toNat s : Nat) : Int)
theorem moreV_no {crc : Int} {s : ByteArray} (h : 8000 < s.size ∨ crc < 0 ∨ 4294967295 < crc) : crcMoreV crc s = 0 := by rw [crcMoreV, if_pos h]
theorem moreV_yes {crc : Int} {s : ByteArray} (h : s.size ≤ 8000) (h0 : 0 ≤ crc) (h1 : crc ≤ 4294967295) : crcMoreV crc s = ((crcOf crc.toNat s : Nat) : Int) := by
  rw [crcMoreV, if_neg (by omega)]
theorem moreV_range (crc : Int) (s : ByteArray) : 0 ≤ crcMoreV crc s ∧ crcMoreV crc s ≤ 4294967295 := by
  unfold crcMoreV; split
  · omega
  · have := crcOf_lt crc.toNat s (by omega); omega
theorem take_none (s : ByteArray) : s.data.toList.take 0 = [] := rfl
theorem take_all (s : ByteArray) (k : Nat) (h : s.size ≤ k) : s.data.toList.take k = s.data.toList := List.take_of_length_le (by simpa using h)
theorem byte_range (s : ByteArray) (k : Nat) (hlt : k < s.size) : (0 : Int) ≤ (s[k].toNat : Int) ∧ (s[k].toNat : Int) ≤ 255 := by
  have := s[k].toNat_lt; omega
/-- The relation of a loop over the text: the register behind k bytes. -/
def Reg (crc : Int) (s : ByteArray) (k : Nat) (x : Int) : Prop := 0 ≤ x ∧ x ≤ 4294967295 ∧ x = ((crcL (tw crc.toNat) (s.data.toList.take k) : Nat) : Int)
theorem reg_start {crc x : Int} {s : ByteArray} (h0 : 0 ≤ crc) (h1 : crc ≤ 4294967295) (hx : x = ((tw crc.toNat : Nat) : Int)) : Reg crc s 0 x := by
  have := tw_lt (x := crc.toNat) (by omega)
  refine ⟨by omega, by omega, ?_⟩
  rw [take_none]; exact hx
theorem reg_next {crc x y : Int} {s : ByteArray} {k : Nat} (hlt : k < s.size) (h : Reg crc s k x) (hy : y = ((cb x.toNat (s[k].toNat : Int).toNat : Nat) : Int)) : Reg crc s (k + 1) y := by
  obtain ⟨a, b, c⟩ := h
  have := cb_lt (r := x.toNat) (c := (s[k].toNat : Int).toNat) (by omega) (by have := s[k].toNat_lt; omega)
  refine ⟨by omega, by omega, ?_⟩
  rw [take_snoc s k hlt, crcL_snoc, hy, c]; simp
theorem reg_end {crc x : Int} {s : ByteArray} {k : Nat} (hk : s.size ≤ k) (h : Reg crc s k x) : ((tw x.toNat : Nat) : Int) = ((crcOf crc.toNat s : Nat) : Int) := by
  obtain ⟨a, b, c⟩ := h
  rw [take_all s k hk] at c
  rw [c, crcOf]; simp

theorem implCrcMore (crc : Int) (s : ByteArray) (hs : s.size ≤ maxLen) (hc : (Lit.int .i64 crc).wf = true) (w : World) :
    Calls Try.prog 17 #[.int .i64 crc, .string s] w fun e w' => e = .returned (.int .i64 (crcMoreV crc s)) ∧ w = w' := by
  unfold maxLen at hs
  by_cases h8 : 8000 < s.size
  · have h8i : (8000 : Int) < (s.size : Int) := by omega
    have hv := Lib.hid (moreV_no (crc := crc) (.inl h8))
    go_enter Try.func17, Try.ntmps17
    go_wp2_with fail
    go_ret
    exact ⟨ret_int hv.out.symm, rfl⟩
  have h8' : s.size ≤ 8000 := by omega
  have h8i : (s.size : Int) ≤ 8000 := by omega
  clear h8
  by_cases hl : crc < 0
  · have hv := Lib.hid (moreV_no (s := s) (.inr (.inl hl)))
    go_enter Try.func17, Try.ntmps17
    go_wp2_with fail
    go_ret
    exact ⟨ret_int hv.out.symm, rfl⟩
  have hl' : 0 ≤ crc := by omega
  clear hl
  by_cases hg : 4294967295 < crc
  · have hv := Lib.hid (moreV_no (s := s) (.inr (.inr hg)))
    go_enter Try.func17, Try.ntmps17
    go_wp2_with fail
    go_ret
    exact ⟨ret_int hv.out.symm, rfl⟩
  have hg' : crc ≤ 4294967295 := by omega
  clear hg
  have hv := Lib.hid (moreV_yes h8' hl' hg')
  have hst := Lib.hid (tw_l hl' hg')
  go_enter Try.func17, Try.ntmps17
  go_wp2_with fail
  go_loop [5, 23] (fun v i => ∃ k : Nat, ∃ x : Int, k ≤ s.size ∧ Hid (Reg crc s k x) ∧ 0 ≤ x ∧ x ≤ 4294967295 ∧ i = .int .i64 k ∧ v = .int .u32 x) (fun _ i => s.size - (intOf i).toNat)
  case atStart => exact ⟨0, _, by omega, Lib.hid (reg_start hl' hg' hst.out), (reg_start (s := s) hl' hg' hst.out).1, (reg_start (s := s) hl' hg' hst.out).2.1, rfl, rfl⟩
  case round =>
    obtain ⟨k, x, hk, hreg, hx0, hx1, rfl, rfl⟩ := hrel
    by_cases hlt : k < s.size
    · have ⟨hb0, hb1⟩ := byte_range s k hlt
      have hnext := Lib.hid (reg_next hlt hreg.out rfl)
      go_wp2_with (go_at_call 38; refine (crcByte_any x _ hx0 hx1 hb0 hb1 _).mono ?_; rintro e w' ⟨rfl, rfl⟩)
      go_round
      case rel => exact ⟨k + 1, _, by omega, hnext, hnext.out.1, hnext.out.2.1, by go_num, rfl⟩
      case measure => simp [intOf]; omega
    · have hfin := Lib.hid (tw_l hx0 hx1)
      have ⟨hf0, hf1⟩ := tw_l_in hx0 hx1
      go_wp2_with fail
      go_ret
      exact ⟨ret_int (by rw [hfin.out, hv.out]; exact reg_end (by omega) hreg.out), rfl⟩

theorem l01Crc (crc : Int) (s : ByteArray) (hs : s.size ≤ maxLen) (hl' : 0 ≤ crc) (hg' : crc ≤ 4294967295) (w : World) :
    Calls Try.prog 35 #[.int .i64 crc, .string s] w fun e w' => e = .returned (.int .i64 ((crcOf crc.toNat s : Nat) : Int)) ∧ w = w' := by
  unfold maxLen at hs
  have hst := Lib.hid (tw_r hl' hg')
  go_enter Try.func35, Try.ntmps35
  go_wp2_with fail
  go_loop [5, 6] (fun v i => ∃ k : Nat, ∃ x : Int, k ≤ s.size ∧ Hid (Reg crc s k x) ∧ 0 ≤ x ∧ x ≤ 4294967295 ∧ i = .int .i64 k ∧ v = .int .u32 x) (fun _ i => s.size - (intOf i).toNat)
  case atStart => exact ⟨0, _, by omega, Lib.hid (reg_start hl' hg' hst.out), (reg_start (s := s) hl' hg' hst.out).1, (reg_start (s := s) hl' hg' hst.out).2.1, rfl, rfl⟩
  case round =>
    obtain ⟨k, x, hk, hreg, hx0, hx1, rfl, rfl⟩ := hrel
    by_cases hlt : k < s.size
    · have ⟨hb0, hb1⟩ := byte_range s k hlt
      have hx := Lib.hid (xor_eq x (s[k].toNat : Int) hx0 hx1 hb0 (by omega))
      have hxr := xor_range x (s[k].toNat : Int) hx0 hx1 hb0 (by omega)
      have hit : Hid (∀ j, it j (x.toNat ^^^ (s[k].toNat : Int).toNat) < 4294967296) := Lib.hid fun j => it_lt j (xor_lt (by omega) (by omega))
      obtain ⟨z, hz⟩ : ∃ z, z = x.toNat ^^^ (s[k].toNat : Int).toNat := ⟨_, rfl⟩
      rw [← hz] at hx hit
      have hnext : Hid (Reg crc s (k + 1) ((it 8 z : Nat) : Int)) := Lib.hid (by rw [hz]; exact reg_next hlt hreg.out rfl)
      clear hz
      go_wp2_with fail
      go_loop [5, 7] (fun v i => ∃ j : Nat, ∃ y : Int, j ≤ 8 ∧ 0 ≤ y ∧ y ≤ 4294967295 ∧ Hid (y = ((it j z : Nat) : Int)) ∧ i = .int .i64 j ∧ v = .int .u32 y) (fun _ i => 8 - (intOf i).toNat)
      case atStart => exact ⟨0, _, by omega, hxr.1, hxr.2, hx, rfl, rfl⟩
      case round =>
        obtain ⟨j, y, hj, hy0, hy1, hye, rfl, rfl⟩ := hrel
        by_cases hj8 : j < 8
        · have hyy : Hid ((bits BinOp.and IntKind.u32 y 1 == 1) = true → bits BinOp.xor IntKind.u32 (y / 2) 3988292384 = ((it (j + 1) z : Nat) : Int)) := Lib.hid fun t => st_yes hye.out hy1 t
          have hyn : Hid ((bits BinOp.and IntKind.u32 y 1 == 1) = false → y / 2 = ((it (j + 1) z : Nat) : Int)) := Lib.hid fun t => st_no hye.out hy1 t
          have hlj := hit.out (j + 1)
          go_wp2_with fail
          · have t : (bits BinOp.and IntKind.u32 y 1 == 1) = true := by assumption
            go_round
            case rel => exact ⟨j + 1, _, by omega, by rw [hyy.out t]; omega, by rw [hyy.out t]; omega, Lib.hid (hyy.out t), by go_num, rfl⟩
            case measure => simp [intOf]; omega
          · have t : (bits BinOp.and IntKind.u32 y 1 == 1) = false := by assumption
            go_round
            case rel => exact ⟨j + 1, _, by omega, by rw [hyn.out t]; omega, by rw [hyn.out t]; omega, Lib.hid (hyn.out t), by go_num, rfl⟩
            case measure => simp [intOf]; omega
        · have hj8' : Hid (j = 8) := Lib.hid (by omega)
          go_wp2_with fail
          have hnx : Reg crc s (k + 1) y := by rw [hye.out, hj8'.out]; exact hnext.out
          have HN := Lib.hid hnx
          clear hnx
          go_round
          case rel => exact ⟨k + 1, _, by omega, HN, hy0, hy1, by go_num, rfl⟩
          case measure => simp [intOf]; omega
    · have hfin := Lib.hid (tw_r hx0 hx1)
      have ⟨hf0, hf1⟩ := tw_r_in hx0 hx1
      go_wp2_with fail
      go_ret
      exact ⟨ret_int (by rw [hfin.out]; exact reg_end (by omega) hreg.out), rfl⟩

theorem specCrcMore (crc : Int) (s : ByteArray) (hs : s.size ≤ maxLen) (hc : (Lit.int .i64 crc).wf = true) (w : World) :
    Calls Try.prog 18 #[.int .i64 crc, .string s] w fun e w' => e = .returned (.int .i64 (crcMoreV crc s)) ∧ w = w' := by
  have hs' := hs
  unfold maxLen at hs'
  by_cases h8 : 8000 < s.size
  · have h8i : (8000 : Int) < (s.size : Int) := by omega
    have hv := Lib.hid (moreV_no (crc := crc) (.inl h8))
    go_enter Try.func18, Try.ntmps18
    go_wp2_with fail
    go_ret
    exact ⟨ret_int hv.out.symm, rfl⟩
  have h8' : s.size ≤ 8000 := by omega
  have h8i : (s.size : Int) ≤ 8000 := by omega
  clear h8
  by_cases hl : crc < 0
  · have hv := Lib.hid (moreV_no (s := s) (.inr (.inl hl)))
    go_enter Try.func18, Try.ntmps18
    go_wp2_with fail
    go_ret
    exact ⟨ret_int hv.out.symm, rfl⟩
  have hl' : 0 ≤ crc := by omega
  clear hl
  by_cases hg : 4294967295 < crc
  · have hv := Lib.hid (moreV_no (s := s) (.inr (.inr hg)))
    go_enter Try.func18, Try.ntmps18
    go_wp2_with fail
    go_ret
    exact ⟨ret_int hv.out.symm, rfl⟩
  have hg' : crc ≤ 4294967295 := by omega
  clear hg
  have hv := Lib.hid (moreV_yes h8' hl' hg')
  go_enter Try.func18, Try.ntmps18
  go_wp2_with (go_at_call 35; refine (l01Crc crc s hs hl' hg' _).mono ?_; rintro e w' ⟨rfl, rfl⟩)
  go_ret
  exact ⟨ret_int hv.out.symm, rfl⟩

theorem implCrc (s : ByteArray) (hs : s.size ≤ maxLen) (w : World) :
    Calls Try.prog 19 #[.string s] w fun e w' => e = .returned (.int .i64 (crcMoreV 0 s)) ∧ w = w' := by
  go_enter Try.func19, Try.ntmps19
  go_wp2_with (go_at_call 17; refine (implCrcMore 0 s hs (by decide) _).mono ?_; rintro e w' ⟨rfl, rfl⟩)
  go_ret
  exact ⟨rfl, rfl⟩

theorem specCrc (s : ByteArray) (hs : s.size ≤ maxLen) (w : World) :
    Calls Try.prog 26 #[.string s] w fun e w' => e = .returned (.int .i64 (crcMoreV 0 s)) ∧ w = w' := by
  have hs' := hs
  unfold maxLen at hs'
  by_cases h8 : 8000 < s.size
  · have h8i : (8000 : Int) < (s.size : Int) := by omega
    have hv := Lib.hid (moreV_no (crc := 0) (.inl h8))
    go_enter Try.func26, Try.ntmps26
    go_wp2_with fail
    go_ret
    exact ⟨ret_int hv.out.symm, rfl⟩
  have h8' : s.size ≤ 8000 := by omega
  have h8i : (s.size : Int) ≤ 8000 := by omega
  clear h8
  have hv := Lib.hid (moreV_yes (crc := 0) h8' (by omega) (by omega))
  go_enter Try.func26, Try.ntmps26
  go_wp2_with (go_at_call 35; refine (l01Crc 0 s hs (by omega) (by omega) _).mono ?_; rintro e w' ⟨rfl, rfl⟩)
  go_ret
  exact ⟨ret_int hv.out.symm, rfl⟩
end Go.Proofs.Ytpfgmdlkacildaa.Crcs
