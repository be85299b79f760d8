/-
  Contracts: impl.readNum.
-/
import Derived.Test.YtlncdkeooacebaaDoorRows
import Derived.Test.YtlncdkeooacebaaDoorBits
import Derived.Test.YtlncdkeooacebaaDoorErrAs
import Derived.Test.YtlncdkeooacebaaDoorText
namespace Go.Proofs.YtlncdkeooacebaaDoor.Gets
open Go.RowKit NumMath Bits ErrAs Texts
set_option linter.unusedVariables false

def resN (r : Int × Int × Int) : Value := .tuple #[.int .i64 r.1, .int .i64 r.2.1, errV r.2.2]
theorem ret_eq {a b : Value} (h : a = b) : Ending.returned a = .returned b := by rw [h]

theorem i64_flip {x : Nat} (hx : x < 9223372036854775808) : bits BinOp.xor IntKind.i64 (x : Int) (-1) = -(x : Int) - 1 := by
  show IntKind.i64.wrap ((BitVec.ofInt 64 (x : Int) ^^^ BitVec.ofInt 64 (-1)).toNat : Int) = _
  have h1 : (BitVec.ofInt 64 (-1)).toNat = 18446744073709551615 := by decide
  have h2 : (BitVec.ofInt 64 (x : Int)).toNat = x := by
    rw [BitVec.ofInt_natCast, BitVec.toNat_ofNat]; exact Nat.mod_eq_of_lt (by omega)
  rw [BitVec.toNat_xor, h1, h2, ones_xor x (by omega), IntKind.wrap_i64]
  omega
theorem i64_same {x : Nat} (hx : x < 9223372036854775808) : bits BinOp.xor IntKind.i64 (x : Int) 0 = (x : Int) := by
  show IntKind.i64.wrap ((BitVec.ofInt 64 (x : Int) ^^^ BitVec.ofInt 64 0).toNat : Int) = _
  have h1 : (BitVec.ofInt 64 0).toNat = 0 := by decide
  have h2 : (BitVec.ofInt 64 (x : Int)).toNat = x := by
    rw [BitVec.ofInt_natCast, BitVec.toNat_ofNat]; exact Nat.mod_eq_of_lt (by omega)
  rw [BitVec.toNat_xor, h1, h2, Nat.xor_zero, IntKind.wrap_i64]
  omega
theorem and_1 {u : Nat} (h : u < 18446744073709551616) : bits BinOp.and IntKind.u64 (u : Int) 1 = ((u % 2 : Nat) : Int) := by
  rw [u64_and _ _ (by omega) (by omega) (by omega) (by omega)]
  have e : (1 : Int).toNat = 1 := rfl
  rw [e, nat_mask1, Int.toNat_natCast]
theorem zig {u : Nat} (h : u < 18446744073709551616) :
    bits BinOp.xor IntKind.i64 (wrap64 ((u : Int) / 2)) (wrap64 (-wrap64 (bits BinOp.and IntKind.u64 (u : Int) 1))) = unz u := by
  have e0 : wrap64 ((u : Int) / 2) = ((u / 2 : Nat) : Int) := by unfold wrap64; omega
  rw [e0, and_1 h]
  by_cases hu : u % 2 = 1
  · have e1 : wrap64 (-wrap64 ((u % 2 : Nat) : Int)) = -1 := by rw [hu]; unfold wrap64; omega
    rw [e1, i64_flip (by omega), unz, if_pos hu]
  · have e1 : wrap64 (-wrap64 ((u % 2 : Nat) : Int)) = 0 := by rw [show u % 2 = 0 by omega]; unfold wrap64; omega
    rw [e1, i64_same (by omega), unz, if_neg hu]

theorem readNum (s : ByteArray) (a : Int) (hs : s.size ≤ 8000) (h0 : -9223372036854775808 ≤ a) (h1 : a ≤ 9223372036854775807) (w : World) :
    Calls Tryd.prog 33 #[.string s, .int .i64 a] w fun e w' => e = .returned (resN (readN s a)) ∧ w = w' := by
  by_cases hn : a < 0
  · have hv := Lib.hid (readN_neg (s := s) hn)
    go_enter Tryd.func33, Tryd.ntmps33
    go_wp2_with fail
    go_ret3
    exact ⟨ret_eq (by rw [hv.out]; rfl), rfl⟩
  have hn' : 0 ≤ a := by omega
  clear hn
  by_cases hf : (s.size : Int) < a
  · have hv := Lib.hid (readN_far hn' hf)
    go_enter Tryd.func33, Tryd.ntmps33
    go_wp2_with fail
    go_ret3
    exact ⟨ret_eq (by rw [hv.out]; rfl), rfl⟩
  obtain ⟨p, rfl⟩ := Int.eq_ofNat_of_zero_le hn'
  have hp : p ≤ s.size := by omega
  clear hf
  have hsl := scan_lt (s.extract p s.size) 10 0 0 (by omega) (by decide)
  have HB := Lib.hid (fun w => readBits (s.extract p s.size) (by unfold maxLen; simp; omega) w)
  obtain ⟨R, hR⟩ : ∃ R, R = scan (s.extract p s.size) 10 0 0 := ⟨_, rfl⟩
  by_cases hc : R.2.2 = 0
  · have hv := readN_yes hp (by rw [← hR]; exact hc)
    rw [← hR] at hv HB hsl
    obtain ⟨u, z, c⟩ := R
    have hc' : c = 0 := hc
    have hr : resV (u, z, c) = .tuple #[.int .u64 u, .int .i64 z, .nilIface] := by simp [resV, errV, hc']
    rw [hr] at HB
    have HV := Lib.hid hv
    have HSL := Lib.hid hsl.1
    have hz : z ≤ 10 := hsl.2
    clear hr hv hR hc hc' hsl
    go_enter Tryd.func33, Tryd.ntmps33
    go_wp2_with fail
    refine (HB.out _).mono ?_
    rintro e w' ⟨rfl, rfl⟩
    go_wp2_with fail
    go_ret3
    exact ⟨ret_eq (by rw [HV.out, zig HSL.out]; rfl), rfl⟩
  · have hv := readN_no hp (by rw [← hR]; exact hc)
    rw [← hR] at hv HB
    obtain ⟨u, z, c⟩ := R
    have hc' : ¬ c = 0 := hc
    have hz : (u, z, c) = (0, 0, c) := scan_zero hR hc
    have hr : resV (u, z, c) = .tuple #[.int .u64 0, .int .i64 0, .iface 100 (.agg #[.int .i64 c])] := by rw [hz]; simp [resV, errV, hc']
    rw [hr] at HB
    have he : errV c = .iface 100 (.agg #[.int .i64 c]) := by simp [errV, hc']
    have hf : resN (readN s p) = .tuple #[.int .i64 0, .int .i64 0, .iface 100 (.agg #[.int .i64 c])] := by rw [hv, resN, he]
    have HF := Lib.hid hf
    clear hf hr hv hR hc hc' hz hsl he
    go_enter Tryd.func33, Tryd.ntmps33
    go_wp2_with fail
    refine (HB.out _).mono ?_
    rintro e w' ⟨rfl, rfl⟩
    go_wp2_with fail
    go_ret3
    exact ⟨ret_eq (by rw [HF.out]; rfl), rfl⟩

theorem code_any (c : Int) (w : World) (hg : ErrVar w) : Calls Tryd.prog 34 #[errV c] w fun e w' => e = .returned (.int .i64 c) ∧ Below w.heap.size w w' := by
  by_cases hc : c = 0
  · subst hc
    exact codeNil w
  · have he : errV c = .iface 100 (.agg #[.int .i64 c]) := by simp [errV, hc]
    rw [he]
    exact codeFault c w hg

/-- What GetNum answers: the number, the place behind it, the code. -/
def getN (s : ByteArray) (a : Int) : Int × Int × Int := if 8000 < s.size then (0, 0, 2) else readN s a
def numV (r : Int × Int × Int) : Value := .agg #[.int .i64 r.1, .int .i64 r.2.1, .int .i64 r.2.2]
/-- The three cells of a result that lies in a block, kept behind a call that changes nothing below it. -/
theorem keep3 {w w1 : World} {a b c : Value} {T : TypeId} (hb : Below (w.heap.size + 1) (w.alloc (.cells #[a, b, c] T)) w1) :
    (w1.cell? ⟨w.heap.size, 0, none⟩ = some a ∧ w1.cell? ⟨w.heap.size, 1, none⟩ = some b ∧ w1.cell? ⟨w.heap.size, 2, none⟩ = some c) ∧
    (w1.frozen? ⟨w.heap.size, 0, none⟩ = false ∧ w1.frozen? ⟨w.heap.size, 1, none⟩ = false ∧ w1.frozen? ⟨w.heap.size, 2, none⟩ = false) := by
  refine ⟨⟨?_, ?_, ?_⟩, ?_, ?_, ?_⟩
  · rw [hb.cell (p := ⟨w.heap.size, 0, none⟩) (Nat.lt_succ_self _)]; simp
  · rw [hb.cell (p := ⟨w.heap.size, 1, none⟩) (Nat.lt_succ_self _)]; simp
  · rw [hb.cell (p := ⟨w.heap.size, 2, none⟩) (Nat.lt_succ_self _)]; simp
  · rw [hb.frozen (p := ⟨w.heap.size, 0, none⟩) (Nat.lt_succ_self _)]; simp
  · rw [hb.frozen (p := ⟨w.heap.size, 1, none⟩) (Nat.lt_succ_self _)]; simp
  · rw [hb.frozen (p := ⟨w.heap.size, 2, none⟩) (Nat.lt_succ_self _)]; simp
theorem below3 {w w1 : World} {C : Array Value} {T : TypeId} (hb : Below (w.heap.size + 1) (w.alloc (.cells C T)) w1) (a b c : Value) :
    Below w.heap.size w (((w1.setCell ⟨w.heap.size, 0, none⟩ a).setCell ⟨w.heap.size, 1, none⟩ b).setCell ⟨w.heap.size, 2, none⟩ c) :=
  (((((Below.refl _ w).alloc (Nat.le_refl _) _).trans (hb.mono (Nat.le_succ _))).setCell (by simp) _).setCell (by simp) _).setCell (by simp) _

theorem implGetNum (s : ByteArray) (a : Int) (hs : s.size ≤ maxLen) (h0 : -9223372036854775808 ≤ a) (h1 : a ≤ 9223372036854775807) (w : World) (hg : ErrVar w) :
    Calls Tryd.prog 11 #[.string s, .int .i64 a] w fun e w' => e = .returned (numV (getN s a)) ∧ Below w.heap.size w w' := by
  have hs' := hs
  unfold maxLen at hs'
  by_cases h8 : 8000 < s.size
  · have h8i : (8000 : Int) < (s.size : Int) := by omega
    have hv : getN s a = (0, 0, 2) := by rw [getN, if_pos h8]
    have HV := Lib.hid hv
    clear h8 hv hg
    go_enter Tryd.func11, Tryd.ntmps11
    go_wp2_with fail
    exact bodyPost_ret (v := numV (0, 0, 2)) (by simp [results, Tryd.results11, numV, go_sem]) rfl ⟨ret_eq (by rw [HV.out]), (Below.refl _ _).alloc (Nat.le_refl _) _⟩
  · have h8' : s.size ≤ 8000 := by omega
    have h8i : (s.size : Int) ≤ 8000 := by omega
    have hv : getN s a = readN s a := by rw [getN, if_neg h8]
    have HRD := Lib.hid (fun w => readNum s a h8' h0 h1 w)
    obtain ⟨r, hr⟩ : ∃ r, r = readN s a := ⟨_, rfl⟩
    rw [← hr] at HRD hv
    obtain ⟨n, b, c⟩ := r
    have hrv : resN (n, b, c) = .tuple #[.int .i64 n, .int .i64 b, errV c] := rfl
    rw [hrv] at HRD
    have HV := Lib.hid hv
    have HG := Lib.hid (hg.below ((Below.refl _ w).alloc (Nat.le_refl _) (.cells #[.int .i64 0, .int .i64 0, .int .i64 0] 26)))
    clear hr hrv hv hg h8
    go_enter Tryd.func11, Tryd.ntmps11
    go_wp2_with fail
    refine (HRD.out _).mono ?_
    rintro e w' ⟨rfl, rfl⟩
    go_wp2_with fail
    refine (code_any c _ HG.out).mono ?_
    rintro e w1 ⟨rfl, hb1⟩
    have hb1' := hb1.mono (Nat.le_of_eq (by simp : w.heap.size + 1 = _))
    have ⟨⟨c0, c1, c2⟩, f0, f1, f2⟩ := keep3 hb1'
    have hz := hb1'.size
    go_wp2_with fail
    exact bodyPost_ret (v := numV (n, b, c)) (by simp [results, Tryd.results11, numV, go_sem, c0, c1, c2]) rfl ⟨ret_eq (by rw [HV.out]), below3 hb1' _ _ _⟩
end Go.Proofs.YtlncdkeooacebaaDoor.Gets
