/-
  Contracts: spec.l01Four answers a number's four bytes, impl.Seal and spec.Seal the text sealB; of what was there nothing is changed. Conditions: a number of 0 to 2^32-1, a text of at most maxLen bytes.
-/
import Derived.Test.YtpfgmdlkacildaaRows
import Derived.Test.YtpfgmdlkacildaaCrc
import Derived.Test.YtpfgmdlkacildaaText
namespace Go.Proofs.Ytpfgmdlkacildaa.Seals
open Go.RowKit CrcMath Crcs Texts
set_option linter.unusedVariables false

def u8of (n : Int) : UInt8 := n.toNat.toUInt8
theorem u8of_val {n : Int} (h0 : 0 ≤ n) (h1 : n < 256) : ((u8of n).toNat : Int) = n := by
  simp [u8of]; omega
def fourL (n : Int) : List UInt8 := [u8of (n % 256), u8of (n / 256 % 256), u8of (n / 65536 % 256), u8of (n / 16777216)]
def four (n : Int) : ByteArray := ⟨(fourL n).toArray⟩
theorem four_size (n : Int) : (four n).size = 4 := rfl
theorem conv4 (n : Int) (h0 : 0 ≤ n) (h1 : n ≤ 4294967295) (T : TypeId) (w : World) :
    Sem.run Try.prog (convert 22 9 (Value.slice (some { block := w.heap.size, off := 0 }) 4 4))
      (w.alloc (Obj.cells #[Value.int IntKind.u8 (n % 256), Value.int IntKind.u8 (n / 256 % 256), Value.int IntKind.u8 (n / 65536 % 256), Value.int IntKind.u8 (n / 16777216)] T)) =
    Result.ok (.string (four n)) (w.alloc (Obj.cells #[Value.int IntKind.u8 (n % 256), Value.int IntKind.u8 (n / 256 % 256), Value.int IntKind.u8 (n / 65536 % 256), Value.int IntKind.u8 (n / 16777216)] T)) := by
  refine string_of_row (l := fourL n) (heap_alloc_new w _) ?_ rfl 4
  simp only [fourL, Lib.byteCells, List.map_cons, List.map_nil]
  rw [u8of_val (by omega) (by omega), u8of_val (by omega) (by omega), u8of_val (by omega) (by omega), u8of_val (by omega) (by omega)]
theorem below_four (w : World) (o : Obj) : Below w.heap.size w (w.alloc o) := (Below.refl _ _).alloc (Nat.le_refl _) _

theorem l01Four (n : Int) (h0 : 0 ≤ n) (h1 : n ≤ 4294967295) (w : World) :
    Calls Try.prog 34 #[.int .i64 n] w fun e w' => e = .returned (.string (four n)) ∧ Below w.heap.size w w' := by
  have hcv := conv4 n h0 h1 5 w
  go_enter Try.func34, Try.ntmps34
  go_wp2_with fail
  go_ret
  exact ⟨rfl, below_four _ _⟩

def sealB (s : ByteArray) : ByteArray := if 7996 < s.size then ByteArray.empty else s ++ four (crcMoreV 0 s)
theorem sealB_no {s : ByteArray} (h : 7996 < s.size) : sealB s = ByteArray.empty := by rw [sealB, if_pos h]
theorem sealB_yes {s : ByteArray} (h : s.size ≤ 7996) : sealB s = s ++ four (crcMoreV 0 s) := by rw [sealB, if_neg (by omega)]
theorem ret_string {a b : ByteArray} (h : a = b) : Ending.returned (.string a) = .returned (.string b) := by rw [h]

theorem implSeal (s : ByteArray) (hs : s.size ≤ maxLen) (w : World) :
    Calls Try.prog 12 #[.string s] w fun e w' => e = .returned (.string (sealB s)) ∧ Below w.heap.size w w' := by
  by_cases h8 : 7996 < s.size
  · have h8i : (7996 : Int) < (s.size : Int) := by omega
    have hv := Lib.hid (sealB_no h8)
    clear h8
    unfold maxLen at hs
    go_enter Try.func12, Try.ntmps12
    go_wp2_with fail
    go_ret
    exact ⟨ret_string hv.out.symm, Below.refl _ _⟩
  · have h8' : s.size ≤ 7996 := by omega
    have h8i : (s.size : Int) ≤ 7996 := by omega
    clear h8
    have hv := Lib.hid (sealB_yes h8')
    have ⟨g0, g1⟩ := moreV_range 0 s
    obtain ⟨n, hn⟩ : ∃ n, n = crcMoreV 0 s := ⟨_, rfl⟩
    have HC : Hid (∀ w, Calls Try.prog 19 #[.string s] w fun e w' => e = .returned (.int .i64 n) ∧ w = w') := Lib.hid (by rw [hn]; exact implCrc s hs)
    rw [← hn] at hv g0 g1
    clear hn
    have hcv := conv4 n g0 g1 43 w
    have h4 : (four n).size ≤ 4 := Nat.le_of_eq (four_size n)
    go_enter Try.func12, Try.ntmps12
    go_wp2_with (first | (go_at_call 19; refine (HC.out _).mono ?_; rintro e w' ⟨rfl, rfl⟩) | (go_at_call 33; refine (joined_any s (four n) _ (by omega)).mono ?_; rintro e w' ⟨rfl, hb⟩))
    go_ret
    exact ⟨ret_string hv.out.symm, (below_four _ _).trans (hb.mono (by simp))⟩

theorem specSeal (s : ByteArray) (hs : s.size ≤ maxLen) (w : World) :
    Calls Try.prog 13 #[.string s] w fun e w' => e = .returned (.string (sealB s)) ∧ Below w.heap.size w w' := by
  by_cases h8 : 7996 < s.size
  · have h8i : (7996 : Int) < (s.size : Int) := by omega
    have hv := Lib.hid (sealB_no h8)
    clear h8
    unfold maxLen at hs
    go_enter Try.func13, Try.ntmps13
    go_wp2_with fail
    go_ret
    exact ⟨ret_string hv.out.symm, Below.refl _ _⟩
  · have h8' : s.size ≤ 7996 := by omega
    have h8i : (s.size : Int) ≤ 7996 := by omega
    clear h8
    have hv := Lib.hid (sealB_yes h8')
    have ⟨g0, g1⟩ := moreV_range 0 s
    obtain ⟨n, hn⟩ : ∃ n, n = crcMoreV 0 s := ⟨_, rfl⟩
    have HC : Hid (∀ w, Calls Try.prog 35 #[.int .i64 0, .string s] w fun e w' => e = .returned (.int .i64 n) ∧ w = w') := Lib.hid (by
      rw [hn, moreV_yes (by omega) (by omega) (by omega)]; exact l01Crc 0 s hs (by omega) (by omega))
    rw [← hn] at hv g0 g1
    clear hn
    have h4 : (four n).size ≤ 4 := Nat.le_of_eq (four_size n)
    go_enter Try.func13, Try.ntmps13
    go_wp2_with (first | (go_at_call 35; refine (HC.out _).mono ?_; rintro e w' ⟨rfl, rfl⟩) | (go_at_call 34; refine (l01Four n g0 g1 _).mono ?_; rintro e w' ⟨rfl, hb⟩))
    go_ret
    exact ⟨ret_string hv.out.symm, hb⟩
end Go.Proofs.Ytpfgmdlkacildaa.Seals
