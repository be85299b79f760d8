/-
  Contracts: impl.Unseal and spec.Unseal answer the struct unR; of what was there nothing is changed. Conditions: a text of at most maxLen bytes.
-/
import Derived.Test.YtpfgmdlkacildaaRows
import Derived.Test.YtpfgmdlkacildaaSeal
import Derived.Deep.RegionWith
import Derived.IntWalk
namespace Go.Proofs.Ytpfgmdlkacildaa.Unseals
open Go.RowKit CrcMath Crcs Texts Seals
set_option linter.unusedVariables false

def okB (s : ByteArray) : Bool := (sealB (s.extract 0 (s.size - 4))).toList == s.toList
def unV (t : ByteArray) (c : Int) : Value := .agg #[.string t, .int .i64 0, .int .i64 c]
def unR (s : ByteArray) : Value :=
  if 8000 < s.size then unV ⟨#[]⟩ 2 else if s.size < 4 then unV ⟨#[]⟩ 4 else if okB s = true then unV (s.extract 0 (s.size - 4)) 0 else unV ⟨#[]⟩ 5
theorem unR_long {s : ByteArray} (h : 8000 < s.size) : unR s = unV ⟨#[]⟩ 2 := by rw [unR, if_pos h]
theorem unR_short {s : ByteArray} (h : s.size < 4) : unR s = unV ⟨#[]⟩ 4 := by rw [unR, if_neg (by omega), if_pos h]
theorem unR_yes {s : ByteArray} (h : s.size ≤ 8000) (h' : 4 ≤ s.size) (ho : okB s = true) : unR s = unV (s.extract 0 (s.size - 4)) 0 := by
  rw [unR, if_neg (by omega), if_neg (by omega), if_pos ho]
theorem unR_no {s : ByteArray} (h : s.size ≤ 8000) (h' : 4 ≤ s.size) (ho : okB s = false) : unR s = unV ⟨#[]⟩ 5 := by
  rw [unR, if_neg (by omega), if_neg (by omega), if_neg (by rw [ho]; exact Bool.false_ne_true)]
theorem unR_form (s : ByteArray) : ∃ t c, unR s = .agg #[.string t, .int .i64 0, .int .i64 c] := by
  unfold unR
  split
  · exact ⟨_, _, rfl⟩
  · split
    · exact ⟨_, _, rfl⟩
    · split
      · exact ⟨_, _, rfl⟩
      · exact ⟨_, _, rfl⟩
theorem ret_eq {a b : Value} (h : a = b) : Ending.returned a = .returned b := by rw [h]

/-- The three cells of a result that lies in a block, kept behind a call that changes nothing below it. -/
theorem keep3 {w w1 : World} {a b c : Value} {T : TypeId} (hb : Below (w.heap.size + 1) (w.alloc (.cells #[a, b, c] T)) w1) :
    (w1.cell? ⟨w.heap.size, 0, none⟩ = some a ∧ w1.cell? ⟨w.heap.size, 1, none⟩ = some b ∧ w1.cell? ⟨w.heap.size, 2, none⟩ = some c) ∧
    (w1.frozen? ⟨w.heap.size, 0, none⟩ = false ∧ w1.frozen? ⟨w.heap.size, 1, none⟩ = false ∧ w1.frozen? ⟨w.heap.size, 2, none⟩ = false) := by
  refine ⟨⟨?_, ?_, ?_⟩, ?_, ?_, ?_⟩
  · rw [hb.cell (p := ⟨w.heap.size, 0, none⟩) (Nat.lt_succ_self _)]; simp
  · rw [hb.cell (p := ⟨w.heap.size, 1, none⟩) (Nat.lt_succ_self _)]; simp
  · rw [hb.cell (p := ⟨w.heap.size, 2, none⟩) (Nat.lt_succ_self _)]; simp
  · rw [hb.frozen (p := ⟨w.heap.size, 0, none⟩) (Nat.lt_succ_self _)]; simp
  · rw [hb.frozen (p := ⟨w.heap.size, 1, none⟩) (Nat.lt_succ_self _)]; simp
  · rw [hb.frozen (p := ⟨w.heap.size, 2, none⟩) (Nat.lt_succ_self _)]; simp

/-- Below behind the three stores into the result's block. -/
theorem below3 {w w1 : World} {C : Array Value} {T : TypeId} (hb : Below (w.heap.size + 1) (w.alloc (.cells C T)) w1) (a b c : Value) :
    Below w.heap.size w (((w1.setCell ⟨w.heap.size, 0, none⟩ a).setCell ⟨w.heap.size, 1, none⟩ b).setCell ⟨w.heap.size, 2, none⟩ c) :=
  (((((Below.refl _ w).alloc (Nat.le_refl _) _).trans (hb.mono (Nat.le_succ _))).setCell (by simp) _).setCell (by simp) _).setCell (by simp) _

theorem implUnseal (s : ByteArray) (hs : s.size ≤ maxLen) (w : World) :
    Calls Try.prog 15 #[.string s] w fun e w' => e = .returned (unR s) ∧ Below w.heap.size w w' := by
  unfold maxLen at hs
  by_cases h8 : 8000 < s.size
  · have h8i : (8000 : Int) < (s.size : Int) := by omega
    have hv := Lib.hid (unR_long h8)
    clear h8
    go_enter Try.func15, Try.ntmps15
    go_wp2_with fail
    exact bodyPost_ret (v := unV ⟨#[]⟩ 2) (by simp [results, Try.results15, unV, go_sem]) rfl ⟨ret_eq hv.out.symm, (Below.refl _ _).alloc (Nat.le_refl _) _⟩
  have h8' : s.size ≤ 8000 := by omega
  have h8i : (s.size : Int) ≤ 8000 := by omega
  clear h8
  by_cases h4 : s.size < 4
  · have h4i : (s.size : Int) < 4 := by omega
    have hv := Lib.hid (unR_short h4)
    clear h4
    go_enter Try.func15, Try.ntmps15
    go_wp2_with fail
    exact bodyPost_ret (v := unV ⟨#[]⟩ 4) (by simp [results, Try.results15, unV, go_sem]) rfl ⟨ret_eq hv.out.symm, (Below.refl _ _).alloc (Nat.le_refl _) _⟩
  have h4' : 4 ≤ s.size := by omega
  have h4i : (4 : Int) ≤ (s.size : Int) := by omega
  have hin : (s.extract 0 (s.size - 4)).size ≤ 7996 := by simp; omega
  clear h4
  obtain ⟨b, hT⟩ : ∃ b, ((sealB (s.extract 0 (s.size - 4))).toList == s.toList) = b := ⟨_, rfl⟩
  cases b
  · have hv := Lib.hid (unR_no h8' h4' hT)
    go_enter Try.func15, Try.ntmps15
    go_wp2_with fail
    refine (clone _ _ (by omega)).mono ?_
    rintro e w1 ⟨rfl, hb1⟩
    have hb1' := hb1.mono (Nat.le_of_eq (by simp : w.heap.size + 1 = _))
    go_wp2_with fail
    refine (implSeal _ (by unfold maxLen; omega) _).mono ?_
    rintro e w2 ⟨rfl, hb2⟩
    have hb2' := hb1'.trans (hb2.mono (by have := hb1'.size; simp at this; omega))
    have ⟨⟨c0, c1, c2⟩, f0, f1, f2⟩ := keep3 hb2'
    have hz := hb2'.size
    go_wp2_with fail
    exact bodyPost_ret (v := unV ⟨#[]⟩ 5) (by simp [results, Try.results15, unV, go_sem, c0, c1, c2]) rfl ⟨ret_eq hv.out.symm, below3 hb2' _ _ _⟩
  · have hv := Lib.hid (unR_yes h8' h4' hT)
    go_enter Try.func15, Try.ntmps15
    go_wp2_with fail
    refine (clone _ _ (by omega)).mono ?_
    rintro e w1 ⟨rfl, hb1⟩
    have hb1' := hb1.mono (Nat.le_of_eq (by simp : w.heap.size + 1 = _))
    go_wp2_with fail
    refine (implSeal _ (by unfold maxLen; omega) _).mono ?_
    rintro e w2 ⟨rfl, hb2⟩
    have hb2' := hb1'.trans (hb2.mono (by have := hb1'.size; simp at this; omega))
    have ⟨⟨c0, c1, c2⟩, f0, f1, f2⟩ := keep3 hb2'
    have hz := hb2'.size
    go_wp2_with fail
    exact bodyPost_ret (v := unV (s.extract 0 (s.size - 4)) 0) (by simp [results, Try.results15, unV, go_sem, c0, c1, c2]) rfl ⟨ret_eq hv.out.symm, below3 hb2' _ _ _⟩

theorem str_inj {a b : ByteArray} : a.toList = b.toList ↔ a = b := by
  constructor
  · intro h
    rw [Lib.toList_data, Lib.toList_data] at h
    exact ByteArray.ext (Array.toList_inj.1 h)
  · rintro rfl; rfl
theorem beq_str {a b : ByteArray} {c : Bool} (h : (a.toList == b.toList) = c) : c = decide (a.toList = b.toList) := by
  subst h; rw [Bool.eq_iff_iff]; simp
theorem okB_iff {s : ByteArray} (h : s.size ≤ 8000) (h' : 4 ≤ s.size) :
    okB s = ((four (crcMoreV 0 (s.extract 0 (s.size - 4)))).toList == (s.extract (s.size - 4) s.size).toList) := by
  have hin : (s.extract 0 (s.size - 4)).size ≤ 7996 := by simp; omega
  unfold okB
  rw [sealB_yes hin, Bool.eq_iff_iff, beq_iff_eq, beq_iff_eq]
  rw [Lib.toList_data, Lib.toList_data, Lib.toList_data, Lib.toList_data, Lib.extract_data, ByteArray.toList_data_append, Lib.extract_data]
  have e1 : (s.data.toList.drop 0).take (s.size - 4 - 0) = s.data.toList.take (s.size - 4) := by simp
  have e2 : (s.data.toList.drop (s.size - 4)).take (s.size - (s.size - 4)) = s.data.toList.drop (s.size - 4) := by
    rw [List.take_of_length_le]; rw [List.length_drop, Array.length_toList]; exact Nat.le_refl _
  rw [e1, e2]
  generalize hl : s.data.toList = l
  generalize (four (crcMoreV 0 (s.extract 0 (s.size - 4)))).data.toList = f
  constructor
  · intro e
    have := congrArg (List.drop (s.size - 4)) e
    rw [List.drop_append_of_le_length (by rw [List.length_take]; have : l.length = s.size := by rw [← hl, Array.length_toList]; rfl
                                          omega)] at this
    rw [← this, List.drop_of_length_le (by rw [List.length_take]; omega), List.nil_append]
  · intro e
    rw [e]; exact List.take_append_drop _ _

set_option maxHeartbeats 2000000 in
theorem specUnseal (s : ByteArray) (hs : s.size ≤ maxLen) (w : World) :
    Calls Try.prog 27 #[.string s] w fun e w' => e = .returned (unR s) ∧ Below w.heap.size w w' := by
  unfold maxLen at hs
  by_cases h8 : 8000 < s.size
  · have h8i : (8000 : Int) < (s.size : Int) := by omega
    have hv := Lib.hid (unR_long h8)
    clear h8
    go_enter Try.func27, Try.ntmps27
    go_wp2_with fail
    exact bodyPost_ret (v := unV ⟨#[]⟩ 2) (by simp [results, Try.results27, unV, go_sem]) rfl ⟨ret_eq hv.out.symm, (Below.refl _ _).alloc (Nat.le_refl _) _⟩
  have h8' : s.size ≤ 8000 := by omega
  have h8i : (s.size : Int) ≤ 8000 := by omega
  clear h8
  by_cases h4 : s.size < 4
  · have h4i : (s.size : Int) < 4 := by omega
    have hv := Lib.hid (unR_short h4)
    clear h4
    go_enter Try.func27, Try.ntmps27
    go_wp2_with fail
    exact bodyPost_ret (v := unV ⟨#[]⟩ 4) (by simp [results, Try.results27, unV, go_sem]) rfl ⟨ret_eq hv.out.symm, (Below.refl _ _).alloc (Nat.le_refl _) _⟩
  have h4' : 4 ≤ s.size := by omega
  have h4i : (4 : Int) ≤ (s.size : Int) := by omega
  have hin : (s.extract 0 (s.size - 4)).size ≤ 7996 := by simp; omega
  clear h4
  have hok := okB_iff h8' h4'
  have ⟨g0, g1⟩ := moreV_range 0 (s.extract 0 (s.size - 4))
  obtain ⟨n, hn⟩ : ∃ n, n = crcMoreV 0 (s.extract 0 (s.size - 4)) := ⟨_, rfl⟩
  have HC : Hid (∀ w, Calls Try.prog 35 #[.int .i64 0, .string (s.extract 0 (s.size - 4))] w fun e w' => e = .returned (.int .i64 n) ∧ w = w') := Lib.hid (by
    rw [hn, moreV_yes (by omega) (by omega) (by omega)]; exact Crcs.l01Crc 0 _ (by unfold maxLen; omega) (by omega) (by omega))
  rw [← hn] at hok g0 g1
  clear hn
  obtain ⟨b, hT⟩ : ∃ b, ((four n).toList == (s.extract (s.size - 4) s.size).toList) = b := ⟨_, rfl⟩
  rw [hT] at hok
  have hv : Hid (unR s = bif b then unV (s.extract 0 (s.size - 4)) 0 else unV ⟨#[]⟩ 5) := Lib.hid (by
    cases b
    · exact unR_no h8' h4' hok
    · exact unR_yes h8' h4' hok)
  clear hok
  go_enter Try.func27, Try.ntmps27
  go_wp2_with fail
  have a1 : IntKind.i64.wrap ((s.size : Int) - 4) = (s.size : Int) - 4 := IntWalk.i64_in _ (by omega)
  have a2 : (0 : Int) ≤ (s.size : Int) - 4 := by omega
  have a3 : ((s.size : Int) - 4).toNat = s.size - 4 := by omega
  go_region_with (first | (go_at_call 35; refine (HC.out _).mono ?_; rintro e w' ⟨rfl, rfl⟩) | (go_at_call 34; refine (Seals.l01Four n g0 g1 _).mono ?_; rintro e w1 ⟨rfl, hb1⟩))
  all_goals
    clear a1 a2 a3
    have hb1' := ((Below.refl _ _).drew).trans (hb1.mono (Nat.le_of_eq (by simp : w.heap.size + 1 = _)))
    have ⟨⟨c0, c1, c2⟩, f0, f1, f2⟩ := keep3 hb1'
    have hz := hb1'.size
    cases b
    · go_wp2_with fail
      exact bodyPost_ret (v := unV ⟨#[]⟩ 5) (by simp [results, Try.results27, unV, go_sem, c0, c1, c2]) rfl ⟨ret_eq hv.out.symm, below3 hb1' _ _ _⟩
    · go_wp2_with fail
      exact bodyPost_ret (v := unV (s.extract 0 (s.size - 4)) 0) (by simp [results, Try.results27, unV, go_sem, c0, c1, c2]) rfl ⟨ret_eq hv.out.symm, below3 hb1' _ _ _⟩
end Go.Proofs.Ytpfgmdlkacildaa.Unseals
