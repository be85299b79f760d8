/-
  Plain mathematics on seals: a seal with one byte turned is none. No walk.
-/
import Derived.Test.YtpfgmdlkacildaaCrcInj
import Derived.Test.YtpfgmdlkacildaaUnseal
namespace Go.Proofs.Ytpfgmdlkacildaa.Unseals
open Go.RowKit CrcMath Crcs Texts Seals
set_option linter.unusedVariables false

theorem u8_eq {a b : Int} (ha : 0 ≤ a ∧ a < 256) (hb : 0 ≤ b ∧ b < 256) (h : u8of a = u8of b) : a = b := by
  have h1 := u8of_val ha.1 ha.2
  have h2 := u8of_val hb.1 hb.2
  rw [h] at h1; omega
theorem four_inj {a b : Int} (ha : 0 ≤ a ∧ a ≤ 4294967295) (hb : 0 ≤ b ∧ b ≤ 4294967295) (h : four a = four b) : a = b := by
  have h' : fourL a = fourL b := by
    have := congrArg ByteArray.data h
    simpa [four] using this
  simp only [fourL, List.cons.injEq, and_true] at h'
  obtain ⟨h1, h2, h3, h4⟩ := h'
  have e1 := u8_eq (by omega) (by omega) h1
  have e2 := u8_eq (by omega) (by omega) h2
  have e3 := u8_eq (by omega) (by omega) h3
  have e4 := u8_eq (by omega) (by omega) h4
  omega
/-- The text with the byte at a place put anew. -/
def turned (s : ByteArray) (k : Nat) (b : UInt8) : ByteArray := ⟨(s.data.toList.set k b).toArray⟩
theorem turned_list (s : ByteArray) (k : Nat) (b : UInt8) : (turned s k b).data.toList = s.data.toList.set k b := by simp [turned]
theorem turned_size (s : ByteArray) (k : Nat) (b : UInt8) : (turned s k b).size = s.size := by
  have h : (turned s k b).data.toList.length = s.data.toList.length := by rw [turned_list, List.length_set]
  simpa using h
theorem eq_of_list {a b : ByteArray} (h : a.data.toList = b.data.toList) : a = b := ByteArray.ext (Array.toList_inj.1 h)
theorem okB_of {s t f : ByteArray} (ht : t.size ≤ 7996) (hf : f.size = 4) (h : s.data.toList = t.data.toList ++ f.data.toList) : okB s = decide (four (crcMoreV 0 t) = f) := by
  have hl : s.size = t.size + 4 := by
    have := congrArg List.length h
    rw [List.length_append, Array.length_toList, Array.length_toList, Array.length_toList] at this
    have h1 : f.data.size = 4 := hf
    have h2 : s.data.size = s.size := rfl
    have h3 : t.data.size = t.size := rfl
    omega
  have e1 : s.extract 0 (s.size - 4) = t := eq_of_list (by
    rw [Lib.extract_data, h, hl]
    simp)
  have e2 : s.extract (s.size - 4) s.size = f := eq_of_list (by
    rw [Lib.extract_data, h, hl]
    have h3 : t.data.toList.length = t.size := by simp
    rw [show t.size + 4 - 4 = t.data.toList.length by omega, List.drop_append_of_le_length (Nat.le_refl _), List.drop_length, List.nil_append, List.take_of_length_le]
    have h4 : f.data.toList.length = 4 := by rw [Array.length_toList]; exact hf
    omega)
  rw [okB_iff (by omega) (by omega), e1, e2, Bool.eq_iff_iff, beq_iff_eq, decide_eq_true_iff]
  exact str_inj
theorem okB_seal {t : ByteArray} (ht : t.size ≤ 7996) : okB (sealB t) = true := by
  rw [okB_of ht (four_size _) (s := sealB t) (by rw [sealB_yes ht, ByteArray.toList_data_append])]
  simp
theorem size_data (s : ByteArray) : s.data.toList.length = s.size := by simp
theorem okB_turned {t : ByteArray} (ht : t.size ≤ 7996) {k : Nat} (hk : k < (sealB t).size) {b : UInt8} (hb : b ≠ (sealB t)[k]) : okB (turned (sealB t) k b) = false := by
  have hs : (sealB t).data.toList = t.data.toList ++ (four (crcMoreV 0 t)).data.toList := by rw [sealB_yes ht, ByteArray.toList_data_append]
  have hr := moreV_range 0 t
  have hsz : (sealB t).size = t.size + 4 := by
    rw [← size_data, hs, List.length_append, size_data, size_data, four_size]
  have hbk : (sealB t).data.toList[k]? = some (sealB t)[k] := by
    rw [List.getElem?_eq_getElem (by rw [size_data]; exact hk)]; rfl
  by_cases hkt : k < t.size
  · have e : (turned (sealB t) k b).data.toList = (turned t k b).data.toList ++ (four (crcMoreV 0 t)).data.toList := by
      rw [turned_list, turned_list, hs, List.set_append_left _ _ (by rw [size_data]; exact hkt)]
    rw [okB_of (by rw [turned_size]; exact ht) (four_size _) e, decide_eq_false_iff_not]
    intro h
    have h2 := four_inj ⟨(moreV_range 0 (turned t k b)).1, (moreV_range 0 (turned t k b)).2⟩ hr h
    rw [moreV_yes (by rw [turned_size]; omega) (by omega) (by omega), moreV_yes (by omega) (by omega) (by omega)] at h2
    have h3 : crcOf 0 (turned t k b) = crcOf 0 t := by
      have h0 : (0 : Int).toNat = 0 := rfl
      rw [h0] at h2; omega
    unfold crcOf at h3
    have h4 := tw_inj h3
    have hd : t.data.toList = t.data.toList.take k ++ t[k] :: t.data.toList.drop (k + 1) := by
      have := List.take_append_drop k t.data.toList
      rw [List.drop_eq_getElem_cons (by rw [size_data]; exact hkt)] at this
      exact this.symm
    have hd2 : (turned t k b).data.toList = t.data.toList.take k ++ b :: t.data.toList.drop (k + 1) := by
      rw [turned_list, List.set_eq_take_append_cons_drop, if_pos (by rw [size_data]; exact hkt)]
    have hbt : (sealB t)[k] = t[k] := by
      have h5 : (sealB t).data.toList[k]? = some t[k] := by
        rw [hs, List.getElem?_append_left (by rw [size_data]; exact hkt), List.getElem?_eq_getElem (by rw [size_data]; exact hkt)]; rfl
      rw [hbk] at h5
      exact Option.some.inj h5
    rw [hd2] at h4
    exact crcL_turn (r := tw 0) (tw_lt (by decide)) _ _ (by rw [hbt] at hb; exact hb) (h4.trans (congrArg (crcL (tw 0)) hd))
  · have e : (turned (sealB t) k b).data.toList = t.data.toList ++ (turned (four (crcMoreV 0 t)) (k - t.size) b).data.toList := by
      rw [turned_list, turned_list, hs, List.set_append_right _ _ (by rw [size_data]; omega), size_data]
    rw [okB_of ht (by rw [turned_size, four_size]) e, decide_eq_false_iff_not]
    intro h
    have h2 := congrArg (fun x : ByteArray => x.data.toList[k - t.size]?) h
    simp only [turned_list] at h2
    rw [List.getElem?_set_self (by rw [size_data, four_size]; omega)] at h2
    rw [hs, List.getElem?_append_right (by rw [size_data]; omega), size_data] at hbk
    rw [hbk] at h2
    exact hb (Option.some.inj h2).symm
end Go.Proofs.Ytpfgmdlkacildaa.Unseals
