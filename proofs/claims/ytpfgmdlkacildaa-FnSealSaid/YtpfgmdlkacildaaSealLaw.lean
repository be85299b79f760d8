/-
  What the law on seals wants beside: the draw of a CRC and a text; a text as bytes, one byte turned. Conditions: as each theorem says.
-/
import Derived.Test.YtpfgmdlkacildaaRows
import Derived.Test.YtpfgmdlkacildaaDrawC
import Derived.Test.YtpfgmdlkacildaaCrc
import Derived.Test.YtpfgmdlkacildaaSealTurn
import Derived.Laws.IdiomStrings
namespace Go.Proofs.Ytpfgmdlkacildaa.SealLaw
open Go.RowKit CrcMath Crcs Texts Seals Unseals Draws
set_option linter.unusedVariables false

theorem field_code (z : ByteArray) (W : World) : Sem.run Try.prog (Instr.field 27 (.agg #[.string z, .int .i64 0, .int .i64 5]) 2) W = .ok (.int .i64 5) W := by
  rfl

theorem drawCrcMore (w : World) (len cap : Nat) (a : Option Addr) (h : BytesAt w w.heap.size a len) (hsm : len ≤ 140737488351232) :
    Calls Try.prog 16 #[.slice a len cap] w fun e w' => (∃ (c : Int) (u : ByteArray), e = .returned (.tuple #[.int .i64 c, .string u]) ∧ (Lit.int .i64 c).wf = true ∧ u.size ≤ 9) ∧ Below w.heap.size w w' := by
  have HB := Lib.hid h
  clear h
  go_enter Try.func16, Try.ntmps16
  go_wp2_with fail
  refine (source _ len cap a HB.out hsm).mono ?_
  rintro e w1 ⟨rfl, hs1, hb1⟩
  go_wp2_with fail
  refine (src_n _ _ len cap a hs1 9 (by omega)).mono ?_
  rintro e w2 ⟨⟨r, rfl, hr0, hr1⟩, hs2, ho2⟩
  have hb2 := hb1.trans (ho2.below (Nat.le_refl _) hb1.size)
  obtain ⟨m, rfl⟩ := Int.eq_ofNat_of_zero_le hr0
  have hm : m ≤ 9 := by omega
  go_wp2_with fail
  refine (src_bytes _ _ len cap a hs2 m (by omega)).mono ?_
  rintro e w3 ⟨⟨l, rfl, hl⟩, hs3, ho3⟩
  have hb3 := hb2.trans (ho3.below (Nat.le_refl _) hb2.size)
  have HL := Lib.hid hl
  clear hl
  go_wp2_with fail
  refine (src_one _ _ len cap a hs3 5 (by omega)).mono ?_
  rintro e w4 ⟨⟨b, rfl⟩, hs4, ho4⟩
  have hb4 := hb3.trans (ho4.below (Nat.le_refl _) hb3.size)
  have hlen : (⟨l.toArray⟩ : ByteArray).size ≤ 9 := by have := HL.out; simp [ByteArray.size]; omega
  have HLE := Lib.hid hlen
  clear hlen
  cases b
  · go_wp2_with fail
    refine (src_n _ _ len cap a hs4 9 (by omega)).mono ?_
    rintro e w5 ⟨⟨q, rfl, hq0, hq1⟩, hs5, ho5⟩
    have hb5 := hb4.trans (ho5.below (Nat.le_refl _) hb4.size)
    obtain ⟨k, rfl⟩ := Int.eq_ofNat_of_zero_le hq0
    have hk : k ≤ 9 := by omega
    go_wp2_with fail
    refine (src_bytes _ _ len cap a hs5 k (by omega)).mono ?_
    rintro e w6 ⟨⟨l2, rfl, hl2⟩, hs6, ho6⟩
    have hb6 := hb5.trans (ho6.below (Nat.le_refl _) hb5.size)
    go_wp2_with fail
    refine (specCrc ⟨l2.toArray⟩ (by unfold maxLen; simp [ByteArray.size]; omega) _).mono ?_
    rintro e w7 ⟨rfl, rfl⟩
    have hr := moreV_range 0 ⟨l2.toArray⟩
    go_wp2_with fail
    go_ret2
    exact ⟨⟨_, _, rfl, WalkArith.wf_i64 (by omega), HLE.out⟩, hb6⟩
  · go_wp2_with fail
    refine (src_edge _ _ len cap a hs4).mono ?_
    rintro e w5 ⟨⟨v, rfl, hv0, hv1⟩, hs5, ho5⟩
    have hb5 := hb4.trans (ho5.below (Nat.le_refl _) hb4.size)
    go_wp2_with fail
    go_ret2
    exact ⟨⟨_, _, rfl, WalkArith.wf_i64 (by omega), HLE.out⟩, hb5⟩

theorem list_size (s : ByteArray) : s.data.toList.length = s.size := by simp
/-- '[]byte(S)'; and 'string' of it, one byte put anew. -/
theorem bytes_conv (w : World) (S : ByteArray) : ∃ (X : World) (cap : Nat),
    (convert 9 22 (.string S)).run Try.prog w = .ok (.slice (some ⟨w.heap.size, 0, none⟩) S.size cap) X ∧ Below w.heap.size w X ∧ w.heap.size < X.heap.size ∧
    (∀ k (h : k < S.size), X.cell? ⟨w.heap.size, k, none⟩ = some (.int .u8 (S[k].toNat : Int)) ∧ X.frozen? ⟨w.heap.size, k, none⟩ = false) ∧
    (∀ (W : World) (k : Nat) (v : Int), k < S.size → 0 ≤ v → v < 256 → (∀ j, W.cell? ⟨w.heap.size, j, none⟩ = (X.setCell ⟨w.heap.size, k, none⟩ (.int .u8 v)).cell? ⟨w.heap.size, j, none⟩) →
      (convert 22 9 (.slice (some ⟨w.heap.size, 0, none⟩) S.size cap)).run Try.prog W = .ok (.string (turned S k (u8of v))) W) := by
  have hrun := run_bytes_of_string (P := Try.prog) w 9 22 5 S Try.underlying9 Try.underlying22 Try.underlying5
  have hcell : ∀ k (h : k < S.size), (w.drew.alloc (.cells (bytesRow S (grownCap w S.size 0 5)) 5 ((bytesRow S (grownCap w S.size 0 5)).size, (bytesRow S (grownCap w S.size 0 5)).size + 1))).cell? ⟨w.heap.size, k, none⟩ = some (.int .u8 (S[k].toNat : Int)) := fun k h => by
    have h1 := World.cell?_alloc_mark w.drew (bytesRow S (grownCap w S.size 0 5)) 5 ((bytesRow S (grownCap w S.size 0 5)).size, (bytesRow S (grownCap w S.size 0 5)).size + 1) k
    exact h1.trans (bytesRow_at S _ k h)
  refine ⟨_, _, hrun, ((Below.refl w.heap.size w).drew).alloc (Nat.le_refl _) _, by show w.heap.size < (w.heap.push _).size; simp, fun k h => ⟨hcell k h, ?_⟩, ?_⟩
  · have h2 := World.frozen?_alloc_mark w.drew (bytesRow S (grownCap w S.size 0 5)) 5 (bytesRow S (grownCap w S.size 0 5)).size ((bytesRow S (grownCap w S.size 0 5)).size + 1) k
    refine h2.trans ?_
    have hb : S.size ≤ (bytesRow S (grownCap w S.size 0 5)).size := by unfold bytesRow; rw [Array.size_append, Array.size_map]; exact Nat.le_add_right _ _
    have : decide ((bytesRow S (grownCap w S.size 0 5)).size ≤ k) = false := by simp; omega
    rw [this]; rfl
  · intro W k v hk hv0 hv1 hW
    have hl : (turned S k (u8of v)).data.toList.length = S.size := by rw [turned_list, List.length_set, list_size]
    have hb := run_convert_bytes_back (P := Try.prog) W 22 9 5 ⟨w.heap.size, 0, none⟩ (grownCap w S.size 0 5) (turned S k (u8of v)).data.toList Try.underlying22 Try.underlying5 Try.underlying9 (fun j hj => by
      have hjs : j < S.size := by omega
      have ea : (⟨w.heap.size, 0, none⟩ : Addr).add j = ⟨w.heap.size, j, none⟩ := by unfold Addr.add; split <;> simp_all
      rw [ea, hW]
      by_cases hjk : j = k
      · subst hjk
        rw [World.cell?_setCell_same' _ _ _ (by rw [hcell j hjs]; rfl)]
        have e2 : (turned S j (u8of v)).data.toList[j] = u8of v := by
          simp only [turned_list]; rw [List.getElem_set_self]
        rw [e2, u8of_val hv0 hv1]
      · rw [World.cell?_setCell_other _ _ _ _ (by simp <;> omega), hcell j hjs]
        have e2 : (turned S k (u8of v)).data.toList[j] = S[j] := by
          simp only [turned_list]; rw [List.getElem_set_ne (by omega)]; rfl
        rw [e2])
    rw [hl, str_eq] at hb
    exact hb
theorem xor_turn {x d : Int} (hx : 0 ≤ x ∧ x ≤ 255) (hd : 1 ≤ d ∧ d ≤ 255) : 0 ≤ bits BinOp.xor IntKind.u8 x d ∧ bits BinOp.xor IntKind.u8 x d < 256 ∧ bits BinOp.xor IntKind.u8 x d ≠ x := by
  rw [u8_xor x d hx.1 (by omega) (by omega) (by omega)]
  have h1 : x.toNat ^^^ d.toNat < 256 := Nat.xor_lt_two_pow (n := 8) (by omega) (by omega)
  refine ⟨by omega, by omega, fun h => ?_⟩
  have h2 : x.toNat ^^^ d.toNat = x.toNat := by omega
  have h3 : d.toNat = 0 := by
    have := congrArg (x.toNat ^^^ ·) h2
    simpa [← Nat.xor_assoc] using this
  omega
theorem u8of_ne {v : Int} {b : UInt8} (h : 0 ≤ v) (h' : v < 256) (hne : v ≠ (b.toNat : Int)) : u8of v ≠ b := fun e => hne (by rw [← e, u8of_val h h'])
theorem crc_on {t u : ByteArray} (h : t.size + u.size ≤ 8000) : crcMoreV (crcMoreV 0 t) u = crcMoreV 0 (t ++ u) := by
  have hr := moreV_range 0 t
  have hs : (t ++ u).size ≤ 8000 := by simp; exact h
  rw [moreV_yes (by omega) hr.1 hr.2, moreV_yes (crc := 0) (s := t ++ u) hs (by omega) (by omega), moreV_yes (crc := 0) (s := t) (by omega) (by omega) (by omega)]
  rw [Int.toNat_natCast]
  exact congrArg (fun n : Nat => (n : Int)) (crcOf_append t u)
theorem seal_ext {t : ByteArray} (h : t.size ≤ 7996) : (sealB t).extract 0 ((sealB t).size - 4) = t ∧ (sealB t).size = t.size + 4 := by
  have hs : (sealB t).data.toList = t.data.toList ++ (four (crcMoreV 0 t)).data.toList := by rw [sealB_yes h, ByteArray.toList_data_append]
  have hsz : (sealB t).size = t.size + 4 := by
    rw [← list_size, hs, List.length_append, list_size, list_size, four_size]
  exact ⟨eq_of_list (by rw [Lib.extract_data, hs, hsz]; simp), hsz⟩
end Go.Proofs.Ytpfgmdlkacildaa.SealLaw
