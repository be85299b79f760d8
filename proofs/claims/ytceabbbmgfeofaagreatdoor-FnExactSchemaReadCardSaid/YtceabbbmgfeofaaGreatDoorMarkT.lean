/-
  Contracts: laws.markText answers a mark; laws.markStringS, markFieldS write marks; of what was there nothing else is changed. Conditions: apart in memory, marks from 1 to 9 000 000.
-/
import Derived.Test.YtceabbbmgfeofaaGreatDoorRows
import Derived.Test.YtceabbbmgfeofaaGreatDoorRow
import Derived.Test.YtceabbbmgfeofaaGreatDoorWordW
import Derived.Test.YtceabbbmgfeofaaGreatDoorDecM
import Derived.Deep.RegionHeld3
namespace Go.Proofs.YtceabbbmgfeofaaGreatDoor.Rw
open Go.RowKit Decs
set_option linter.unusedVariables false
set_option maxRecDepth 100000

/-- The mark of n. -/
def mkT (n : Nat) : ByteArray := ⟨(109 :: decL n).toArray⟩
theorem decLen : ∀ (k n : Nat), n < 10 ^ (k + 1) → (decL n).length ≤ k + 1
  | 0, n, h => by rw [decL_small (by omega)]; simp
  | k + 1, n, h => by
    by_cases hn : n < 10
    · rw [decL_small hn]; simp
    · rw [decL_big (by omega), List.length_append]
      have := decLen k (n / 10) (by rw [Nat.pow_succ] at h; omega)
      simp; omega
theorem mkT_ok {m : Nat} (hm : m ≤ 9000000) : OkS (mkT m) := by
  have := decLen 6 m (by rw [show (10 : Nat) ^ (6 + 1) = 10000000 by decide]; omega)
  unfold OkS mkT
  simp [ByteArray.size]; omega
theorem markText (n : Nat) (h0 : 1 ≤ n) (h1 : n ≤ 9000000) (w : World) :
    Calls Tryz.prog 160 #[.int .i64 n] w fun e w' => e = .returned (.string (mkT n)) ∧ Below w.heap.size w w' := by
  have hi : 0 < (n : Int) := by omega
  go_enter Tryz.func160, Tryz.ntmps160
  go_wp2_with fail
  go_loopw [0, 3] (fun v o wr => ∃ (m : Nat) (l : List UInt8), m ≤ 9223372036854775807 ∧ v = .int .i64 m ∧ o = .string ⟨l.toArray⟩ ∧ Hid (decL n = (if m = 0 then l else decL m ++ l)) ∧ Hid (m * 10 ^ l.length ≤ 9223372036854775808) ∧ l.length ≤ 100 ∧ Below w.heap.size w wr) (fun v _ _ => (intOf v).toNat)
  case atStart => exact ⟨n, [], by omega, rfl, rfl, Lib.hid (by rw [if_neg (by omega), List.append_nil]), Lib.hid (by simp; omega), by simp, Below.refl _ _⟩
  case round =>
    obtain ⟨m, l, hm, rfl, rfl, hd, hl, hll, hb⟩ := hrel
    have HB := Lib.hid hb
    by_cases hm0 : m = 0
    · subst hm0
      have hf : Hid ((⟨#[109]⟩ : ByteArray) ++ ⟨l.toArray⟩ = mkT n) := Lib.hid (by
        unfold mkT; rw [hd.out, if_pos rfl]
        apply ByteArray.ext; simp [ByteArray.data_append])
      have hsz : (⟨l.toArray⟩ : ByteArray).size ≤ 100 := by simpa [ByteArray.size] using hll
      clear hb hd hl
      go_wp2_with fail
      go_ret
      exact ⟨ret_string hf.out, HB.out⟩
    · have hmp : 0 < m := by omega
      have hmi : 0 < (m : Int) := by omega
      have hlen := dec_len hmp hl.out
      have hcv := one_digit wr m
      have hrel : Hid (decL n = (if m / 10 = 0 then UInt8.ofNat (48 + m % 10) :: l else decL (m / 10) ++ (UInt8.ofNat (48 + m % 10) :: l))) := Lib.hid (by rw [hd.out, if_neg hm0, dec_step hmp])
      have hpw : Hid (m / 10 * 10 ^ (UInt8.ofNat (48 + m % 10) :: l).length ≤ 9223372036854775808) := Lib.hid (dec_next hl.out)
      have hdiv : (m : Int).tdiv 10 = ((m / 10 : Nat) : Int) := by rw [Int.tdiv_eq_ediv_of_nonneg (by omega)]; rfl
      have HB1 := Lib.hid (HB.out.alloc HB.out.size (.cells #[.int .u8 (48 + (m : Int) % 10)] 5))
      have hdl := Nat.div_lt_self hmp (show 1 < 10 by omega)
      have hsz : (⟨l.toArray⟩ : ByteArray).size ≤ 100 := by simpa [ByteArray.size] using hll
      clear hb hd hl
      generalize UInt8.ofNat (48 + m % 10) = c at *
      have hcat : ((⟨#[c]⟩ : ByteArray) ++ ⟨l.toArray⟩) = ⟨(c :: l).toArray⟩ := by
        apply ByteArray.ext; simp [ByteArray.data_append]
      go_wp2_with fail
      go_roundw
      case rel => exact ⟨m / 10, c :: l, by omega, by go_num, by trivial, hrel, hpw, by simp; omega, HB1.out⟩
      case measure => simp [intOf]; omega


/-- Texts with marks from k on. -/
def textsMark : List ByteArray → Nat → List ByteArray
  | [], _ => []
  | _ :: l, k => mkT k :: textsMark l (k + 1)
theorem textsMark_len : ∀ (l : List ByteArray) (k : Nat), (textsMark l k).length = l.length
  | [], _ => rfl
  | x :: l, k => by simp only [textsMark, List.length_cons, textsMark_len l]
theorem textsMark_at : ∀ (l : List ByteArray) (k i : Nat) (y : ByteArray), (textsMark l k)[i]? = some y → y = mkT (k + i)
  | [], k, i, y, h => by simp [textsMark] at h
  | x :: l, k, 0, y, h => by cases h; rfl
  | x :: l, k, i + 1, y, h => by
    have := textsMark_at l (k + 1) i y (by simpa [textsMark] using h)
    rw [this]; congr 1; omega

set_option maxHeartbeats 1000000 in
theorem markStringS (w : World) (A B : Nat) (a : Option Addr) (len cap : Nat) (l : List ByteArray) (k : Nat) (hs : TextsX w A B a len l) (hB : B ≤ w.heap.size) (h1 : 1 ≤ k) (hk : k + l.length ≤ 9000000) :
    Calls Tryz.prog 162 #[.slice a len cap, .int .i64 k] w fun e w' => e = .returned (.int .i64 ((k + l.length : Nat) : Int)) ∧ TextsX w' A B a len (textsMark l k) ∧ Within A B w w' := by
  obtain ⟨rfl, hlen, hAB, hx⟩ := hs
  rcases hx with rfl | ⟨b, off, rfl, hA, hbB, hl⟩
  · go_enter Tryz.func162, Tryz.ntmps162
    go_wp2_with fail
    go_loopw [1, 5] (fun v i wr => v = .int .i64 k ∧ i = .int .i64 0 ∧ w = wr) (fun _ _ _ => 0)
    case atStart => exact ⟨rfl, rfl, rfl⟩
    case round =>
      obtain ⟨rfl, rfl, rfl⟩ := hrel
      go_wp2_with fail
      go_ret
      exact ⟨ret_i (by simp), ⟨rfl, by simp, hAB, .inl rfl⟩, Within.refl _ _ _⟩
  by_cases hz : l.length = 0
  · obtain rfl := List.eq_nil_of_length_eq_zero hz
    clear hl hz
    go_enter Tryz.func162, Tryz.ntmps162
    go_wp2_with fail
    go_loopw [1, 5] (fun v i wr => v = .int .i64 k ∧ i = .int .i64 0 ∧ w = wr) (fun _ _ _ => 0)
    case atStart => exact ⟨rfl, rfl, rfl⟩
    case round =>
      obtain ⟨rfl, rfl, rfl⟩ := hrel
      go_wp2_with fail
      go_ret
      exact ⟨ret_i (by simp), ⟨rfl, by simp, hAB, .inl rfl⟩, Within.refl _ _ _⟩
  have hfree0 : Free w b := by
    cases l with
    | nil => exact absurd rfl hz
    | cons x l => exact hl.1
  have HC : Hid (∀ j, j < l.length → ∃ v, w.cell? ⟨b, off + j, none⟩ = some v) := Lib.hid fun j hj => by
    have := (hl.rows (A' := 0) (B' := B) textLies id (Nat.zero_le _) (Nat.le_refl _) j l[j] (List.getElem?_eq_getElem hj)).2
    rw [Nat.mul_one] at this
    exact ⟨_, this⟩
  have HF0 := Lib.hid hfree0
  clear hl hz hfree0
  go_enter Tryz.func162, Tryz.ntmps162
  go_wp2_with fail
  go_loopw [1, 5] (fun v i wr => ∃ (i' kk : Nat), i' ≤ l.length ∧ kk ≤ 9000000 ∧ Hid (kk = k + i') ∧ v = .int .i64 kk ∧ i = .int .i64 i' ∧ Hid (Free wr b) ∧ Hid (∀ j, j < l.length → ∃ v, wr.cell? ⟨b, off + j, none⟩ = some v) ∧ Hid (∀ j, j < i' → wr.cell? ⟨b, off + j, none⟩ = some (.string (mkT (k + j)))) ∧ Within A B w wr) (fun _ i _ => l.length - (intOf i).toNat)
  case atStart => exact ⟨0, k, by omega, by omega, Lib.hid rfl, rfl, rfl, HF0, HC, Lib.hid (fun j hj => by omega), Within.refl _ _ _⟩
  case round =>
    obtain ⟨i, kk, hi, hk9, hkk, rfl, rfl, HF, HC, HM, hw⟩ := hrel
    have HW := Lib.hid hw
    clear hw
    by_cases hlt : i < l.length
    · have hli : (i : Int) < (l.length : Int) := by omega
      have hkk2 : kk + 1 ≤ 9000000 := by have := hkk.out; omega
      have CM : Hid (∀ w, Calls Tryz.prog 160 #[.int .i64 kk] w fun e w' => e = .returned (.string (mkT kk)) ∧ Below w.heap.size w w') := Lib.hid fun w => markText kk (by have := hkk.out; omega) (by omega) w
      have HBW := Lib.hid (Nat.le_trans hB HW.out.size)
      go_wp2_with fail
      refine (CM.out _).mono ?_
      rintro e w2 ⟨rfl, hb2⟩
      have X2 := Lib.hid ((Round.refl 1 b (off + i) 0 0 wr).below HF.out hb2)
      obtain ⟨v0, hv0⟩ := HC.out i hlt
      have q0 := kcell hb2 HF.out.lt hv0
      have p0 := (X2.out.free HF.out).frozen (off + i)
      have X3 := Lib.hid (X2.out.set (j := off + i) (by omega) (by omega) (.string (mkT kk)))
      have hnew : (w2.setCell ⟨b, off + i, none⟩ (.string (mkT kk))).cell? ⟨b, off + i, none⟩ = some (.string (mkT kk)) := World.cell?_setCell_same' _ _ _ (by rw [q0]; rfl)
      have HF3 := Lib.hid (X3.out.free HF.out)
      have HC3 : Hid (∀ j, j < l.length → ∃ v, (w2.setCell ⟨b, off + i, none⟩ (.string (mkT kk))).cell? ⟨b, off + j, none⟩ = some v) := Lib.hid fun j hj => by
        by_cases e : j = i
        · subst e; exact ⟨_, hnew⟩
        · rw [X3.out.cells _ (by omega)]; exact HC.out j hj
      have HM3 : Hid (∀ j, j < i + 1 → (w2.setCell ⟨b, off + i, none⟩ (.string (mkT kk))).cell? ⟨b, off + j, none⟩ = some (.string (mkT (k + j)))) := Lib.hid fun j hj => by
        by_cases e : j = i
        · subst e; rw [hnew, hkk.out]
        · rw [X3.out.cells _ (by omega)]; exact HM.out j (by omega)
      have HW3 := Lib.hid (HW.out.trans ((X3.out.weak (lo := A) (hi := A)).toWithin hA hbB (Nat.le_refl _) hAB (Nat.le_refl _)))
      clear hb2 hv0 hnew
      go_wp2_with fail
      go_roundw
      case rel => exact ⟨i + 1, kk + 1, by omega, hkk2, Lib.hid (by have := hkk.out; omega), by go_num, by go_num, HF3, HC3, HM3, HW3.out⟩
      case measure => simp [intOf]; omega
    · obtain rfl : i = l.length := by omega
      have hfin := Lib.hid hkk.out
      have hall : Hid (TextsX wr A B (some ⟨b, off, none⟩) l.length (textsMark l k)) := Lib.hid ⟨textsMark_len l k, hlen, hAB, .inr ⟨b, off, rfl, hA, hbB, LieRX.flat HF.out hbB hAB fun j y hj => by
        have hjl := (List.getElem?_eq_some_iff.1 hj).1
        rw [textsMark_len] at hjl
        rw [textsMark_at l k j y hj, Nat.mul_one]
        exact ⟨mkT_ok (by omega), HM.out j hjl⟩⟩⟩
      clear hlt
      go_wp2_with fail
      go_ret
      exact ⟨ret_i (by rw [hfin.out]), hall.out, HW.out⟩

set_option maxHeartbeats 1000000 in
theorem heldStringS (w : World) (A B : Nat) (a : Option Addr) (len cap : Nat) (l : List ByteArray) (k : Nat) (hs : TextsAt w A B a len (textsMark l k)) (hB : B ≤ w.heap.size) (h1 : 1 ≤ k) (hk : k + l.length ≤ 9000000) :
    Calls Tryz.prog 164 #[.slice a len cap, .int .i64 k] w fun e w' => e = .returned (.int .i64 ((k + l.length : Nat) : Int)) ∧ Below w.heap.size w w' := by
  have hll : l.length = len := by rw [← hs.1, textsMark_len]
  have hlen := hs.2.1
  have HS := Lib.hid hs
  clear hs
  go_enter Tryz.func164, Tryz.ntmps164
  go_wp2_with fail
  go_loopw [1, 5] (fun v i wr => ∃ (i' kk : Nat), i' ≤ len ∧ kk ≤ 9000000 ∧ Hid (kk = k + i') ∧ v = .int .i64 kk ∧ i = .int .i64 i' ∧ Below w.heap.size w wr) (fun _ i _ => len - (intOf i).toNat)
  case atStart => exact ⟨0, k, by omega, by omega, Lib.hid rfl, rfl, rfl, Below.refl _ _⟩
  case round =>
    obtain ⟨i, kk, hi, hk9, hkk, rfl, rfl, hb⟩ := hrel
    have HB := Lib.hid hb
    by_cases hlt : i < len
    · have hli : (i : Int) < (len : Int) := by omega
      have hkk2 : kk + 1 ≤ 9000000 := by have := hkk.out; omega
      obtain ⟨y, b, off, hd, rfl, hAb, hbb, hok, hc⟩ := (HS.out.below textLies (Nat.le_refl _) (hb.mono hB)).at hlt
      rw [Nat.mul_one, textsMark_at l k i y hd, ← hkk.out] at hc
      have CM : Hid (∀ w, Calls Tryz.prog 160 #[.int .i64 kk] w fun e w' => e = .returned (.string (mkT kk)) ∧ Below w.heap.size w w') := Lib.hid fun w => markText kk (by have := hkk.out; omega) (by omega) w
      have hbd : b < wr.drew.heap.size := by have := HB.out.size; show b < wr.heap.size; omega
      have x0 : wr.drew.cell? ⟨b, off + i, none⟩ = some (.string (mkT kk)) := hc
      have HBd := Lib.hid HB.out.drew
      clear hd hb hlt hok
      go_wp2_with fail
      go_region_held3 (fun w' => w'.cell? ⟨b, off + i, none⟩ = some (.string (mkT kk))) (go_keep)
        (first | (go_at_call 160; refine (CM.out _).mono ?_; rintro e w2 ⟨rfl, hb2⟩; have d0 := kcell hb2 hbd x0))
      all_goals
        have HB2 := Lib.hid (HBd.out.trans (hb2.mono HBd.out.size))
        clear hb2 hc x0 d0
        go_wp2_with fail
        go_roundw
        case rel => exact ⟨i + 1, kk + 1, by omega, hkk2, Lib.hid (by have := hkk.out; omega), by go_num, by go_num, HB2.out⟩
        case measure => simp [intOf]; omega
    · obtain rfl : i = len := by omega
      have hfin := Lib.hid hkk.out
      clear hlt hb
      go_wp2_with fail
      go_ret
      exact ⟨ret_i (by rw [hfin.out, hll]), HB.out⟩
end Go.Proofs.YtceabbbmgfeofaaGreatDoor.Rw
