/-
  Contracts: laws.szField, szFieldS, szType, szTypeS, szSchema tell what is left of a number behind what is in memory; of what was there nothing is changed. Conditions: in memory.
-/
import Derived.Test.YtceabbbmgfeofaaGreatDoorRows
import Derived.Test.YtceabbbmgfeofaaGreatDoorRow
import Derived.Test.YtceabbbmgfeofaaGreatDoorSch
namespace Go.Proofs.YtceabbbmgfeofaaGreatDoor.Rw
open Go.RowKit
set_option linter.unusedVariables false
set_option maxRecDepth 100000
theorem szStringS (w : World) (A B : Nat) (a : Option Addr) (len cap : Nat) (l : List ByteArray) (left : Int) (hs : TextsAt w A B a len l) (hB : B ≤ w.heap.size) (h0 : 0 ≤ left) (h1 : left ≤ 1048576) :
    Calls Tryz.prog 166 #[.slice a len cap, .int .i64 left] w fun e w' => e = .returned (.int .i64 (leftOf left (len + sumOf ByteArray.size l))) ∧ Below w.heap.size w w' := by
  have hlen := hs.2.1
  have HS := Lib.hid hs
  have hll := Lib.hid hs.1
  clear hs
  by_cases c1 : left - (len : Int) < 0
  · have hf := Lib.hid (leftOf_no (left := left) (n := len + sumOf ByteArray.size l) (by omega))
    go_enter Tryz.func166, Tryz.ntmps166
    go_wp2_with fail
    go_ret
    exact ⟨ret_i hf.out, Below.refl _ _⟩
  have c1' : 0 ≤ left - (len : Int) := by omega
  clear c1
  go_enter Tryz.func166, Tryz.ntmps166
  go_wp2_with fail
  go_loopw [1, 5] (fun v i wr => ∃ (i' : Nat) (m : Int), i' ≤ len ∧ 0 ≤ m ∧ m ≤ 1048576 ∧ Hid (m + ((len + sumOf ByteArray.size l : Nat) : Int) = left + (sumOf ByteArray.size (l.drop i') : Int)) ∧ v = .int .i64 m ∧ i = .int .i64 i' ∧ Below w.heap.size w wr) (fun _ i _ => len - (intOf i).toNat)
  case atStart => exact ⟨0, left - len, by omega, by omega, by omega, Lib.hid (by rw [List.drop_zero]; omega), rfl, rfl, Below.refl _ _⟩
  case round =>
    obtain ⟨i, m, hi, hm0, hm1, hm, rfl, rfl, hb⟩ := hrel
    have HB := Lib.hid hb
    by_cases hlt : i < len
    · have hli : (i : Int) < (len : Int) := by omega
      obtain ⟨x, b, off, hd, rfl, hA, hbb, hok, hc⟩ := (HS.out.below textLies (Nat.le_refl _) (hb.mono hB)).at hlt
      rw [Nat.mul_one] at hc
      have hwt := Lib.hid (sumOf_drop (f := ByteArray.size) hd)
      unfold OkS at hok
      clear hlt hd hb
      by_cases c3 : m - (x.size : Int) < 0
      · have hf := Lib.hid (leftOf_no (left := left) (n := len + sumOf ByteArray.size l) (by have e1 := hm.out; have e2 := hwt.out; omega))
        clear hm
        go_wp2_with fail
        go_ret
        exact ⟨ret_i hf.out, HB.out⟩
      · have hlo : 0 ≤ m - (x.size : Int) := by omega
        have hrel : Hid (m - (x.size : Int) + ((len + sumOf ByteArray.size l : Nat) : Int) = left + (sumOf ByteArray.size (l.drop (i + 1)) : Int)) := Lib.hid (by
          have e1 := hm.out; have e2 := hwt.out; omega)
        clear hm c3
        go_wp2_with fail
        go_roundw
        case rel => exact ⟨i + 1, m - x.size, by omega, hlo, by omega, hrel, rfl, by go_num, HB.out⟩
        case measure => simp [intOf]; omega
    · obtain rfl : i = len := by omega
      have hf := Lib.hid (leftOf_yes (left := left) (n := i + sumOf ByteArray.size l) hm0 (by have e1 := hm.out; rw [← hll.out, List.drop_length] at e1; simp only [sumOf, hll.out] at e1; omega))
      clear hlt hb hm
      go_wp2_with fail
      go_ret
      exact ⟨ret_i hf.out, HB.out⟩
theorem szField (w : World) (x : FieldP) (hx : x.ok) (left : Int) (h0 : 0 ≤ left) (h1 : left ≤ 1048576) :
    Calls Tryz.prog 191 #[.agg x.cells.toArray, .int .i64 left] w fun e w' => e = .returned (.int .i64 (leftOf left x.wt)) ∧ Below w.heap.size w w' := by
  obtain ⟨nm, tp, ls, mu, sz, cp⟩ := x
  obtain ⟨hk, hn, _, _⟩ := hx
  unfold OkS at hk hn
  simp only [FieldP.cells, FieldP.wt] at hk hn ⊢
  have HA : Hid (∀ o, Below w.heap.size w (w.alloc o)) := Lib.hid fun o => (Below.refl _ _).alloc (Nat.le_refl _) o
  by_cases c1 : left - (nm.size : Int) < 0
  · have hf := Lib.hid (leftOf_no (left := left) (n := nm.size + tp.size) (by omega))
    go_enter Tryz.func191, Tryz.ntmps191
    go_wp2_with fail
    go_ret
    exact ⟨ret_i hf.out, HA.out _⟩
  have c1' : 0 ≤ left - (nm.size : Int) := by omega
  clear c1
  by_cases c2 : left - (nm.size : Int) - (tp.size : Int) < 0
  · have hf := Lib.hid (leftOf_no (left := left) (n := nm.size + tp.size) (by omega))
    go_enter Tryz.func191, Tryz.ntmps191
    go_wp2_with fail
    go_ret
    exact ⟨ret_i hf.out, HA.out _⟩
  have c2' : 0 ≤ left - (nm.size : Int) - (tp.size : Int) := by omega
  have hf := Lib.hid (leftOf_yes (left := left) (n := nm.size + tp.size) c2' (by omega))
  clear c2
  go_enter Tryz.func191, Tryz.ntmps191
  go_wp2_with fail
  go_ret
  exact ⟨ret_i hf.out, HA.out _⟩
theorem szFieldS (w : World) (A B : Nat) (a : Option Addr) (len cap : Nat) (l : List FieldP) (left : Int) (hs : FieldsAt w A B a len l) (hB : B ≤ w.heap.size) (h0 : 0 ≤ left) (h1 : left ≤ 1048576) :
    Calls Tryz.prog 165 #[.slice a len cap, .int .i64 left] w fun e w' => e = .returned (.int .i64 (leftOf left (len + sumOf FieldP.wt l))) ∧ Below w.heap.size w w' := by
  have hlen := hs.2.1
  have HS := Lib.hid hs
  have hll := Lib.hid hs.1
  clear hs
  by_cases c1 : left - (len : Int) < 0
  · have hf := Lib.hid (leftOf_no (left := left) (n := len + sumOf FieldP.wt l) (by omega))
    go_enter Tryz.func165, Tryz.ntmps165
    go_wp2_with fail
    go_ret
    exact ⟨ret_i hf.out, Below.refl _ _⟩
  have c1' : 0 ≤ left - (len : Int) := by omega
  clear c1
  go_enter Tryz.func165, Tryz.ntmps165
  go_wp2_with fail
  go_loopw [1, 5] (fun v i wr => ∃ (i' : Nat) (m : Int), i' ≤ len ∧ 0 ≤ m ∧ m ≤ 1048576 ∧ Hid (m + ((len + sumOf FieldP.wt l : Nat) : Int) = left + (sumOf FieldP.wt (l.drop i') : Int)) ∧ v = .int .i64 m ∧ i = .int .i64 i' ∧ Below w.heap.size w wr) (fun _ i _ => len - (intOf i).toNat)
  case atStart => exact ⟨0, left - len, by omega, by omega, by omega, Lib.hid (by rw [List.drop_zero]; omega), rfl, rfl, Below.refl _ _⟩
  case round =>
    obtain ⟨i, m, hi, hm0, hm1, hm, rfl, rfl, hb⟩ := hrel
    have HB := Lib.hid hb
    by_cases hlt : i < len
    · have hli : (i : Int) < (len : Int) := by omega
      obtain ⟨x, b, off, hd, rfl, hA, hbb, hok, hc⟩ := (HS.out.below fieldLies (Nat.le_refl _) (hb.mono hB)).at hlt
      obtain ⟨c0, c1, c2, c3, c4, c5⟩ := row6 hc
      have hwt := Lib.hid (sumOf_drop (f := FieldP.wt) hd)
      have HC : Hid (∀ w, Calls Tryz.prog 191 #[.agg #[.string x.name, .string x.typ, .bool x.list, .bool x.must, .int .i64 x.size, .int .i64 x.cap], .int .i64 m] w fun e w' => e = .returned (.int .i64 (leftOf m x.wt)) ∧ Below w.heap.size w w') := Lib.hid fun w => szField w x hok m hm0 hm1
      clear hlt hd hb hc hok
      go_wp2_with fail
      refine (HC.out _).mono ?_
      rintro e w1 ⟨rfl, hb1⟩
      have HB1 := Lib.hid (HB.out.trans (hb1.mono HB.out.size))
      clear hb1
      by_cases c3 : (x.wt : Int) ≤ m
      · have e3 : leftOf m x.wt = m - (x.wt : Int) := if_pos c3
        rw [e3]
        have hlo : 0 ≤ m - (x.wt : Int) := by omega
        have hhi : m - (x.wt : Int) ≤ 1048576 := by omega
        have hrel : Hid (m - (x.wt : Int) + ((len + sumOf FieldP.wt l : Nat) : Int) = left + (sumOf FieldP.wt (l.drop (i + 1)) : Int)) := Lib.hid (by
          have e1 := hm.out; have e2 := hwt.out; omega)
        generalize m - (x.wt : Int) = m' at *
        clear hm c3 e3
        go_wp2_with fail
        go_roundw
        case rel => exact ⟨i + 1, m', by omega, hlo, hhi, hrel, rfl, by go_num, HB1.out⟩
        case measure => simp [intOf]; omega
      · have e3 : leftOf m x.wt = -1 := if_neg c3
        rw [e3]
        have hf := Lib.hid (leftOf_no (left := left) (n := len + sumOf FieldP.wt l) (by have e1 := hm.out; have e2 := hwt.out; omega))
        clear hm c3 e3
        go_wp2_with fail
        go_ret
        exact ⟨ret_i hf.out, HB1.out⟩
    · obtain rfl : i = len := by omega
      have hf := Lib.hid (leftOf_yes (left := left) (n := i + sumOf FieldP.wt l) hm0 (by have e1 := hm.out; rw [← hll.out, List.drop_length] at e1; simp only [sumOf, hll.out] at e1; omega))
      clear hlt hb hm
      go_wp2_with fail
      go_ret
      exact ⟨ret_i hf.out, HB.out⟩
theorem szType (w : World) (A B : Nat) (v : Value) (x : TypeP) (hs : TypeAt w A B v x) (hB : B ≤ w.heap.size) (left : Int) (h0 : 0 ≤ left) (h1 : left ≤ 1048576) :
    Calls Tryz.prog 117 #[v, .int .i64 left] w fun e w' => e = .returned (.int .i64 (leftOf left x.wt)) ∧ Below w.heap.size w w' := by
  obtain ⟨a, ca, c, cc, rfl, hk, ⟨h2, _⟩, h3, _⟩ := hs
  obtain ⟨nm, kd, by_, fs, ms⟩ := x
  obtain ⟨hk, _, _⟩ := hk
  unfold OkS at hk
  simp only [TypeP.cells, TypeP.wt] at hk h2 h3 ⊢
  have H2 := Lib.hid h2
  have H3 := Lib.hid h3
  clear h2 h3
  have HA : Hid (∀ o, Below w.heap.size w (w.alloc o)) := Lib.hid fun o => (Below.refl _ _).alloc (Nat.le_refl _) o
  by_cases c1 : left - (nm.size : Int) < 0
  · have hf := Lib.hid (leftOf_no (left := left) (n := nm.size + (fs.length + sumOf FieldP.wt fs) + (ms.length + sumOf ByteArray.size ms)) (by omega))
    go_enter Tryz.func117, Tryz.ntmps117
    go_wp2_with fail
    go_ret
    exact ⟨ret_i hf.out, HA.out _⟩
  have c1' : 0 ≤ left - (nm.size : Int) := by omega
  clear c1
  go_enter Tryz.func117, Tryz.ntmps117
  go_wp2_with fail
  refine (szFieldS _ A B a _ ca fs (left - (nm.size : Int)) (H2.out.below fieldLies hB (HA.out _)) (Nat.le_trans hB (HA.out _).size) (by omega) (by omega)).mono ?_
  rintro e w1 ⟨rfl, hb1⟩
  have HB1 := Lib.hid ((HA.out _).trans (hb1.mono (HA.out _).size))
  have k1 := kcell (j := 4) hb1 (g := w.heap.size) (by simp) (by simp; rfl)
  clear hb1
  by_cases c2 : ((fs.length + sumOf FieldP.wt fs : Nat) : Int) ≤ left - (nm.size : Int)
  · have e2 : leftOf (left - (nm.size : Int)) (fs.length + sumOf FieldP.wt fs) = left - (nm.size : Int) - ((fs.length + sumOf FieldP.wt fs : Nat) : Int) := if_pos c2
    rw [e2]
    have hlo : 0 ≤ left - (nm.size : Int) - ((fs.length + sumOf FieldP.wt fs : Nat) : Int) := by omega
    have hhi : left - (nm.size : Int) - ((fs.length + sumOf FieldP.wt fs : Nat) : Int) ≤ 1048576 := by omega
    have hm := Lib.hid (show left - (nm.size : Int) - ((fs.length + sumOf FieldP.wt fs : Nat) : Int) + ((nm.size + (fs.length + sumOf FieldP.wt fs) : Nat) : Int) = left by omega)
    generalize left - (nm.size : Int) - ((fs.length + sumOf FieldP.wt fs : Nat) : Int) = m at *
    clear e2 c2
    go_wp2_with fail
    refine (szStringS _ A B c _ cc ms m (H3.out.below textLies hB HB1.out) (Nat.le_trans hB HB1.out.size) hlo hhi).mono ?_
    rintro e w2 ⟨rfl, hb2⟩
    have HB2 := Lib.hid (HB1.out.trans (hb2.mono HB1.out.size))
    clear hb2 k1
    by_cases c3 : ((ms.length + sumOf ByteArray.size ms : Nat) : Int) ≤ m
    · have e3 : leftOf m (ms.length + sumOf ByteArray.size ms) = m - ((ms.length + sumOf ByteArray.size ms : Nat) : Int) := if_pos c3
      rw [e3]
      have hf := Lib.hid (leftOf_yes (left := left) (m := m - ((ms.length + sumOf ByteArray.size ms : Nat) : Int)) (n := nm.size + (fs.length + sumOf FieldP.wt fs) + (ms.length + sumOf ByteArray.size ms)) (by omega) (by have := hm.out; omega))
      have hlo2 : 0 ≤ m - ((ms.length + sumOf ByteArray.size ms : Nat) : Int) := by omega
      generalize m - ((ms.length + sumOf ByteArray.size ms : Nat) : Int) = m2 at *
      clear c3 e3
      go_wp2_with fail
      go_ret
      exact ⟨ret_i hf.out, HB2.out⟩
    · have e3 : leftOf m (ms.length + sumOf ByteArray.size ms) = -1 := if_neg c3
      rw [e3]
      have hf := Lib.hid (leftOf_no (left := left) (n := nm.size + (fs.length + sumOf FieldP.wt fs) + (ms.length + sumOf ByteArray.size ms)) (by have := hm.out; omega))
      clear c3 e3
      go_wp2_with fail
      go_ret
      exact ⟨ret_i hf.out, HB2.out⟩
  · have e2 : leftOf (left - (nm.size : Int)) (fs.length + sumOf FieldP.wt fs) = -1 := if_neg c2
    rw [e2]
    have hf := Lib.hid (leftOf_no (left := left) (n := nm.size + (fs.length + sumOf FieldP.wt fs) + (ms.length + sumOf ByteArray.size ms)) (by omega))
    clear c2 e2
    go_wp2_with fail
    go_ret
    exact ⟨ret_i hf.out, HB1.out⟩
theorem szTypeS (w : World) (A B : Nat) (a : Option Addr) (len cap : Nat) (l : List TypeP) (left : Int) (hs : TypesAt w A B a len l) (hB : B ≤ w.heap.size) (h0 : 0 ≤ left) (h1 : left ≤ 1048576) :
    Calls Tryz.prog 67 #[.slice a len cap, .int .i64 left] w fun e w' => e = .returned (.int .i64 (leftOf left (len + sumOf TypeP.wt l))) ∧ Below w.heap.size w w' := by
  have hlen := hs.2.1
  have HS := Lib.hid hs
  have hll := Lib.hid hs.1
  clear hs
  by_cases c1 : left - (len : Int) < 0
  · have hf := Lib.hid (leftOf_no (left := left) (n := len + sumOf TypeP.wt l) (by omega))
    go_enter Tryz.func67, Tryz.ntmps67
    go_wp2_with fail
    go_ret
    exact ⟨ret_i hf.out, Below.refl _ _⟩
  have c1' : 0 ≤ left - (len : Int) := by omega
  clear c1
  go_enter Tryz.func67, Tryz.ntmps67
  go_wp2_with fail
  go_loopw [1, 5] (fun v i wr => ∃ (i' : Nat) (m : Int), i' ≤ len ∧ 0 ≤ m ∧ m ≤ 1048576 ∧ Hid (m + ((len + sumOf TypeP.wt l : Nat) : Int) = left + (sumOf TypeP.wt (l.drop i') : Int)) ∧ v = .int .i64 m ∧ i = .int .i64 i' ∧ Below w.heap.size w wr) (fun _ i _ => len - (intOf i).toNat)
  case atStart => exact ⟨0, left - len, by omega, by omega, by omega, Lib.hid (by rw [List.drop_zero]; omega), rfl, rfl, Below.refl _ _⟩
  case round =>
    obtain ⟨i, m, hi, hm0, hm1, hm, rfl, rfl, hb⟩ := hrel
    have HB := Lib.hid hb
    by_cases hlt : i < len
    · have hli : (i : Int) < (len : Int) := by omega
      obtain ⟨x, b, off, hd, rfl, hA, hbb, hok, a1, ca, c, cc, hc, h2, h3⟩ := (HS.out.below typeLies (Nat.le_refl _) (hb.mono hB)).at hlt
      obtain ⟨c0, c1, c2, c3, c4⟩ := row5 hc
      have hwt := Lib.hid (sumOf_drop (f := TypeP.wt) hd)
      have HC : Hid (∀ w, TypeAt w A B (.agg #[.string x.name, .int .i64 x.kind, .int .i64 x.bytes, .slice a1 x.fields.length ca, .slice c x.members.length cc]) x → B ≤ w.heap.size → Calls Tryz.prog 117 #[.agg #[.string x.name, .int .i64 x.kind, .int .i64 x.bytes, .slice a1 x.fields.length ca, .slice c x.members.length cc], .int .i64 m] w fun e w' => e = .returned (.int .i64 (leftOf m x.wt)) ∧ Below w.heap.size w w') := Lib.hid fun w h1 h2 => szType w A B _ x h1 h2 m hm0 hm1
      have HX : Hid (TypeAt wr A B (.agg #[.string x.name, .int .i64 x.kind, .int .i64 x.bytes, .slice a1 x.fields.length ca, .slice c x.members.length cc]) x) := Lib.hid ⟨a1, ca, c, cc, rfl, hok, h2, h3⟩
      clear hlt hd hb hc hok h2 h3
      go_wp2_with fail
      refine (HC.out _ HX.out (Nat.le_trans hB HB.out.size)).mono ?_
      rintro e w1 ⟨rfl, hb1⟩
      have HB1 := Lib.hid (HB.out.trans (hb1.mono HB.out.size))
      clear hb1
      by_cases c3 : (x.wt : Int) ≤ m
      · have e3 : leftOf m x.wt = m - (x.wt : Int) := if_pos c3
        rw [e3]
        have hlo : 0 ≤ m - (x.wt : Int) := by omega
        have hhi : m - (x.wt : Int) ≤ 1048576 := by omega
        have hrel : Hid (m - (x.wt : Int) + ((len + sumOf TypeP.wt l : Nat) : Int) = left + (sumOf TypeP.wt (l.drop (i + 1)) : Int)) := Lib.hid (by
          have e1 := hm.out; have e2 := hwt.out; omega)
        generalize m - (x.wt : Int) = m' at *
        clear hm c3 e3
        go_wp2_with fail
        go_roundw
        case rel => exact ⟨i + 1, m', by omega, hlo, hhi, hrel, rfl, by go_num, HB1.out⟩
        case measure => simp [intOf]; omega
      · have e3 : leftOf m x.wt = -1 := if_neg c3
        rw [e3]
        have hf := Lib.hid (leftOf_no (left := left) (n := len + sumOf TypeP.wt l) (by have e1 := hm.out; have e2 := hwt.out; omega))
        clear hm c3 e3
        go_wp2_with fail
        go_ret
        exact ⟨ret_i hf.out, HB1.out⟩
    · obtain rfl : i = len := by omega
      have hf := Lib.hid (leftOf_yes (left := left) (n := i + sumOf TypeP.wt l) hm0 (by have e1 := hm.out; rw [← hll.out, List.drop_length] at e1; simp only [sumOf, hll.out] at e1; omega))
      clear hlt hb hm
      go_wp2_with fail
      go_ret
      exact ⟨ret_i hf.out, HB.out⟩
theorem szSchema (w : World) (A B : Nat) (v : Value) (s : List TypeP) (hs : SchemaAt w A B v s) (hB : B ≤ w.heap.size) (left : Int) (h0 : 0 ≤ left) (h1 : left ≤ 1048576) :
    Calls Tryz.prog 26 #[v, .int .i64 left] w fun e w' => e = .returned (.int .i64 (leftOf left (schWt s))) ∧ Below w.heap.size w w' := by
  obtain ⟨a, ca, rfl, h2, _⟩ := hs
  have H2 := Lib.hid h2
  have hlen := h2.2.1
  clear h2
  unfold schWt
  have HA : Hid (∀ o, Below w.heap.size w (w.alloc o)) := Lib.hid fun o => (Below.refl _ _).alloc (Nat.le_refl _) o
  go_enter Tryz.func26, Tryz.ntmps26
  go_wp2_with fail
  refine (szTypeS _ A B a _ ca s left (H2.out.below typeLies hB (HA.out _)) (Nat.le_trans hB (HA.out _).size) h0 h1).mono ?_
  rintro e w1 ⟨rfl, hb1⟩
  have HB1 := Lib.hid ((HA.out _).trans (hb1.mono (HA.out _).size))
  clear hb1
  by_cases c3 : ((s.length + sumOf TypeP.wt s : Nat) : Int) ≤ left
  · have e3 : leftOf left (s.length + sumOf TypeP.wt s) = left - ((s.length + sumOf TypeP.wt s : Nat) : Int) := if_pos c3
    have hf := Lib.hid e3
    rw [e3]
    have hlo : 0 ≤ left - ((s.length + sumOf TypeP.wt s : Nat) : Int) := by omega
    generalize left - ((s.length + sumOf TypeP.wt s : Nat) : Int) = m2 at *
    clear c3 e3
    go_wp2_with fail
    go_ret
    exact ⟨ret_i hf.out.symm, HB1.out⟩
  · have e3 : leftOf left (s.length + sumOf TypeP.wt s) = -1 := if_neg c3
    have hf := Lib.hid e3
    rw [e3]
    clear c3 e3
    go_wp2_with fail
    go_ret
    exact ⟨ret_i hf.out.symm, HB1.out⟩
end Go.Proofs.YtceabbbmgfeofaaGreatDoor.Rw
