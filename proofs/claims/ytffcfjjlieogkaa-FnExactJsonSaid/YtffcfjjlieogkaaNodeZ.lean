/-
  Contracts: laws.szNode, szNodeS tell what is left of a number behind nodes in memory; of what was there nothing is changed. Conditions: in memory.
-/
import Derived.Test.YtffcfjjlieogkaaRows
import Derived.Test.YtffcfjjlieogkaaNodeM
import Derived.Test.YtffcfjjlieogkaaSzT
namespace Go.Proofs.Ytffcfjjlieogkaa.Rw
open Go.RowKit
set_option linter.unusedVariables false
set_option maxRecDepth 100000

/-- What laws.szNode answers of nodes no deeper than n. -/
def SzOne (n : Nat) : Prop := ∀ (w : World) (A B : Nat) (v : Value) (x : NodeP) (left : Int), NodeV n w A B v x → B ≤ w.heap.size → 0 ≤ left → left ≤ 1048576 →
    Calls Try.prog 5 #[v, .int .i64 left] w fun e w' => e = .returned (.int .i64 (leftOf left (wtN n x))) ∧ Below w.heap.size w w'
def SzAll (n : Nat) : Prop := ∀ (w : World) (A B : Nat) (a : Option Addr) (len cap : Nat) (l : List NodeP) (left : Int), NodesAt n w A B a len l → B ≤ w.heap.size → 0 ≤ left → left ≤ 1048576 →
    Calls Try.prog 13 #[.slice a len cap, .int .i64 left] w fun e w' => e = .returned (.int .i64 (leftOf left (len + sumOf (wtN n) l))) ∧ Below w.heap.size w w'
theorem szAll_of (n : Nat) (HN : SzOne n) : SzAll n := by
  intro w A B a len cap l left hs hB h0 h1
  have hlen := hs.2.1
  have HS := Lib.hid hs
  have hll := Lib.hid hs.1
  have HNH := Lib.hid HN
  clear hs HN
  generalize hf : wtN n = f
  have HF := Lib.hid hf
  clear hf
  by_cases c1 : left - (len : Int) < 0
  · have hf := Lib.hid (leftOf_no (left := left) (n := len + sumOf f l) (by omega))
    go_enter Try.func13, Try.ntmps13
    go_wp2_with fail
    go_ret
    exact ⟨ret_i hf.out, Below.refl _ _⟩
  have c1' : 0 ≤ left - (len : Int) := by omega
  clear c1
  go_enter Try.func13, Try.ntmps13
  go_wp2_with fail
  go_loopw [1, 5] (fun v i wr => ∃ (i' : Nat) (m : Int), i' ≤ len ∧ 0 ≤ m ∧ m ≤ 1048576 ∧ Hid (m + ((len + sumOf f l : Nat) : Int) = left + (sumOf f (l.drop i') : Int)) ∧ v = .int .i64 m ∧ i = .int .i64 i' ∧ Below w.heap.size w wr) (fun _ i _ => len - (intOf i).toNat)
  case atStart => exact ⟨0, left - len, by omega, by omega, by omega, Lib.hid (by rw [List.drop_zero]; omega), rfl, rfl, Below.refl _ _⟩
  case round =>
    obtain ⟨i, m, hi, hm0, hm1, hm, rfl, rfl, hb⟩ := hrel
    have HB := Lib.hid hb
    by_cases hlt : i < len
    · have hli : (i : Int) < (len : Int) := by omega
      obtain ⟨x, b, off, hd, rfl, hA, hbb, hxl⟩ := (HS.out.below (nodeLies n) (Nat.le_refl _) (hb.mono hB)).at hlt
      obtain ⟨a1, ca, c, cc, hc, hv⟩ := hxl.val
      obtain ⟨c0, c1, c2, c3⟩ := nrow4 hc
      have hwt := Lib.hid (sumOf_drop (f := f) hd)
      have HX : Hid (Calls Try.prog 5 #[.agg #[.int .i64 x.kind, .string x.text, .slice a1 x.keys.length ca, .slice c x.kids.length cc], .int .i64 m] wr fun e w' => e = .returned (.int .i64 (leftOf m (f x))) ∧ Below wr.heap.size wr w') := Lib.hid (by rw [← HF.out]; exact HNH.out wr A B _ x m hv (Nat.le_trans hB HB.out.size) hm0 hm1)
      generalize hfx : f x = fx at hwt HX
      clear hlt hd hb hc hxl hv hfx
      go_wp2_with fail
      refine HX.out.mono ?_
      rintro e w1 ⟨rfl, hb1⟩
      have HB1 := Lib.hid (HB.out.trans (hb1.mono HB.out.size))
      clear hb1
      by_cases c3 : (fx : Int) ≤ m
      · have e3 : leftOf m fx = m - (fx : Int) := if_pos c3
        rw [e3]
        have hlo : 0 ≤ m - (fx : Int) := by omega
        have hhi : m - (fx : Int) ≤ 1048576 := by omega
        have hrel : Hid (m - (fx : Int) + ((len + sumOf f l : Nat) : Int) = left + (sumOf f (l.drop (i + 1)) : Int)) := Lib.hid (by
          have e1 := hm.out; have e2 := hwt.out; omega)
        generalize m - (fx : Int) = m' at *
        clear hm c3 e3 HX
        go_wp2_with fail
        go_roundw
        case rel => exact ⟨i + 1, m', by omega, hlo, hhi, hrel, rfl, by go_num, HB1.out⟩
        case measure => simp [intOf]; omega
      · have e3 : leftOf m fx = -1 := if_neg c3
        rw [e3]
        have hf := Lib.hid (leftOf_no (left := left) (n := len + sumOf f l) (by have e1 := hm.out; have e2 := hwt.out; omega))
        clear hm c3 e3
        go_wp2_with fail
        go_ret
        exact ⟨ret_i hf.out, HB1.out⟩
    · obtain rfl : i = len := by omega
      have hf := Lib.hid (leftOf_yes (left := left) (n := i + sumOf f l) hm0 (by have e1 := hm.out; rw [← hll.out, List.drop_length] at e1; simp only [sumOf, hll.out] at e1; omega))
      clear hlt hb hm
      go_wp2_with fail
      go_ret
      exact ⟨ret_i hf.out, HB.out⟩
theorem szOne_of (n : Nat) (HN : SzAll n) : SzOne (n + 1) := by
  intro w A B v x left hs hB h0 h1
  obtain ⟨a, ca, c, cc, rfl, hk, ⟨h2, _⟩, h3, _⟩ := hs
  obtain ⟨kd, tx, ks, ns⟩ := x
  obtain ⟨_, hk⟩ := hk
  unfold OkS at hk
  simp only [NodeP.cells, wtN] at hk h2 h3 ⊢
  have H2 := Lib.hid h2
  have H3 := Lib.hid h3
  have HNH := Lib.hid HN
  clear h2 h3 HN
  generalize hf : wtN n = f
  have HF := Lib.hid hf
  clear hf
  have HA : Hid (∀ o, Below w.heap.size w (w.alloc o)) := Lib.hid fun o => (Below.refl _ _).alloc (Nat.le_refl _) o
  by_cases c1 : left - (tx.size : Int) < 0
  · have hf := Lib.hid (leftOf_no (left := left) (n := tx.size + (ks.length + sumOf ByteArray.size ks) + (ns.length + sumOf f ns)) (by omega))
    go_enter Try.func5, Try.ntmps5
    go_wp2_with fail
    go_ret
    exact ⟨ret_i hf.out, HA.out _⟩
  have c1' : 0 ≤ left - (tx.size : Int) := by omega
  clear c1
  go_enter Try.func5, Try.ntmps5
  go_wp2_with fail
  refine (szStringS _ A B a _ ca ks (left - (tx.size : Int)) (H2.out.below textLies hB (HA.out _)) (Nat.le_trans hB (HA.out _).size) (by omega) (by omega)).mono ?_
  rintro e w1 ⟨rfl, hb1⟩
  have HB1 := Lib.hid ((HA.out _).trans (hb1.mono (HA.out _).size))
  have k1 := kcell (j := 3) hb1 (g := w.heap.size) (by simp) (by simp; rfl)
  clear hb1
  by_cases c2 : ((ks.length + sumOf ByteArray.size ks : Nat) : Int) ≤ left - (tx.size : Int)
  · have e2 : leftOf (left - (tx.size : Int)) (ks.length + sumOf ByteArray.size ks) = left - (tx.size : Int) - ((ks.length + sumOf ByteArray.size ks : Nat) : Int) := if_pos c2
    rw [e2]
    have hlo : 0 ≤ left - (tx.size : Int) - ((ks.length + sumOf ByteArray.size ks : Nat) : Int) := by omega
    have hhi : left - (tx.size : Int) - ((ks.length + sumOf ByteArray.size ks : Nat) : Int) ≤ 1048576 := by omega
    have hm := Lib.hid (show left - (tx.size : Int) - ((ks.length + sumOf ByteArray.size ks : Nat) : Int) + ((tx.size + (ks.length + sumOf ByteArray.size ks) : Nat) : Int) = left by omega)
    generalize left - (tx.size : Int) - ((ks.length + sumOf ByteArray.size ks : Nat) : Int) = m at *
    clear e2 c2
    go_wp2_with fail
    refine (HNH.out _ A B c _ cc ns m (H3.out.below (nodeLies n) hB HB1.out) (Nat.le_trans hB HB1.out.size) hlo hhi).mono ?_
    rw [HF.out]
    rintro e w2 ⟨rfl, hb2⟩
    have HB2 := Lib.hid (HB1.out.trans (hb2.mono HB1.out.size))
    clear hb2 k1
    by_cases c3 : ((ns.length + sumOf f ns : Nat) : Int) ≤ m
    · have e3 : leftOf m (ns.length + sumOf f ns) = m - ((ns.length + sumOf f ns : Nat) : Int) := if_pos c3
      rw [e3]
      have hf := Lib.hid (leftOf_yes (left := left) (m := m - ((ns.length + sumOf f ns : Nat) : Int)) (n := tx.size + (ks.length + sumOf ByteArray.size ks) + (ns.length + sumOf f ns)) (by omega) (by have := hm.out; omega))
      have hlo2 : 0 ≤ m - ((ns.length + sumOf f ns : Nat) : Int) := by omega
      generalize m - ((ns.length + sumOf f ns : Nat) : Int) = m2 at *
      clear c3 e3
      go_wp2_with fail
      go_ret
      exact ⟨ret_i hf.out, HB2.out⟩
    · have e3 : leftOf m (ns.length + sumOf f ns) = -1 := if_neg c3
      rw [e3]
      have hf := Lib.hid (leftOf_no (left := left) (n := tx.size + (ks.length + sumOf ByteArray.size ks) + (ns.length + sumOf f ns)) (by have := hm.out; omega))
      clear c3 e3
      go_wp2_with fail
      go_ret
      exact ⟨ret_i hf.out, HB2.out⟩
  · have e2 : leftOf (left - (tx.size : Int)) (ks.length + sumOf ByteArray.size ks) = -1 := if_neg c2
    rw [e2]
    have hf := Lib.hid (leftOf_no (left := left) (n := tx.size + (ks.length + sumOf ByteArray.size ks) + (ns.length + sumOf f ns)) (by omega))
    clear c2 e2
    go_wp2_with fail
    go_ret
    exact ⟨ret_i hf.out, HB1.out⟩
theorem szNodes : ∀ n, SzOne n ∧ SzAll n
  | 0 => have h : SzOne 0 := fun _ _ _ _ _ _ h => h.elim
    ⟨h, szAll_of 0 h⟩
  | n + 1 => have h := szOne_of n (szNodes n).2
    ⟨h, szAll_of (n + 1) h⟩
theorem szNode {n : Nat} : SzOne n := (szNodes n).1
end Go.Proofs.Ytffcfjjlieogkaa.Rw
