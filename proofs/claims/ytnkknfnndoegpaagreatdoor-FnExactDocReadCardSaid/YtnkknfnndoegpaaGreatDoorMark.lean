/-
  Contracts: laws.markText answers a mark; laws.markSelS writes marks into selections; of what was there nothing else is changed. Conditions: selections apart in memory, marks from 1 to 10^6.
-/
import Derived.Test.YtnkknfnndoegpaaGreatDoorRows
import Derived.Test.YtnkknfnndoegpaaGreatDoorApart
import Derived.Test.YtnkknfnndoegpaaGreatDoorTextS
namespace Go.Proofs.YtnkknfnndoegpaaGreatDoor.Selss
open Go.RowKit Decs Texts Bytes
set_option linter.unusedVariables false
set_option maxRecDepth 100000

/-- The mark of n. -/
def mkT (n : Nat) : ByteArray := ⟨(109 :: decL n).toArray⟩
theorem markText (n : Nat) (h0 : 1 ≤ n) (h1 : n ≤ 1000000) (w : World) :
    Calls Tryz.prog 51 #[.int .i64 n] w fun e w' => e = .returned (.string (mkT n)) ∧ Below w.heap.size w w' := by
  have hi : 0 < (n : Int) := by omega
  go_enter Tryz.func51, Tryz.ntmps51
  go_wp2_with fail
  go_loopw [0, 3] (fun v o wr => ∃ (m : Nat) (l : List UInt8), m ≤ 9223372036854775807 ∧ v = .int .i64 m ∧ o = .string ⟨l.toArray⟩ ∧ Hid (decL n = (if m = 0 then l else decL m ++ l)) ∧ Hid (m * 10 ^ l.length ≤ 9223372036854775808) ∧ l.length ≤ 100 ∧ Below w.heap.size w wr) (fun v _ _ => (intOf v).toNat)
  case atStart => exact ⟨n, [], by omega, rfl, rfl, Lib.hid (by rw [if_neg (by omega), List.append_nil]), Lib.hid (by simp; omega), by simp, Below.refl _ _⟩
  case round =>
    obtain ⟨m, l, hm, rfl, rfl, hd, hl, hll, hb⟩ := hrel
    have HB := Lib.hid hb
    by_cases hm0 : m = 0
    · subst hm0
      have hf : Hid ((⟨#[109]⟩ : ByteArray) ++ ⟨l.toArray⟩ = mkT n) := Lib.hid (by
        unfold mkT; rw [hd.out, if_pos rfl]
        apply ByteArray.ext; simp [ByteArray.data_append])
      have hsz : (⟨l.toArray⟩ : ByteArray).size ≤ 100 := by simpa [ByteArray.size] using hll
      clear hb hd hl
      go_wp2_with fail
      go_ret
      exact ⟨ret_string hf.out, HB.out⟩
    · have hmp : 0 < m := by omega
      have hmi : 0 < (m : Int) := by omega
      have hlen := dec_len hmp hl.out
      have hcv := one_digit wr m
      have hrel : Hid (decL n = (if m / 10 = 0 then UInt8.ofNat (48 + m % 10) :: l else decL (m / 10) ++ (UInt8.ofNat (48 + m % 10) :: l))) := Lib.hid (by rw [hd.out, if_neg hm0, dec_step hmp])
      have hpw : Hid (m / 10 * 10 ^ (UInt8.ofNat (48 + m % 10) :: l).length ≤ 9223372036854775808) := Lib.hid (dec_next hl.out)
      have hdiv : (m : Int).tdiv 10 = ((m / 10 : Nat) : Int) := by rw [Int.tdiv_eq_ediv_of_nonneg (by omega)]; rfl
      have HB1 := Lib.hid (HB.out.alloc HB.out.size (.cells #[.int .u8 (48 + (m : Int) % 10)] 5))
      have hdl := Nat.div_lt_self hmp (show 1 < 10 by omega)
      have hsz : (⟨l.toArray⟩ : ByteArray).size ≤ 100 := by simpa [ByteArray.size] using hll
      clear hb hd hl
      generalize UInt8.ofNat (48 + m % 10) = c at *
      have hcat : ((⟨#[c]⟩ : ByteArray) ++ ⟨l.toArray⟩) = ⟨(c :: l).toArray⟩ := by
        apply ByteArray.ext; simp [ByteArray.data_append]
      go_wp2_with fail
      go_roundw
      case rel => exact ⟨m / 10, c :: l, by omega, by go_num, by trivial, hrel, hpw, by simp; omega, HB1.out⟩
      case measure => simp [intOf]; omega

/-- Cells of a row. -/
def RowN (w : World) (b o : Nat) (l : List Value) : Prop := ∀ j v, l[j]? = some v → w.cell? ⟨b, o + j, none⟩ = some v
theorem RowN.block {w w' : World} {b o : Nat} {l : List Value} (h : RowN w b o l) (e : w'.heap[b]? = w.heap[b]?) : RowN w' b o l := fun j v hj => (World.cell?_of_block (w := w) e).trans (h j v hj)
theorem RowN.put {w : World} {b o j : Nat} {l : List Value} (h : RowN w b o l) (hj : j < l.length) (v : Value) : RowN (w.setCell ⟨b, o + j, none⟩ v) b o (l.set j v) := fun i u hi => by
  by_cases e : i = j
  · subst e
    rw [List.getElem?_set_self hj] at hi
    cases hi
    exact World.cell?_setCell_same' _ _ _ (by rw [h i _ (List.getElem?_eq_getElem hj)]; rfl)
  · rw [List.getElem?_set_ne (fun g => e g.symm)] at hi
    rw [World.cell?_setCell_other _ _ _ _ (by simp <;> omega)]
    exact h i u hi

/-- Selections with marks from k on. -/
def Sels.mark : Sels → Nat → Sels
  | .nil, _ => .nil
  | .cons _ _ _ _ u r, k => .cons k (mkT (k + 1)) (mkT (k + 2)) ((k : Int) + 3) (u.mark (k + 4)) (r.mark (k + 4 + 4 * u.all))
theorem Sels.mark_len : ∀ (s : Sels) (k : Nat), (s.mark k).len = s.len
  | .nil, _ => rfl
  | .cons _ _ _ _ u r, k => by simp only [Sels.mark, Sels.len, Sels.mark_len r]
theorem Sels.mark_all : ∀ (s : Sels) (k : Nat), (s.mark k).all = s.all
  | .nil, _ => rfl
  | .cons _ _ _ _ u r, k => by simp only [Sels.mark, Sels.all, Sels.mark_all u, Sels.mark_all r]
theorem Sels.drop_all_le (i : Nat) (s : Sels) : (s.drop i).all ≤ s.all := Sels.drop_all i s
theorem Sels.mark_drop : ∀ (i : Nat) (s : Sels) (k : Nat), (s.mark k).drop i = (s.drop i).mark (k + 4 * (s.all - (s.drop i).all))
  | 0, s, k => by rw [Sels.drop_zero, Sels.drop_zero, Nat.sub_self, Nat.mul_zero, Nat.add_zero]
  | i + 1, .nil, k => rfl
  | i + 1, .cons a b c d u r, k => by
    have h := Sels.mark_drop i r (k + 4 + 4 * u.all)
    have hl := Sels.drop_all i r
    simp only [Sels.mark, Sels.drop, Sels.all]
    rw [h]
    congr 1
    omega
theorem Sels.mark_take : ∀ (i : Nat) (s : Sels) (k : Nat) {a : Int} {b c : ByteArray} {d : Int} {u r : Sels}, s.drop i = .cons a b c d u r →
    (s.mark k).take (i + 1) = ((s.mark k).take i).app (.cons (k + 4 * (s.all - (s.drop i).all) : Nat) (mkT (k + 4 * (s.all - (s.drop i).all) + 1)) (mkT (k + 4 * (s.all - (s.drop i).all) + 2)) (((k + 4 * (s.all - (s.drop i).all) : Nat) : Int) + 3) (u.mark (k + 4 * (s.all - (s.drop i).all) + 4)) .nil)
  | 0, .nil, k, _, _, _, _, _, _, h => by cases h
  | 0, .cons a b c d u r, k, _, _, _, _, _, _, h => by
    cases h
    rw [Sels.drop_zero, Nat.sub_self, Nat.mul_zero, Nat.add_zero]
    rfl
  | i + 1, .nil, k, _, _, _, _, _, _, h => by cases h
  | i + 1, .cons a b c d u r, k, _, _, _, _, _, _, h => by
    have ih := Sels.mark_take i r (k + 4 + 4 * u.all) h
    have hl := Sels.drop_all i r
    have e : k + 4 + 4 * u.all + 4 * (r.all - (r.drop i).all) = k + 4 * (u.all + r.all + 1 - (r.drop i).all) := by omega
    rw [e] at ih
    show Sels.cons _ _ _ _ _ ((r.mark (k + 4 + 4 * u.all)).take (i + 1)) = _
    rw [ih]
    rfl
theorem row5 {w : World} {b o : Nat} {v0 v1 v2 v3 v4 : Value} (h0 : w.cell? ⟨b, o, none⟩ = some v0) (h1 : w.cell? ⟨b, o + 1, none⟩ = some v1) (h2 : w.cell? ⟨b, o + 2, none⟩ = some v2) (h3 : w.cell? ⟨b, o + 3, none⟩ = some v3) (h4 : w.cell? ⟨b, o + 4, none⟩ = some v4) : RowN w b o [v0, v1, v2, v3, v4] := fun j v hj => by
  match j, hj with
  | 0, hj => cases hj; exact h0
  | 1, hj => cases hj; exact h1
  | 2, hj => cases hj; exact h2
  | 3, hj => cases hj; exact h3
  | 4, hj => cases hj; exact h4
theorem Free.lt {w : World} {b : Nat} (h : Free w b) : b < w.heap.size := by
  obtain ⟨C, T, hc⟩ := h
  rcases Nat.lt_or_ge b w.heap.size with g | g
  · exact g
  · rw [Array.getElem?_eq_none g] at hc; cases hc
/-- What a round of marks leaves as it was: other blocks, other cells of the row's block. -/
structure Round (n b o lo hi : Nat) (w w' : World) : Prop where
  os : w'.os = w.os
  tape : w'.tape = w.tape
  output : w'.output = w.output
  size : w.heap.size ≤ w'.heap.size
  other : ∀ c, c < w.heap.size → c ≠ b → (c < lo ∨ hi ≤ c) → w'.heap[c]? = w.heap[c]?
  cells : ∀ j, (j < o ∨ o + n ≤ j) → w'.cell? ⟨b, j, none⟩ = w.cell? ⟨b, j, none⟩
  free : Free w b → Free w' b
theorem Round.refl (n b o lo hi : Nat) (w : World) : Round n b o lo hi w w := ⟨rfl, rfl, rfl, Nat.le_refl _, fun _ _ _ _ => rfl, fun _ _ => rfl, id⟩
theorem Round.set {n b o lo hi : Nat} {a w : World} (h : Round n b o lo hi a w) {j : Nat} (h1 : o ≤ j) (h2 : j < o + n) (v : Value) : Round n b o lo hi a (w.setCell ⟨b, j, none⟩ v) :=
  ⟨h.os, h.tape, h.output, by simpa using h.size, fun c hc hb hl => (Go.Deep.blk_setCell_other _ ⟨b, j, none⟩ _ _ hb).trans (h.other c hc hb hl), fun i hi => (World.cell?_setCell_other _ _ _ _ (by simp <;> omega)).trans (h.cells i hi), fun hf => (h.free hf).set _ _ _⟩
theorem Round.below {n b o lo hi : Nat} {a w w' : World} (h : Round n b o lo hi a w) (hf : Free a b) (g : Below w.heap.size w w') : Round n b o lo hi a w' := by
  have hlt := (h.free hf).lt
  exact ⟨g.os.trans h.os, g.tape.trans h.tape, g.output.trans h.output, Nat.le_trans h.size g.size, fun c hc hb hl => (g.block c (Nat.lt_of_lt_of_le hc h.size)).trans (h.other c hc hb hl), fun i hi => (g.cell (p := ⟨b, i, none⟩) hlt).trans (h.cells i hi), fun _ => (h.free hf).of (g.block b hlt)⟩
theorem Round.within {n b o lo hi : Nat} {a w w' : World} (h : Round n b o lo hi a w) (hf : Free a b) (hb : b < lo ∨ hi ≤ b) (g : Within lo hi w w') : Round n b o lo hi a w' := by
  have hlt := (h.free hf).lt
  have hbb := g.block b hlt (by omega)
  exact ⟨g.os.trans h.os, g.tape.trans h.tape, g.output.trans h.output, Nat.le_trans h.size g.size, fun c hc hcb hl => (g.block c (Nat.lt_of_lt_of_le hc h.size) (by omega)).trans (h.other c hc hcb hl), fun i hi => (World.cell?_of_block (w := w) hbb).trans (h.cells i hi), fun _ => (h.free hf).of hbb⟩
theorem Round.weak {n b o lo hi : Nat} {w w' : World} (h : Round n b o 0 0 w w') : Round n b o lo hi w w' :=
  ⟨h.os, h.tape, h.output, h.size, fun c hc hcb _ => h.other c hc hcb (by omega), h.cells, h.free⟩
theorem Round.toWithin {n b o lo hi A B : Nat} {w w' : World} (h : Round n b o lo hi w w') (h1 : A ≤ b) (h2 : b < B) (h3 : A ≤ lo) (h4 : hi ≤ B) (h5 : lo ≤ hi) : Within A B w w' :=
  ⟨h.os, h.tape, h.output, h.size, fun c hc hp => h.other c hc (by omega) (by omega)⟩

set_option maxHeartbeats 4000000 in
theorem markSelS : ∀ (n : Nat) (s : Sels), s.all < n → ∀ (w : World) (A B : Nat) (a : Option Addr) (cap k : Nat), SelsX w A B a s.len s → B ≤ w.heap.size → 1 ≤ k → k + 4 * s.all ≤ 900000 →
    Calls Tryz.prog 29 #[.slice a s.len cap, .int .i64 k] w fun e w' => e = .returned (.int .i64 ((k + 4 * s.all : Nat) : Int)) ∧ SelsX w' A B a s.len (s.mark k) ∧ Within A B w w' := by
  intro n
  induction n with
  | zero => intro s h; omega
  | succ n ih =>
    intro s hall w A B a cap k hs hB h1 hk
    have hlen := hs.2.1
    have hAB := hs.2.2.1
    have IH := Lib.hid ih
    clear ih
    rcases hs.2.2.2 with rfl | ⟨b, off, rfl, hA, hbB, hl⟩
    · go_enter Tryz.func29, Tryz.ntmps29
      go_wp2_with fail
      go_loopw [1, 5] (fun v i wr => v = .int .i64 k ∧ i = .int .i64 0 ∧ w = wr) (fun _ _ _ => 0)
      case atStart => exact ⟨rfl, rfl, rfl⟩
      case round =>
        obtain ⟨rfl, rfl, rfl⟩ := hrel
        have HS := Lib.hid hs
        clear hs
        simp only [Sels.len] at *
        go_wp2_with fail
        go_ret
        exact ⟨ret_i (by simp [Sels.all]), HS.out, Within.refl _ _ _⟩
    have HL := Lib.hid hl
    have HS := Lib.hid hs
    clear hs hl
    go_enter Tryz.func29, Tryz.ntmps29
    go_wp2_with fail
    go_loopw [1, 5] (fun v i wr => ∃ (i' M kk : Nat), i' ≤ s.len ∧ Hid (kk = k + 4 * (s.all - (s.drop i').all)) ∧ kk ≤ 900000 ∧ v = .int .i64 kk ∧ i = .int .i64 i' ∧ LieX wr ((s.mark k).take i') A M b off ∧ LieX wr (s.drop i') M B b (off + i' * 5) ∧ Within A B w wr) (fun _ i _ => s.len - (intOf i).toNat)
    case atStart => exact ⟨0, A, k, by omega, Lib.hid (by rw [Sels.drop_zero]; omega), by omega, rfl, rfl, by cases s <;> exact Nat.le_refl _, by rw [Sels.drop_zero, Nat.zero_mul, Nat.add_zero]; exact HL.out, Within.refl _ _ _⟩
    case round =>
      obtain ⟨i, M, kk, hi, hkk, hk9, rfl, rfl, hp, ht, hw⟩ := hrel
      have HP := Lib.hid hp
      have HW := Lib.hid hw
      clear hp hw
      by_cases hlt : i < s.len
      · have hli : (i : Int) < (s.len : Int) := by omega
        obtain ⟨k0, key, nm, f, u, r, hd⟩ := Sels.drop_at hlt
        have hst := Lib.hid (Sels.all_step hd)
        have hua : u.all < n := by have := Sels.all_drop hd; omega
        have hdl := Sels.drop_all i s
        have hd2 := Lib.hid (Sels.drop_succ i s hd)
        have hmt := Lib.hid (Sels.mark_take i s k hd)
        rw [hd] at ht
        obtain ⟨ok, hfree, c0, c1, c2, c3, a', cap', lo, hi', c4, h5, g1, g2, g3, g4, hu, hr⟩ := ht
        have hkk2 : kk + 4 + 4 * u.all ≤ 900000 := by have e1 := hkk.out; have e2 := hst.out; omega
        have hblt := hfree.lt
        have HF := Lib.hid hfree
        have HU : Hid (SelsX wr lo hi' a' u.len u) := Lib.hid ⟨rfl, h5, g2, hu⟩
        have HR := Lib.hid hr
        have R0 := Lib.hid (row5 c0 c1 c2 c3 c4)
        have hBw := Lib.hid (Nat.le_trans hB HW.out.size)
        have CM1 : Hid (∀ w, Calls Tryz.prog 51 #[.int .i64 ((kk : Int) + 1)] w fun e w' => e = .returned (.string (mkT (kk + 1))) ∧ Below w.heap.size w w') := Lib.hid fun w => markText (kk + 1) (by omega) (by omega) w
        have CM2 : Hid (∀ w, Calls Tryz.prog 51 #[.int .i64 ((kk : Int) + 1 + 1)] w fun e w' => e = .returned (.string (mkT (kk + 2))) ∧ Below w.heap.size w w') := Lib.hid fun w => markText (kk + 2) (by omega) (by omega) w
        have CU : Hid (∀ w, SelsX w lo hi' a' u.len u → hi' ≤ w.heap.size → Calls Tryz.prog 29 #[.slice a' u.len cap', .int .i64 ((kk : Int) + 1 + 1 + 1 + 1)] w fun e w' => e = .returned (.int .i64 ((kk + 4 + 4 * u.all : Nat) : Int)) ∧ SelsX w' lo hi' a' u.len (u.mark (kk + 4)) ∧ Within lo hi' w w') := Lib.hid fun w h1 h2 => IH.out u hua w lo hi' a' cap' (kk + 4) h1 h2 (by omega) (by omega)
        have p0 := hfree.frozen (off + i * 5)
        have X1 := Lib.hid ((Round.refl 5 b (off + i * 5) 0 0 wr).set (j := off + i * 5) (by omega) (by omega) (.int .i64 kk))
        have R1 : Hid (RowN (wr.setCell ⟨b, off + i * 5, none⟩ (.int .i64 kk)) b (off + i * 5) [.int .i64 kk, .string key, .string nm, .int .i64 f, .slice a' u.len cap']) := Lib.hid (R0.out.put (j := 0) (by simp) (.int .i64 kk))
        clear hd ok hfree hu hr c1 c2 c3 c4 hlt hdl
        go_wp2_with fail
        refine (CM1.out _).mono ?_
        rintro e w2 ⟨rfl, hb2⟩
        have X2 := Lib.hid (X1.out.below HF.out hb2)
        have R2 := Lib.hid (R1.out.block (hb2.block b (X1.out.free HF.out).lt))
        have q1 := R2.out 1 _ rfl
        have p1 := (X2.out.free HF.out).frozen (off + i * 5 + 1)
        have X3 := Lib.hid (X2.out.set (j := off + i * 5 + 1) (by omega) (by omega) (.string (mkT (kk + 1))))
        have R3 : Hid (RowN (w2.setCell ⟨b, off + i * 5 + 1, none⟩ (.string (mkT (kk + 1)))) b (off + i * 5) [.int .i64 kk, .string (mkT (kk + 1)), .string nm, .int .i64 f, .slice a' u.len cap']) := Lib.hid (R2.out.put (j := 1) (by simp) _)
        clear hb2 c0 p0
        go_wp2_with fail
        refine (CM2.out _).mono ?_
        rintro e w4 ⟨rfl, hb4⟩
        have X4 := Lib.hid (X3.out.below HF.out hb4)
        have R4 := Lib.hid (R3.out.block (hb4.block b (X3.out.free HF.out).lt))
        have q2 := R4.out 2 _ rfl
        have q3 := R4.out 3 _ rfl
        have q4 := R4.out 4 _ rfl
        have p2 := (X4.out.free HF.out).frozen (off + i * 5 + 2)
        have p3 := (X4.out.free HF.out).frozen (off + i * 5 + 3)
        have X6 := Lib.hid ((X4.out.set (j := off + i * 5 + 2) (by omega) (by omega) (.string (mkT (kk + 2)))).set (j := off + i * 5 + 3) (by omega) (by omega) (.int .i64 ((kk : Int) + 1 + 1 + 1)))
        have R6 : Hid (RowN ((w4.setCell ⟨b, off + i * 5 + 2, none⟩ (.string (mkT (kk + 2)))).setCell ⟨b, off + i * 5 + 3, none⟩ (.int .i64 ((kk : Int) + 1 + 1 + 1))) b (off + i * 5) [.int .i64 kk, .string (mkT (kk + 1)), .string (mkT (kk + 2)), .int .i64 ((kk : Int) + 1 + 1 + 1), .slice a' u.len cap']) := Lib.hid ((R4.out.put (j := 2) (by simp) _).put (j := 3) (by simp) _)
        clear hb4 q1 p1
        go_wp2_with fail
        generalize (w4.setCell ⟨b, off + i * 5 + 2, none⟩ (.string (mkT (kk + 2)))).setCell ⟨b, off + i * 5 + 3, none⟩ (.int .i64 ((kk : Int) + 1 + 1 + 1)) = w6 at *
        refine (CU.out w6 (HU.out.block (fun c d1 d2 => X6.out.other c (by have := hBw.out; omega) (by omega) (by omega))) (by have := hBw.out; have := X6.out.size; omega)).mono ?_
        rintro e w7 ⟨rfl, hs7, hw7⟩
        have X7 := Lib.hid (X6.out.weak.within (lo := lo) (hi := hi') HF.out g4 hw7)
        have R7 := Lib.hid (R6.out.block (hw7.block b (X6.out.free HF.out).lt (by omega)))
        have hW7 := Lib.hid (HW.out.trans (X7.out.toWithin hA hbB (by have := HP.out.le; omega) g3 g2))
        have hpre : Hid (LieX w7 ((s.mark k).take (i + 1)) A hi' b off) := Lib.hid (by
          rw [hmt.out, ← hkk.out]
          have hlen2 : ((s.mark k).take i).len = i := Sels.take_len i _ (by rw [Sels.mark_len]; omega)
          have hple := HP.out.le
          refine LieX.join (M := M) (HP.out.frame (fun c d1 d2 d3 => X7.out.other c (by have := hBw.out; omega) d3 (by omega)) X7.out.free (fun j j1 j2 => X7.out.cells j (by rw [hlen2] at j2; omega))) ?_
          rw [hlen2]
          have OkN : ∀ m : Nat, m ≤ 1000000 → OkI m := fun m hm => ⟨by omega, by omega⟩
          have OkT : ∀ m : Nat, m ≤ 1000000 → OkS (mkT m) := fun m hm => by
            have := decL_len 6 m (by have : (10 : Nat) ^ (6 + 1) = 10000000 := by decide
                                     omega)
            unfold OkS mkT
            simp [ByteArray.size]; omega
          refine ⟨⟨OkN _ (by omega), OkT _ (by omega), OkT _ (by omega), OkN (kk + 3) (by omega)⟩, X7.out.free HF.out, R7.out 0 _ rfl, R7.out 1 _ rfl, R7.out 2 _ rfl, ?_, a', cap', lo, hi', ?_, by rw [Sels.mark_len]; exact h5, g1, g2, Nat.le_refl _, g4, hs7.2.2.2, Nat.le_refl _⟩
          · have := R7.out 3 _ rfl
            rw [this]
            congr 2
          · rw [Sels.mark_len]; exact R7.out 4 _ rfl)
        have hpost : Hid (LieX w7 (s.drop (i + 1)) hi' B b (off + (i + 1) * 5)) := Lib.hid (by
          rw [hd2.out, show off + (i + 1) * 5 = off + i * 5 + 5 by omega]
          exact HR.out.frame (fun c d1 d2 d3 => X7.out.other c (by have := hBw.out; omega) d3 (by omega)) X7.out.free (fun j j1 j2 => X7.out.cells j (by omega)))
        have hkn : Hid (kk + 4 + 4 * u.all = k + 4 * (s.all - (s.drop (i + 1)).all)) := Lib.hid (by
          have e1 := hkk.out; have e2 := hst.out; have e3 := Sels.drop_all i s; omega)
        clear hs7 hw7 q2 q3 q4 p2 p3
        go_wp2_with fail
        go_roundw
        case rel => exact ⟨i + 1, hi', kk + 4 + 4 * u.all, by omega, hkn, hkk2, rfl, by go_num, hpre.out, hpost.out, hW7.out⟩
        case measure => simp [intOf]; omega
      · obtain rfl : i = s.len := by omega
        have hfin : Hid (kk = k + 4 * s.all) := Lib.hid (by have e1 := hkk.out; rw [Sels.drop_end (Nat.le_refl _)] at e1; simpa [Sels.all] using e1)
        have hall2 : Hid (SelsX wr A B (some ⟨b, off, none⟩) s.len (s.mark k)) := Lib.hid ⟨Sels.mark_len s k, by rw [Sels.mark_len]; exact hlen, hAB, .inr ⟨b, off, rfl, hA, hbB, by
          have e1 := HP.out
          rw [← Sels.mark_len s k, Sels.take_all] at e1
          rw [Sels.drop_end (Nat.le_refl _)] at ht
          exact e1.wide (Nat.le_refl _) ht⟩⟩
        clear ht hlt
        go_wp2_with fail
        go_ret
        exact ⟨ret_i (by rw [hfin.out]), hall2.out, HW.out⟩
end Go.Proofs.YtnkknfnndoegpaaGreatDoor.Selss
