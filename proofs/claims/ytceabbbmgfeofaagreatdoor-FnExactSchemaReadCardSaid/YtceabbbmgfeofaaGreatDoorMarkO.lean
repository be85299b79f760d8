/-
  Contracts: laws.markTypeS, markSchema; of what was there nothing else is changed. Conditions: apart in memory, marks from 1 to 9 000 000.
-/
import Derived.Test.YtceabbbmgfeofaaGreatDoorRows
import Derived.Test.YtceabbbmgfeofaaGreatDoorMarkM
namespace Go.Proofs.YtceabbbmgfeofaaGreatDoor.Rw
open Go.RowKit Decs
set_option linter.unusedVariables false
set_option maxRecDepth 100000

/-- A type with marks from k on. -/
def typeMark (x : TypeP) (k : Nat) : TypeP := ⟨mkT k, (k : Int) + 1, (k : Int) + 1 + 1, fieldsMark x.fields (k + 3), textsMark x.members (k + 3 + 6 * x.fields.length)⟩
def typeNum (x : TypeP) : Nat := 3 + 6 * x.fields.length + x.members.length
def typesMark : List TypeP → Nat → List TypeP
  | [], _ => []
  | x :: l, k => typeMark x k :: typesMark l (k + typeNum x)
abbrev typesNum (l : List TypeP) : Nat := sumOf typeNum l
theorem typesMark_len : ∀ (l : List TypeP) (k : Nat), (typesMark l k).length = l.length
  | [], _ => rfl
  | x :: l, k => by simp only [typesMark, List.length_cons, typesMark_len l]
theorem typesMark_at : ∀ (i : Nat) (l : List TypeP) (k : Nat) {x : TypeP}, l[i]? = some x → (typesMark l k)[i]? = some (typeMark x (k + (typesNum l - typesNum (l.drop i))))
  | i, [], k, x, h => by simp at h
  | 0, y :: l, k, x, h => by
    simp at h; subst h
    rw [List.drop_zero, Nat.sub_self, Nat.add_zero]; rfl
  | i + 1, y :: l, k, x, h => by
    have ih := typesMark_at i l (k + typeNum y) (x := x) (by simpa using h)
    have hl := sumOf_le typeNum i l
    have e : k + typeNum y + (typesNum l - typesNum (l.drop i)) = k + (typesNum (y :: l) - typesNum ((y :: l).drop (i + 1))) := by
      simp only [List.drop_succ_cons, typesNum, sumOf]; omega
    rw [e] at ih
    show (typesMark l (k + typeNum y))[i]? = _
    exact ih

set_option maxHeartbeats 4000000 in
theorem markTypeS (w : World) (A B : Nat) (a : Option Addr) (len cap : Nat) (l : List TypeP) (k : Nat) (hs : TypesX w A B a len l) (hB : B ≤ w.heap.size) (h1 : 1 ≤ k) (hk : k + typesNum l ≤ 9000000) :
    Calls Tryz.prog 115 #[.slice a len cap, .int .i64 k] w fun e w' => e = .returned (.int .i64 ((k + typesNum l : Nat) : Int)) ∧ TypesX w' A B a len (typesMark l k) ∧ Within A B w w' := by
  obtain ⟨rfl, hlen, hAB, hx⟩ := hs
  rcases hx with rfl | ⟨b, off, rfl, hA, hbB, hl⟩
  · go_enter Tryz.func115, Tryz.ntmps115
    go_wp2_with fail
    go_loopw [1, 5] (fun v i wr => v = .int .i64 k ∧ i = .int .i64 0 ∧ w = wr) (fun _ _ _ => 0)
    case atStart => exact ⟨rfl, rfl, rfl⟩
    case round =>
      obtain ⟨rfl, rfl, rfl⟩ := hrel
      go_wp2_with fail
      go_ret
      exact ⟨ret_i (by simp [sumOf]), ⟨rfl, by simp, hAB, .inl rfl⟩, Within.refl _ _ _⟩
  have HL := Lib.hid hl
  clear hl
  go_enter Tryz.func115, Tryz.ntmps115
  go_wp2_with fail
  go_loopw [1, 5] (fun v i wr => ∃ (i' M kk : Nat), i' ≤ l.length ∧ Hid (kk = k + (typesNum l - typesNum (l.drop i'))) ∧ kk ≤ 9000000 ∧ v = .int .i64 kk ∧ i = .int .i64 i' ∧ LieRX 5 TypeLieX wr ((typesMark l k).take i') A M b off ∧ LieRX 5 TypeLieX wr (l.drop i') M B b (off + i' * 5) ∧ Within A B w wr) (fun _ i _ => l.length - (intOf i).toNat)
  case atStart => exact ⟨0, A, k, by omega, Lib.hid (by rw [List.drop_zero]; omega), by omega, rfl, rfl, by rw [List.take_zero]; exact Nat.le_refl _, by rw [List.drop_zero, Nat.zero_mul, Nat.add_zero]; exact HL.out, Within.refl _ _ _⟩
  case round =>
    obtain ⟨i, M, kk, hi, hkk, hk9, rfl, rfl, hp, ht, hw⟩ := hrel
    have HP := Lib.hid hp
    have HW := Lib.hid hw
    clear hp hw
    by_cases hlt : i < l.length
    · have hli : (i : Int) < (l.length : Int) := by omega
      obtain ⟨x, hd⟩ : ∃ x, l[i]? = some x := ⟨l[i], List.getElem?_eq_getElem hlt⟩
      have hst := Lib.hid (sumOf_drop (f := typeNum) hd)
      have hdl := Lib.hid (sumOf_le typeNum i l)
      have hmt := Lib.hid (typesMark_at i l k hd)
      have hdc : l.drop i = x :: l.drop (i + 1) := by
        obtain ⟨hl, e⟩ := List.getElem?_eq_some_iff.1 hd
        rw [List.drop_eq_getElem_cons hl, e]
      rw [hdc] at ht
      obtain ⟨hfree, lo, hi', g1, g2, g3, g4, ⟨hok, a1, ca1, c1, cc1, M1, hrow, ⟨hf, hfc⟩, hm, hmc⟩, hr⟩ := ht
      have eAM := hf.2.2.1
      have eMB := hm.2.2.1
      have hlf := hf.2.1
      have hlm := hm.2.1
      obtain ⟨nm, kd, by_, fs, ms⟩ := x
      simp only [TypeP.cells] at hf hfc hm hmc hrow hlf hlm
      have hkk2 : kk + 3 + 6 * fs.length + ms.length ≤ 9000000 := by
        have e1 := hkk.out; have e2 := hst.out; have e3 := hdl.out
        have e4 : typeNum ⟨nm, kd, by_, fs, ms⟩ = 3 + 6 * fs.length + ms.length := rfl
        unfold typesNum at *; omega
      have HF := Lib.hid hfree
      have HFS := Lib.hid hf
      have HMS := Lib.hid hm
      have HR := Lib.hid hr
      have R0 := Lib.hid hrow
      have hBw := Lib.hid (Nat.le_trans hB HW.out.size)
      have CM1 : Hid (∀ w, Calls Tryz.prog 160 #[.int .i64 kk] w fun e w' => e = .returned (.string (mkT kk)) ∧ Below w.heap.size w w') := Lib.hid fun w => markText kk (by have e1 := hkk.out; omega) (by omega) w
      have CF : Hid (∀ w, FieldsX w lo M1 a1 fs.length fs → M1 ≤ w.heap.size → Calls Tryz.prog 161 #[.slice a1 fs.length ca1, .int .i64 ((kk : Int) + 1 + 1 + 1)] w fun e w' => e = .returned (.int .i64 ((kk + 3 + 6 * fs.length : Nat) : Int)) ∧ FieldsX w' lo M1 a1 fs.length (fieldsMark fs (kk + 3)) ∧ Within lo M1 w w') := Lib.hid fun w h1 h2 => markFieldS w lo M1 a1 _ ca1 fs (kk + 3) h1 h2 (by omega) (by omega)
      have CS : Hid (∀ w, TextsX w M1 hi' c1 ms.length ms → hi' ≤ w.heap.size → Calls Tryz.prog 162 #[.slice c1 ms.length cc1, .int .i64 ((kk + 3 + 6 * fs.length : Nat) : Int)] w fun e w' => e = .returned (.int .i64 ((kk + 3 + 6 * fs.length + ms.length : Nat) : Int)) ∧ TextsX w' M1 hi' c1 ms.length (textsMark ms (kk + 3 + 6 * fs.length)) ∧ Within M1 hi' w w') := Lib.hid fun w h1 h2 => markStringS w M1 hi' c1 _ cc1 ms (kk + 3 + 6 * fs.length) h1 h2 (by omega) (by omega)
      have X0 := Lib.hid (Round.refl 5 b (off + i * 5) 0 0 wr)
      clear hd hdc hok hfree hf hm hr hrow hlt
      go_wp2_with fail
      refine (CM1.out _).mono ?_
      rintro e w2 ⟨rfl, hb2⟩
      have X2 := Lib.hid (X0.out.below HF.out hb2)
      have R2 := Lib.hid (R0.out.block (hb2.block b HF.out.lt))
      obtain ⟨q0, q1, q2, q3, q4⟩ := row5 R2.out
      have p0 := (X2.out.free HF.out).frozen (off + i * 5)
      have p1 := (X2.out.free HF.out).frozen (off + i * 5 + 1)
      have p2 := (X2.out.free HF.out).frozen (off + i * 5 + 2)
      have X3 := X2.out.set (j := off + i * 5) (by omega) (by omega) (.string (mkT kk))
      have R3 := R2.out.put (j := 0) (by simp) (.string (mkT kk))
      have X4 := X3.set (j := off + i * 5 + 1) (by omega) (by omega) (.int .i64 ((kk : Int) + 1))
      have R4 := R3.put (j := 1) (by simp) (.int .i64 ((kk : Int) + 1))
      have X5 := Lib.hid (X4.set (j := off + i * 5 + 2) (by omega) (by omega) (.int .i64 ((kk : Int) + 1 + 1)))
      have R5 := Lib.hid (R4.put (j := 2) (by simp) (.int .i64 ((kk : Int) + 1 + 1)))
      rw [Nat.add_zero] at R5
      clear hb2 X3 R3 X4 R4
      go_wp2_with fail
      generalize ((w2.setCell ⟨b, off + i * 5, none⟩ (.string (mkT kk))).setCell ⟨b, off + i * 5 + 1, none⟩ (.int .i64 ((kk : Int) + 1))).setCell ⟨b, off + i * 5 + 2, none⟩ (.int .i64 ((kk : Int) + 1 + 1)) = w5 at *
      refine (CF.out w5 (HFS.out.block fieldLies (fun c d1 d2 => X5.out.other c (by have := hBw.out; omega) (by omega) (by omega))) (by have := hBw.out; have := X5.out.size; omega)).mono ?_
      rintro e w6 ⟨rfl, hf6, hw6⟩
      have X6 := Lib.hid (X5.out.weak.within (lo := lo) (hi := hi') HF.out g4 (hw6.wide (Nat.le_refl _) eMB))
      have R6 : Hid (RowN w6 b (off + i * 5) [.string (mkT kk), .int .i64 ((kk : Int) + 1), .int .i64 ((kk : Int) + 1 + 1), .slice a1 fs.length ca1, .slice c1 ms.length cc1]) := Lib.hid (R5.out.block (hw6.block b (X5.out.free HF.out).lt (by omega)))
      have HM6 := Lib.hid (HMS.out.block (w' := w6) textLies fun c d1 d2 => (hw6.block c (by have := hBw.out; have := X5.out.size; omega) (.inr d1)).trans (X5.out.other c (by have := hBw.out; omega) (by omega) (by omega)))
      have HF6 := Lib.hid hf6
      have q4' := (row5 R6.out).2.2.2.2
      clear hf6 hw6 q0 q1 q2 q3 q4 p0 p1 p2
      go_wp2_with fail
      refine (CS.out w6 HM6.out (by have := hBw.out; have := X6.out.size; omega)).mono ?_
      rintro e w7 ⟨rfl, hm7, hw7⟩
      have X7 := Lib.hid (X6.out.within HF.out g4 (hw7.wide eAM (Nat.le_refl _)))
      have R7 : Hid (RowN w7 b (off + i * 5) [.string (mkT kk), .int .i64 ((kk : Int) + 1), .int .i64 ((kk : Int) + 1 + 1), .slice a1 fs.length ca1, .slice c1 ms.length cc1]) := Lib.hid (R6.out.block (hw7.block b (X6.out.free HF.out).lt (by omega)))
      have HF7 := Lib.hid (HF6.out.block (w' := w7) fieldLies fun c d1 d2 => hw7.block c (by have := hBw.out; have := X6.out.size; omega) (.inl d2))
      have hW7 := Lib.hid (HW.out.trans (X7.out.toWithin hA hbB (by have := HP.out.le; omega) g3 g2))
      have hpre : Hid (LieRX 5 TypeLieX w7 ((typesMark l k).take (i + 1)) A hi' b off) := Lib.hid (by
        have hlen2 : ((typesMark l k).take i).length = i := by rw [List.length_take, typesMark_len]; omega
        have hple := HP.out.le
        rw [List.take_add_one, hmt.out, ← hkk.out]
        refine LieRX.join (M := M) (HP.out.frame typeLiesX (fun c d1 d2 d3 => X7.out.other c (by have := hBw.out; omega) d3 (by omega)) X7.out.free (fun j j1 j2 => X7.out.cells j (by rw [hlen2] at j2; omega))) ?_
        rw [hlen2]
        refine ⟨X7.out.free HF.out, lo, hi', g1, g2, Nat.le_refl _, g4, ⟨⟨mkT_ok (by omega), by unfold OkI typeMark; simp only; omega, by unfold OkI typeMark; simp only; omega⟩, a1, ca1, c1, cc1, M1, ?_, ⟨?_, ?_⟩, ?_, ?_⟩, Nat.le_refl _⟩
        · have e1 : (typeMark ⟨nm, kd, by_, fs, ms⟩ kk).cells a1 ca1 c1 cc1 = [.string (mkT kk), .int .i64 ((kk : Int) + 1), .int .i64 ((kk : Int) + 1 + 1), .slice a1 fs.length ca1, .slice c1 ms.length cc1] := by
            simp [TypeP.cells, typeMark, fieldsMark_len, textsMark_len]
          rw [e1]; exact R7.out
        · show FieldsX w7 lo M1 a1 (fieldsMark fs (kk + 3)).length (fieldsMark fs (kk + 3))
          rw [fieldsMark_len]; exact HF7.out
        · show (fieldsMark fs (kk + 3)).length ≤ ca1
          rw [fieldsMark_len]; exact hfc
        · show TextsX w7 M1 hi' c1 (textsMark ms (kk + 3 + 6 * fs.length)).length (textsMark ms (kk + 3 + 6 * fs.length))
          rw [textsMark_len]; exact hm7
        · show (textsMark ms (kk + 3 + 6 * fs.length)).length ≤ cc1
          rw [textsMark_len]; exact hmc)
      have hpost : Hid (LieRX 5 TypeLieX w7 (l.drop (i + 1)) hi' B b (off + (i + 1) * 5)) := Lib.hid (by
        rw [show off + (i + 1) * 5 = off + i * 5 + 5 by omega]
        exact HR.out.frame typeLiesX (fun c d1 d2 d3 => X7.out.other c (by have := hBw.out; omega) d3 (by omega)) X7.out.free (fun j j1 j2 => X7.out.cells j (by omega)))
      have hkn : Hid (kk + 3 + 6 * fs.length + ms.length = k + (typesNum l - typesNum (l.drop (i + 1)))) := Lib.hid (by
        have e1 := hkk.out; have e2 := hst.out; have e3 := hdl.out
        have e4 : typeNum ⟨nm, kd, by_, fs, ms⟩ = 3 + 6 * fs.length + ms.length := rfl
        unfold typesNum at *; omega)
      clear hm7 hw7 q4'
      go_wp2_with fail
      go_roundw
      case rel => exact ⟨i + 1, hi', kk + 3 + 6 * fs.length + ms.length, by omega, hkn, hkk2, rfl, by go_num, hpre.out, hpost.out, hW7.out⟩
      case measure => simp [intOf]; omega
    · obtain rfl : i = l.length := by omega
      have hfin : Hid (kk = k + typesNum l) := Lib.hid (by have e1 := hkk.out; rw [List.drop_length] at e1; simpa [sumOf] using e1)
      have hall2 : Hid (TypesX wr A B (some ⟨b, off, none⟩) l.length (typesMark l k)) := Lib.hid ⟨typesMark_len l k, hlen, hAB, .inr ⟨b, off, rfl, hA, hbB, by
        have e1 := HP.out
        rw [← typesMark_len l k, List.take_length] at e1
        rw [List.drop_length] at ht
        exact e1.wide (Nat.le_refl _) ht⟩⟩
      clear ht hlt
      go_wp2_with fail
      go_ret
      exact ⟨ret_i (by rw [hfin.out]), hall2.out, HW.out⟩

theorem typesNum_le {s : List TypeP} (h : schWt s ≤ 1048576) : typesNum s ≤ 7340032 := by
  have key : ∀ l : List TypeP, typesNum l ≤ 6 * (l.length + sumOf TypeP.wt l) := by
    intro l
    induction l with
    | nil => simp [sumOf]
    | cons x l ih =>
      have e : TypeP.wt x = x.name.size + (x.fields.length + sumOf FieldP.wt x.fields) + (x.members.length + sumOf ByteArray.size x.members) := rfl
      have e2 : typeNum x = 3 + 6 * x.fields.length + x.members.length := rfl
      simp only [typesNum, sumOf, List.length_cons] at *
      omega
  have := key s
  unfold schWt at h
  omega
theorem markSchema (w : World) (A B : Nat) (v : Value) (s : List TypeP) (k : Nat) (hs : SchemaX w A B v s) (hB : B ≤ w.heap.size) (h1 : 1 ≤ k) (hk : k + typesNum s ≤ 9000000) :
    Calls Tryz.prog 65 #[v, .int .i64 k] w fun e w' => e = .returned (.int .i64 ((k + typesNum s : Nat) : Int)) ∧ SchemaX w' A B v (typesMark s k) ∧ Within A B w w' := by
  obtain ⟨a, ca, rfl, h2, hc⟩ := hs
  have H2 := Lib.hid h2
  have HA : Hid (∀ o, Below w.heap.size w (w.alloc o)) := Lib.hid fun o => (Below.refl _ _).alloc (Nat.le_refl _) o
  clear h2
  go_enter Tryz.func65, Tryz.ntmps65
  go_wp2_with fail
  refine (markTypeS _ A B a _ ca s k (H2.out.below typeLiesX hB (HA.out _)) (Nat.le_trans hB (HA.out _).size) h1 hk).mono ?_
  rintro e w1 ⟨rfl, hs1, hw1⟩
  have HX : Hid (SchemaX w1 A B (.agg #[.slice a s.length ca]) (typesMark s k)) := Lib.hid ⟨a, ca, by rw [typesMark_len], by rw [typesMark_len]; exact hs1, by rw [typesMark_len]; exact hc⟩
  have HW := Lib.hid ((Within.of_below (A := A) (B := B) (HA.out _)).trans hw1)
  clear hs1 hw1
  go_wp2_with fail
  go_ret
  exact ⟨rfl, HX.out, HW.out⟩
end Go.Proofs.YtceabbbmgfeofaaGreatDoor.Rw
