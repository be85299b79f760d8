/-
  Contracts: impl.numberOf, readField, readFields, readType: what words say; of what was there nothing is changed. Conditions: texts of at most 8000 bytes; the library's variables hold what the program lays.
-/
import Derived.Test.YtceabbbmgfeofaaGreatDoorRows
import Derived.Test.YtceabbbmgfeofaaGreatDoorVarsR
import Derived.Test.YtceabbbmgfeofaaGreatDoorKindF
import Derived.Test.YtceabbbmgfeofaaGreatDoorOwnTy
import Derived.Test.YtceabbbmgfeofaaGreatDoorFieldP
namespace Go.Proofs.YtceabbbmgfeofaaGreatDoor.Rw
open Go.RowKit Words Decs Splits
set_option linter.unusedVariables false
set_option maxRecDepth 100000

theorem implNumberOf (s : ByteArray) (w : World) (B : Nat) (hv : VarsR B w) (hs : s.size ≤ 8000) :
    Calls Tryz.prog 155 #[.string s] w fun e w' => e = .returned (.int .i64 (pintR (bL s))) ∧ Below w.heap.size w w' := by
  have CP := Lib.hid (pintC s w B hv hs)
  generalize pintR (bL s) = n at *
  clear hv
  go_enter Tryz.func155, Tryz.ntmps155
  go_wp2_with fail
  refine CP.out.mono ?_
  rintro e w1 ⟨⟨x, rfl⟩, hb1⟩
  have HB1 := Lib.hid hb1
  clear hb1
  go_wp2_with fail
  go_ret
  exact ⟨rfl, HB1.out⟩
theorem ubL {l : Tk} : bL (ubR l) = l := by simp [bL, ubR]
theorem fieldQ_ok (w : ByteArray) (hw : w.size ≤ 8000) : (fieldQ (bL w)).ok := by
  have hl := bL_len w
  have h1 := trimR_len (bL w) [33]
  have h2 := cutR_len (Lib.trimSuffix (bL w) [33]) [91]
  have h3 := cutR_len (Lib.cut (Lib.trimSuffix (bL w) [33]) [91]).1 [58]
  refine ⟨okS_ub (by omega), okS_ub (by omega), ?_, ?_⟩
  · unfold fieldQ; simp only; split
    · exact okI_0
    · exact pintR_ok _
  · unfold fieldQ; simp only; split
    · exact pintR_ok _
    · exact okI_0

set_option maxHeartbeats 4000000 in
theorem implReadField (t : ByteArray) (w : World) (B : Nat) (hv : VarsR B w) (hB : B ≤ w.heap.size) (ht : t.size ≤ 8000) :
    Calls Tryz.prog 188 #[.string t] w fun e w' => e = .returned (.agg (fieldQ (bL t)).cells.toArray) ∧ Below w.heap.size w w' := by
  have HA : Hid (∀ o, Below w.heap.size w (w.alloc o)) := Lib.hid fun o => (Below.refl _ _).alloc (Nat.le_refl _) o
  have CC : Hid (∀ (s sep : ByteArray) (w' : World), s.size ≤ 8000 → Below w.heap.size w w' → Calls Tryz.prog 154 #[.string s, .string sep] w' fun e w'' => e = .returned (.tuple #[.string (ubR (Lib.cut (bL s) (bL sep)).1), .string (ubR (Lib.cut (bL s) (bL sep)).2.1), .bool (Lib.cut (bL s) (bL sep)).2.2]) ∧ Below w'.heap.size w' w'') := Lib.hid fun s sep w' h1 h2 => cutC s sep w' B (hv.over hB h2) h1
  have CN : Hid (∀ (s : ByteArray) (w' : World), s.size ≤ 8000 → Below w.heap.size w w' → Calls Tryz.prog 155 #[.string s] w' fun e w'' => e = .returned (.int .i64 (pintR (bL s))) ∧ Below w'.heap.size w' w'') := Lib.hid fun s w' h1 h2 => implNumberOf s w' B (hv.over hB h2) h1
  have hl := bL_len t
  have b33 : bL ⟨#[33]⟩ = [33] := rfl
  have b91 : bL ⟨#[91]⟩ = [91] := rfl
  have b58 : bL ⟨#[58]⟩ = [58] := rfl
  have b93 : bL ⟨#[93]⟩ = [93] := rfl
  have b60 : bL ⟨#[60]⟩ = [60] := rfl
  -- the word without its must
  have C1 : Hid (∀ w', Calls Tryz.prog 202 #[.string t, .string ⟨#[33]⟩] w' fun e w'' => e = .returned (.tuple #[.string (ubR (Lib.trimSuffix (bL t) [33])), .bool (Lib.hasSuffix (bL t) [33])]) ∧ w' = w'') := Lib.hid fun w' => sufC t _ w' ht
  have l1 := trimR_len (bL t) [33]
  have HQ := Lib.hid (show fieldQ (bL t) = ⟨ubR (Lib.cut (Lib.cut (Lib.trimSuffix (bL t) [33]) [91]).1 [58]).1, ubR (Lib.cut (Lib.cut (Lib.trimSuffix (bL t) [33]) [91]).1 [58]).2.1, (Lib.cut (Lib.trimSuffix (bL t) [33]) [91]).2.2, Lib.hasSuffix (bL t) [33],
    if Lib.hasPrefix (numQ (Lib.cut (Lib.trimSuffix (bL t) [33]) [91]).2.1) [60] = true then 0 else pintR (Lib.trimPrefix (numQ (Lib.cut (Lib.trimSuffix (bL t) [33]) [91]).2.1) [60]),
    if Lib.hasPrefix (numQ (Lib.cut (Lib.trimSuffix (bL t) [33]) [91]).2.1) [60] = true then pintR (Lib.trimPrefix (numQ (Lib.cut (Lib.trimSuffix (bL t) [33]) [91]).2.1) [60]) else 0⟩ from rfl)
  generalize Lib.trimSuffix (bL t) [33] = w1 at *
  generalize Lib.hasSuffix (bL t) [33] = must at *
  have C2 : Hid (∀ w', Below w.heap.size w w' → Calls Tryz.prog 154 #[.string (ubR w1), .string ⟨#[91]⟩] w' fun e w'' => e = .returned (.tuple #[.string (ubR (Lib.cut w1 [91]).1), .string (ubR (Lib.cut w1 [91]).2.1), .bool (Lib.cut w1 [91]).2.2]) ∧ Below w'.heap.size w' w'') := Lib.hid fun w' h => by
    have := CC.out (ubR w1) ⟨#[91]⟩ w' (by rw [ubR_size]; omega) h
    rw [ubL] at this; exact this
  have l2 := cutR_len w1 [91]
  generalize Lib.cut w1 [91] = c at *
  obtain ⟨head, number, listed⟩ := c
  simp only at C2 l2 HQ
  have C3 : Hid (∀ w', Below w.heap.size w w' → Calls Tryz.prog 154 #[.string (ubR head), .string ⟨#[58]⟩] w' fun e w'' => e = .returned (.tuple #[.string (ubR (Lib.cut head [58]).1), .string (ubR (Lib.cut head [58]).2.1), .bool (Lib.cut head [58]).2.2]) ∧ Below w'.heap.size w' w'') := Lib.hid fun w' h => by
    have := CC.out (ubR head) ⟨#[58]⟩ w' (by rw [ubR_size]; omega) h
    rw [ubL] at this; exact this
  generalize Lib.cut head [58] = d at *
  obtain ⟨name, typ, dot⟩ := d
  simp only at C3 HQ
  have C4 : Hid (∀ w', Calls Tryz.prog 112 #[.string (ubR number), .string ⟨#[93]⟩] w' fun e w'' => e = .returned (.string (ubR (numQ number))) ∧ w' = w'') := Lib.hid fun w' => by
    have := trimC (ubR number) ⟨#[93]⟩ w' (by rw [ubR_size]; omega)
    rw [ubL] at this; exact this
  have l4 : (numQ number).length ≤ number.length := trimR_len _ _
  generalize numQ number = x at *
  have C5 : Hid (∀ w', Calls Tryz.prog 203 #[.string (ubR x), .string ⟨#[60]⟩] w' fun e w'' => e = .returned (.tuple #[.string (ubR (Lib.trimPrefix x [60])), .bool (Lib.hasPrefix x [60])]) ∧ w' = w'') := Lib.hid fun w' => by
    have := preC (ubR x) ⟨#[60]⟩ w'
    rw [ubL] at this; exact this
  have l5 := preR_len x [60]
  generalize Lib.trimPrefix x [60] = dg at *
  generalize Lib.hasPrefix x [60] = cp at *
  have C6 : Hid (∀ w', Below w.heap.size w w' → Calls Tryz.prog 155 #[.string (ubR dg)] w' fun e w'' => e = .returned (.int .i64 (pintR dg)) ∧ Below w'.heap.size w' w'') := Lib.hid fun w' h => by
    have := CN.out (ubR dg) w' (by rw [ubR_size]; omega) h
    rw [ubL] at this; exact this
  generalize pintR dg = num at *
  rw [HQ.out]
  clear HQ hv CC CN l1 l2 l4 l5 hl b33 b91 b58 b93 b60
  generalize ubR w1 = u1 at *
  generalize ubR head = u2 at *
  generalize ubR number = u3 at *
  generalize ubR name = u4 at *
  generalize ubR typ = u5 at *
  generalize ubR x = u6 at *
  generalize ubR dg = u7 at *
  simp only [FieldP.cells]
  have HZ0 := Lib.hid (heap_alloc_new w (.cells #[.string ⟨#[]⟩, .string ⟨#[]⟩, .bool false, .bool false, .int .i64 0, .int .i64 0] 50))
  cases cp
  · simp only [Bool.false_eq_true, if_false]
    go_enter Tryz.func188, Tryz.ntmps188
    go_wp2_with fail
    refine (C1.out _).mono ?_
    rintro e w9 ⟨rfl, rfl⟩
    go_wp2_with fail
    refine (C2.out _ (HA.out _)).mono ?_
    rintro e w2 ⟨rfl, hb2⟩
    have HB2 := Lib.hid ((HA.out _).trans (hb2.mono (HA.out _).size))
    have HZ2 := Lib.hid ((hb2.block w.heap.size (lt_of_get HZ0.out)).trans HZ0.out)
    clear hb2
    go_wp2_with fail
    refine (C3.out _ HB2.out).mono ?_
    rintro e w3 ⟨rfl, hb3⟩
    have HB3 := Lib.hid (HB2.out.trans (hb3.mono HB2.out.size))
    have HZ3 := Lib.hid ((hb3.block w.heap.size (lt_of_get HZ2.out)).trans HZ2.out)
    clear hb3
    have HB4 : Hid (Below w.heap.size w (w3.alloc (.cells #[.string u4, .string u5, .bool listed, .bool must, .int .i64 0, .int .i64 0] 50))) := Lib.hid (HB3.out.alloc HB3.out.size _)
    have HF4 := Lib.hid (heap_alloc_new w3 (.cells #[.string u4, .string u5, .bool listed, .bool must, .int .i64 0, .int .i64 0] 50))
    have HZ4 := Lib.hid ((Go.Deep.blk_alloc_lt w3 (.cells #[.string u4, .string u5, .bool listed, .bool must, .int .i64 0, .int .i64 0] 50) w.heap.size (lt_of_get HZ3.out)).trans HZ3.out)
    go_wp2_with (first
      | (go_at_call 112; refine (C4.out _).mono ?_; rintro e w9 ⟨rfl, rfl⟩)
      | (go_at_call 203; refine (C5.out _).mono ?_; rintro e w9 ⟨rfl, rfl⟩))
    refine (C6.out _ HB4.out).mono ?_
    rintro e w5 ⟨rfl, hb5⟩
    have HB5 := Lib.hid (HB4.out.trans (hb5.mono HB4.out.size))
    have hf5 := (hb5.block w3.heap.size (lt_of_get HF4.out)).trans HF4.out
    have HZ5 := Lib.hid ((hb5.block w.heap.size (lt_of_get HZ4.out)).trans HZ4.out)
    have hlt : w.heap.size < w3.heap.size := lt_of_get HZ3.out
    have ⟨⟨y0, y1, y2, y3, y4, y5⟩, f0, f1, f2, f3, f4, f5⟩ := keep6 hf5
    have ⟨⟨z0, z1, z2, z3, z4, z5⟩, g0, g1, g2, g3, g4, g5⟩ := keep6 HZ5.out
    have HZ6 : Hid ((w5.setCell ⟨w3.heap.size, 4, none⟩ (.int .i64 num)).heap[w.heap.size]? = _) := Lib.hid ((Go.Deep.blk_setCell_other w5 ⟨w3.heap.size, 4, none⟩ (.int .i64 num) w.heap.size (by show w.heap.size ≠ w3.heap.size; omega)).trans HZ5.out)
    have HB6 := Lib.hid (HB5.out.setCell (p := ⟨w3.heap.size, 4, none⟩) (by show w.heap.size ≤ w3.heap.size; omega) (.int .i64 num))
    clear hb5 hf5
    go_wp2_with fail
    change bodyPost _ _ _ _ _ (putL (w5.setCell ⟨w3.heap.size, 4, none⟩ (.int .i64 num)) w.heap.size 0 [.string u4, .string u5, .bool listed, .bool must, .int .i64 num, .int .i64 0])
    generalize w5.setCell ⟨w3.heap.size, 4, none⟩ (.int .i64 num) = w6 at *
    obtain ⟨hr, _, _⟩ := putL_cells (g := w.heap.size) (o := 0) (l := [.string u4, .string u5, .bool listed, .bool must, .int .i64 num, .int .i64 0]) HZ6.out (by simp)
    have HBF := putL_below (g := w.heap.size) (B := w.heap.size) (Nat.le_refl _) [.string u4, .string u5, .bool listed, .bool must, .int .i64 num, .int .i64 0] 0 HB6.out
    generalize putL w6 w.heap.size 0 [.string u4, .string u5, .bool listed, .bool must, .int .i64 num, .int .i64 0] = wz at *
    have ⟨x0, x1, x2, x3, x4, x5⟩ := row6z hr
    exact bodyPost_ret (v := .agg #[.string u4, .string u5, .bool listed, .bool must, .int .i64 num, .int .i64 0]) (by simp [results, Tryz.results188, go_sem, x0, x1, x2, x3, x4, x5]) rfl ⟨rfl, HBF⟩
  · simp only [if_true]
    go_enter Tryz.func188, Tryz.ntmps188
    go_wp2_with fail
    refine (C1.out _).mono ?_
    rintro e w9 ⟨rfl, rfl⟩
    go_wp2_with fail
    refine (C2.out _ (HA.out _)).mono ?_
    rintro e w2 ⟨rfl, hb2⟩
    have HB2 := Lib.hid ((HA.out _).trans (hb2.mono (HA.out _).size))
    have HZ2 := Lib.hid ((hb2.block w.heap.size (lt_of_get HZ0.out)).trans HZ0.out)
    clear hb2
    go_wp2_with fail
    refine (C3.out _ HB2.out).mono ?_
    rintro e w3 ⟨rfl, hb3⟩
    have HB3 := Lib.hid (HB2.out.trans (hb3.mono HB2.out.size))
    have HZ3 := Lib.hid ((hb3.block w.heap.size (lt_of_get HZ2.out)).trans HZ2.out)
    clear hb3
    have HB4 : Hid (Below w.heap.size w (w3.alloc (.cells #[.string u4, .string u5, .bool listed, .bool must, .int .i64 0, .int .i64 0] 50))) := Lib.hid (HB3.out.alloc HB3.out.size _)
    have HF4 := Lib.hid (heap_alloc_new w3 (.cells #[.string u4, .string u5, .bool listed, .bool must, .int .i64 0, .int .i64 0] 50))
    have HZ4 := Lib.hid ((Go.Deep.blk_alloc_lt w3 (.cells #[.string u4, .string u5, .bool listed, .bool must, .int .i64 0, .int .i64 0] 50) w.heap.size (lt_of_get HZ3.out)).trans HZ3.out)
    go_wp2_with (first
      | (go_at_call 112; refine (C4.out _).mono ?_; rintro e w9 ⟨rfl, rfl⟩)
      | (go_at_call 203; refine (C5.out _).mono ?_; rintro e w9 ⟨rfl, rfl⟩))
    refine (C6.out _ HB4.out).mono ?_
    rintro e w5 ⟨rfl, hb5⟩
    have HB5 := Lib.hid (HB4.out.trans (hb5.mono HB4.out.size))
    have hf5 := (hb5.block w3.heap.size (lt_of_get HF4.out)).trans HF4.out
    have HZ5 := Lib.hid ((hb5.block w.heap.size (lt_of_get HZ4.out)).trans HZ4.out)
    have hlt : w.heap.size < w3.heap.size := lt_of_get HZ3.out
    have ⟨⟨y0, y1, y2, y3, y4, y5⟩, f0, f1, f2, f3, f4, f5⟩ := keep6 hf5
    have ⟨⟨z0, z1, z2, z3, z4, z5⟩, g0, g1, g2, g3, g4, g5⟩ := keep6 HZ5.out
    have HZ6 : Hid ((w5.setCell ⟨w3.heap.size, 5, none⟩ (.int .i64 num)).heap[w.heap.size]? = _) := Lib.hid ((Go.Deep.blk_setCell_other w5 ⟨w3.heap.size, 5, none⟩ (.int .i64 num) w.heap.size (by show w.heap.size ≠ w3.heap.size; omega)).trans HZ5.out)
    have HB6 := Lib.hid (HB5.out.setCell (p := ⟨w3.heap.size, 5, none⟩) (by show w.heap.size ≤ w3.heap.size; omega) (.int .i64 num))
    clear hb5 hf5
    go_wp2_with fail
    change bodyPost _ _ _ _ _ (putL (w5.setCell ⟨w3.heap.size, 5, none⟩ (.int .i64 num)) w.heap.size 0 [.string u4, .string u5, .bool listed, .bool must, .int .i64 0, .int .i64 num])
    generalize w5.setCell ⟨w3.heap.size, 5, none⟩ (.int .i64 num) = w6 at *
    obtain ⟨hr, _, _⟩ := putL_cells (g := w.heap.size) (o := 0) (l := [.string u4, .string u5, .bool listed, .bool must, .int .i64 0, .int .i64 num]) HZ6.out (by simp)
    have HBF := putL_below (g := w.heap.size) (B := w.heap.size) (Nat.le_refl _) [.string u4, .string u5, .bool listed, .bool must, .int .i64 0, .int .i64 num] 0 HB6.out
    generalize putL w6 w.heap.size 0 [.string u4, .string u5, .bool listed, .bool must, .int .i64 0, .int .i64 num] = wz at *
    have ⟨x0, x1, x2, x3, x4, x5⟩ := row6z hr
    exact bodyPost_ret (v := .agg #[.string u4, .string u5, .bool listed, .bool must, .int .i64 0, .int .i64 num]) (by simp [results, Tryz.results188, go_sem, x0, x1, x2, x3, x4, x5]) rfl ⟨rfl, HBF⟩

/-- Fields in new memory, as a value. -/
def FieldsNew (w w' : World) (L : List FieldP) (e : Ending) : Prop := ∃ a cap, e = .returned (.slice a L.length cap) ∧ L.length ≤ cap ∧ FieldsX w' w.heap.size w'.heap.size a L.length L

set_option maxHeartbeats 4000000 in
theorem implReadFields (t : ByteArray) (w : World) (B : Nat) (hv : VarsR B w) (hB : B ≤ w.heap.size) (ht : t.size ≤ 8000) :
    Calls Tryz.prog 156 #[.string t] w fun e w' => FieldsNew w w' ((splitL 32 (bL t)).map fieldQ) e ∧ Below w.heap.size w w' := by
  have CS := Lib.hid (splitC t 32 w B hv ht)
  have HV := Lib.hid hv
  obtain ⟨hs1, hs2⟩ := textsR_sizes 32 t ht
  have HL0 : Hid ((splitL 32 (bL t)).map fieldQ = ((splitL 32 (bL t)).map ubR).map fun x => fieldQ (bL x)) := Lib.hid (by rw [List.map_map]; exact List.map_congr_left fun x _ => by show fieldQ x = fieldQ (bL (ubR x)); rw [ubL])
  rw [HL0.out]
  generalize (splitL 32 (bL t)).map ubR = L at *
  have HS2 := Lib.hid hs2
  clear hv HL0 hs2
  go_enter Tryz.func156, Tryz.ntmps156
  go_wp2_with fail
  refine CS.out.mono ?_
  rintro e w1 ⟨⟨a, rfl, hx⟩, hb1⟩
  have HB1 := Lib.hid hb1
  have HX := Lib.hid (RowsX.at_ textLies (fun h => h) hx)
  clear hx hb1
  go_wp2_with fail
  go_loopw [3, 9] (fun s i wr => ∃ (i' : Nat) (av : Option Addr) (cap : Nat), i' ≤ L.length ∧ i = .int .i64 i' ∧ s = .slice av i' cap ∧ Hid (OwnFs wr w1.heap.size (.slice av i' cap) ((L.take i').map fun x => fieldQ (bL x))) ∧ Hid (Below w1.heap.size w1 wr) ∧ Below w.heap.size w wr) (fun _ i _ => L.length - (intOf i).toNat)
  case atStart => exact ⟨0, none, 0, by omega, rfl, rfl, Lib.hid (OwnFs.nil _ _), Lib.hid (Below.refl _ _), HB1.out⟩
  case round =>
    obtain ⟨i, av, cap, hi, rfl, rfl, HO, HW1, hb⟩ := hrel
    have HB := Lib.hid hb
    by_cases hlt : i < L.length
    · have hli : (i : Int) < (L.length : Int) := by omega
      obtain ⟨x, b, off, hd, rfl, hAb, hbb, hok, hc⟩ := (HX.out.below textLies (Nat.le_refl _) HW1.out).at hlt
      rw [Nat.mul_one] at hc
      have HD := Lib.hid hd
      have hx8 := HS2.out x (List.mem_iff_getElem?.2 ⟨i, hd⟩)
      have CF := Lib.hid (implReadField x wr B (HV.out.over hB HB.out) (Nat.le_trans hB HB.out.size) hx8)
      have HLen : Hid (((L.take i).map fun x => fieldQ (bL x)).length = i) := Lib.hid (by rw [List.length_map, List.length_take]; omega)
      obtain ⟨f, hf⟩ : ∃ f, fieldQ (bL x) = f := ⟨_, rfl⟩
      have HF := Lib.hid hf
      rw [hf] at CF
      have hfc := Lib.hid (show f.cells = [.string f.name, .string f.typ, .bool f.list, .bool f.must, .int .i64 f.size, .int .i64 f.cap] from rfl)
      simp only [FieldP.cells] at CF
      clear hd hok hlt hb hx8 hf
      go_wp2_with fail
      refine CF.out.mono ?_
      rintro e w2 ⟨rfl, hb2⟩
      have HW2 := Lib.hid (HW1.out.trans (hb2.mono HW1.out.size))
      have HB2 := Lib.hid (HB.out.trans (hb2.mono HB.out.size))
      have HO2 : Hid (OwnFs (w2.alloc (.cells #[.string f.name, .string f.typ, .bool f.list, .bool f.must, .int .i64 f.size, .int .i64 f.cap] 50)) w1.heap.size (.slice av i cap) ((L.take i).map fun x => fieldQ (bL x))) := Lib.hid ((HO.out.below hb2).below ((Below.refl _ _).alloc (Nat.le_refl _) _))
      have HN := Lib.hid (heap_alloc_new w2 (.cells #[.string f.name, .string f.typ, .bool f.list, .bool f.must, .int .i64 f.size, .int .i64 f.cap] 50))
      have HW3 := Lib.hid (HW2.out.alloc HW2.out.size (.cells #[.string f.name, .string f.typ, .bool f.list, .bool f.must, .int .i64 f.size, .int .i64 f.cap] 50))
      have HB3 := Lib.hid (HB2.out.alloc HB2.out.size (.cells #[.string f.name, .string f.typ, .bool f.list, .bool f.must, .int .i64 f.size, .int .i64 f.cap] 50))
      clear hb2
      go_wp2_with (at_builtin; refine app_field rfl _ _ rfl w1.heap.size (.slice av i cap) ((L.take i).map fun x => fieldQ (bL x)) (by first | rfl | (rw [HLen.out]; rfl)) HO2.out w2.heap.size 1 rfl f HN.out (by rw [HLen.out]; omega) HW3.out.size ?_; rw [HLen.out]; intro a3 cap3 w3 hown3 hb3)
      have HW4 := Lib.hid (HW3.out.trans hb3)
      have HB4 := Lib.hid (HB3.out.trans (hb3.mono HB1.out.size))
      have HO4 : Hid (OwnFs w3 w1.heap.size (.slice a3 (i + 1) cap3) ((L.take (i + 1)).map fun x => fieldQ (bL x))) := Lib.hid (by
        rw [List.take_add_one, HD.out, List.map_append]
        simp only [Option.toList_some, List.map_cons, List.map_nil, HF.out]
        exact hown3)
      clear hown3 hb3
      go_roundw
      case rel => exact ⟨i + 1, a3, cap3, by omega, by go_num, rfl, HO4, HW4, HB4.out⟩
      case measure => simp [intOf]; omega
    · obtain rfl : i = L.length := by omega
      have hx := HO.out
      rw [List.take_length] at hx
      have hxl : (L.map fun x => fieldQ (bL x)).length = L.length := by rw [List.length_map]
      obtain ⟨a9, c9, he, hc9, hx9⟩ := OwnFs.fieldsX hx (fun f hf => by
        obtain ⟨y, hy, rfl⟩ := List.mem_map.1 hf
        exact fieldQ_ok y (HS2.out y hy)) (by rw [hxl]; omega) HW1.out.size
      rw [hxl] at he hc9
      obtain ⟨rfl, rfl⟩ : av = a9 ∧ cap = c9 := by cases he; exact ⟨rfl, rfl⟩
      have HX9 := Lib.hid hx9
      have HC9 := Lib.hid hc9
      clear hlt hb hx he hc9 hx9
      go_wp2_with fail
      go_ret
      exact ⟨⟨av, cap, by rw [hxl]; rfl, by rw [hxl]; exact HC9.out, RowsX.wide HX9.out HB1.out.size (Nat.le_refl _)⟩, HB.out⟩
end Go.Proofs.YtceabbbmgfeofaaGreatDoor.Rw
