/-
  Contracts: spec.l03Field reads a field's word; of what was there nothing is changed. Conditions: a text of at most 8000 bytes.
-/
import Derived.Test.YtnkknfnndoegpaaGreatDoorRows
import Derived.Test.YtnkknfnndoegpaaGreatDoorNumP
import Derived.Test.YtnkknfnndoegpaaGreatDoorSplit
import Derived.Deep.RegionHeld3
import Derived.IntWalk
import Derived.Deep.RegionWith
namespace Go.Proofs.YtnkknfnndoegpaaGreatDoor.Selss
open Go.RowKit Words Decs Splits
set_option linter.unusedVariables false

theorem splitL_sizes (c : UInt8) : ∀ (l : List UInt8) (x : Tok), x ∈ splitL c l → x.length ≤ l.length
  | [], x, h => by simp [splitL] at h; subst h; simp
  | y :: r, x, h => by
    unfold splitL at h
    by_cases e : y = c
    · rw [if_pos e] at h
      rcases List.mem_cons.1 h with rfl | h
      · simp
      · have := splitL_sizes c r x h; simp; omega
    · rw [if_neg e] at h
      cases hs : splitL c r with
      | nil => exact absurd hs (splitL_ne c r)
      | cons a b =>
        rw [hs] at h
        simp only [glue] at h
        have key : ∀ z ∈ splitL c r, z.length ≤ r.length := fun z hz => splitL_sizes c r z hz
        rw [hs] at key
        rcases List.mem_cons.1 h with rfl | h
        · have := key a (by simp); simp; omega
        · have := key x (by simp [h]); simp; omega
theorem splitL_len (c : UInt8) : ∀ l : List UInt8, (splitL c l).length ≤ l.length + 1
  | [] => by simp [splitL]
  | y :: r => by
    have ih := splitL_len c r
    unfold splitL
    split
    · simp; omega
    · cases hs : splitL c r with
      | nil => simp [glue]
      | cons a b => rw [hs] at ih; simp [glue] at ih ⊢; omega
theorem strs_get {w : World} {A B len : Nat} {a : Option Addr} {l : List Tok} (h : StrsAt w A B a len l) {i : Nat} {x : Tok} (hx : l[i]? = some x) : ∃ b off, a = some ⟨b, off, none⟩ ∧ b < B ∧ w.cell? ⟨b, off + i, none⟩ = some (.string ⟨x.toArray⟩) := by
  rcases h.2 with rfl | ⟨b, off, ha, hA, hb, hl⟩
  · simp at hx
  · exact ⟨b, off, ha, hb, hl i x hx⟩

theorem kept2 {w w1 : World} {o1 o2 : Obj} (hb : Below ((w.alloc o1).alloc o2).heap.size ((w.alloc o1).alloc o2) w1) : w1.heap[w.heap.size]? = some o1 ∧ w1.heap[w.heap.size + 1]? = some o2 := by
  have e1 : (w.alloc o1).heap.size = w.heap.size + 1 := by simp
  constructor
  · rw [hb.block _ (by simp; omega), Go.Deep.blk_alloc_lt _ _ _ (by rw [e1]; omega)]; exact Go.Deep.blk_alloc_new _ _
  · rw [hb.block _ (by simp), ← e1]; exact Go.Deep.blk_alloc_new _ _
theorem list_two {P : List Tok} (h : P.length = 2) : ∃ a b, P = [a, b] := by
  match P, h with
  | [a, b], _ => exact ⟨a, b, rfl⟩
theorem cons_of_ne {P : List Tok} (h : P ≠ []) : ∃ a r, P = a :: r := by
  cases P with
  | nil => exact absurd rfl h
  | cons a r => exact ⟨a, r, rfl⟩
theorem ub_size (t : Tok) : (ub t).size = t.length := by simp [ub, ByteArray.size]
theorem ub_cut (t : Tok) : (ub t).extract 0 (t.length - 1) = ub t.dropLast := by
  apply bl_inj
  unfold bl
  rw [Lib.extract_data]
  simp [ub, List.dropLast_eq_take]
theorem last_at {K : List Tok} (h : K ≠ []) : K[K.length - 1]? = some (K.getLastD []) := by
  cases hk : K with
  | nil => exact absurd hk h
  | cons a r => simp [List.getLastD_eq_getLast?, List.getLast?_eq_getElem?]

set_option maxHeartbeats 1000000 in
theorem specField (t : ByteArray) (ht : t.size ≤ 8000) (w : World) :
    Calls Tryz.prog 19 #[.string t] w fun e w' => e = .returned (.agg #[.int .i64 1, .string (ub (fieldP (bl t)).1), .string (ub (fieldP (bl t)).2.1), .int .i64 (fieldP (bl t)).2.2, .slice none 0 0]) ∧ Below w.heap.size w w' := by
  have hP := splitL_ne 40 (bl t)
  have hPs := splitL_sizes 40 (bl t)
  have hPl := splitL_len 40 (bl t)
  have hfd : Hid (fieldP (bl t) = ((splitL 58 ((splitL 40 (bl t)).headD [])).headD [], (splitL 58 ((splitL 40 (bl t)).headD [])).getLastD [], if (splitL 40 (bl t)).length = 2 ∧ 1 < ((splitL 40 (bl t)).getD 1 []).length then numP ((splitL 40 (bl t)).getD 1 []).dropLast else -1)) := Lib.hid rfl
  have C1 : Hid (∀ w, Calls Tryz.prog 9 #[.string t, .int .u8 40] w fun e w' => (∃ a cap, e = .returned (.slice a (splitL 40 (bl t)).length cap) ∧ StrsAt w' w.heap.size w'.heap.size a (splitL 40 (bl t)).length (splitL 40 (bl t))) ∧ Below w.heap.size w w') := Lib.hid fun w => specSplit t (by omega) 40 w
  rw [bl_len] at hPs hPl
  generalize splitL 40 (bl t) = P at *
  obtain ⟨P0, PR, rfl⟩ := cons_of_ne hP
  have h0s : P0.length ≤ 8000 := by have := hPs P0 (by simp); omega
  have hK := splitL_ne 58 P0
  have hKl := splitL_len 58 P0
  have C2 : Hid (∀ w, Calls Tryz.prog 9 #[.string (ub P0), .int .u8 58] w fun e w' => (∃ a cap, e = .returned (.slice a (splitL 58 P0).length cap) ∧ StrsAt w' w.heap.size w'.heap.size a (splitL 58 P0).length (splitL 58 P0)) ∧ Below w.heap.size w w') := Lib.hid fun w => by
    have := specSplit (ub P0) (by rw [ub_size]; omega) 58 w
    have e : (ub P0).data.toList = P0 := by simp [ub]
    rw [e] at this; exact this
  simp only [List.headD_cons] at hfd
  generalize splitL 58 P0 = K at *
  obtain ⟨K0, KR, rfl⟩ := cons_of_ne hK
  have hlast := last_at hK
  simp only [List.headD_cons] at hfd
  generalize (K0 :: KR).getLastD [] = KL at hfd hlast
  have HA : ∀ o1 o2, Below w.heap.size w ((w.alloc o1).alloc o2) := fun o1 o2 => ((Below.refl _ _).alloc (Nat.le_refl _) o1).alloc (by simp) o2
  go_enter Tryz.func19, Tryz.ntmps19
  go_wp2_with fail
  refine (C1.out _).mono ?_
  rintro e w1 ⟨⟨a1, cap1, rfl, hs1⟩, hb1⟩
  have ⟨hk0, hk1⟩ := kept2 hb1
  have HB1 := Lib.hid ((HA _ _).trans (hb1.mono (HA _ _).size))
  have hz1 : w.heap.size + 1 + 1 ≤ w1.heap.size := by have := hb1.size; simp at this; omega
  obtain ⟨b1, o1, rfl, hbl1, hc0⟩ := strs_get hs1 (i := 0) (x := P0) rfl
  rw [Nat.add_zero] at hc0
  have hlo1 : w.heap.size + 1 + 1 ≤ b1 := by
    rcases hs1.2 with h | ⟨b, o, h1, h2, _⟩
    · cases h
    · cases h1; simp at h2; omega
  have HS1 := Lib.hid hs1
  have hPl2 : (P0 :: PR).length ≤ 8001 := by omega
  clear hb1 hs1 C1 hP hPl
  by_cases hc : (P0 :: PR).length = 2 ∧ 1 < ((P0 :: PR).getD 1 []).length
  · obtain ⟨q0, P1, hq⟩ := list_two hc.1
    cases hq
    simp only [List.getD_cons_succ, List.getD_cons_zero] at hc hfd
    have hfv : Hid (fieldP (bl t) = (K0, KL, numP P1.dropLast)) := Lib.hid (by rw [hfd.out, if_pos hc])
    obtain ⟨b1', o1', e1', _, hc1⟩ := strs_get HS1.out (i := 1) (x := P1) rfl
    cases e1'
    have h1s : P1.length ≤ 8000 := by have := hPs P1 (by simp); omega
    have hcut := ub_cut P1
    have hls := ub_size P1
    have hli : (1 : Int) < (P1.length : Int) := by have := hc.2; omega
    have CN : Hid (∀ w, Calls Tryz.prog 33 #[.string (ub P1.dropLast)] w fun e w' => e = .returned (.int .i64 (numP P1.dropLast)) ∧ w = w') := Lib.hid fun w => by
      have := specNum (ub P1.dropLast) (by rw [ub_size, List.length_dropLast]; omega) w
      rw [bl_ub] at this; exact this
    have ⟨⟨e0, e1, e2, e3, e4⟩, p0, p1, p2, p3, p4⟩ := keep5 hk1
    have hc1' : w1.cell? ⟨b1, o1 + 1, none⟩ = some (.string (ub P1)) := hc1
    have hc0' : w1.cell? ⟨b1, o1, none⟩ = some (.string (ub P0)) := hc0
    generalize numP P1.dropLast = fv at CN hfv
    generalize ub P1.dropLast = us at CN hcut
    generalize ub P1 = u1 at hc1' hls hcut
    have hm0 : (0 : Int) ≤ (u1.size : Int) - 1 := by omega
    have hm1 : (u1.size : Int) - 1 ≤ (u1.size : Int) := by omega
    have hm2 : u1.size - 1 = P1.length - 1 := by omega
    have hm3 : (1 : Int) < (u1.size : Int) := by omega
    have hm4 : (u1.size : Int) ≤ 8000 := by omega
    have hm5 : (1 : Int) ≤ (u1.size : Int) := by omega
    have hm6 : 1 ≤ u1.size := by omega
    have hm7 : (0 : Int) < (u1.size : Int) := by omega
    have hm8 : 0 < u1.size := by omega
    have hne1 : b1 ≠ w.heap.size + 1 := by omega
    have hne2 : w.heap.size + 1 ≠ b1 := by omega
    have hne3 : ¬ (b1 = w.heap.size + 1) := by omega
    have hw1 : IntKind.i64.wrap ((u1.size : Int) - 1) = (u1.size : Int) - 1 := IntWalk.i64_in _ (by omega)
    have hm9 : (0 : Int) ≤ (u1.size : Int) - 1 ∧ (u1.size : Int) - 1 ≤ (u1.size : Int) := by omega
    rw [← hm2] at hcut
    clear hm2 hls h1s hli
    clear hc hfd hc1 hc0 hPs
    have hk0A : ((w1.setCell ⟨w.heap.size + 1, 3, none⟩ (.int .i64 fv)).drew).heap[w.heap.size]? = _ := (Go.Deep.blk_setCell_other w1 ⟨w.heap.size + 1, 3, none⟩ (.int .i64 fv) w.heap.size (by simp)).trans hk0
    have hk1A : ((w1.setCell ⟨w.heap.size + 1, 3, none⟩ (.int .i64 fv)).drew).heap[w.heap.size + 1]? = some (.cells #[.int .i64 1, .string ⟨#[]⟩, .string ⟨#[]⟩, .int .i64 fv, .slice none 0 0] 50 (0, 0)) := (heap_setCell_same w1 (w.heap.size + 1) 3 _ _ (.int .i64 fv) hk1).trans (by simp)
    have hc0A : ((w1.setCell ⟨w.heap.size + 1, 3, none⟩ (.int .i64 fv)).drew).cell? ⟨b1, o1, none⟩ = some (.string (ub P0)) := by
      show (w1.setCell ⟨w.heap.size + 1, 3, none⟩ (.int .i64 fv)).cell? _ = _
      rw [World.cell?_setCell_other _ _ _ _ (by simp)]; exact hc0'
    have HBA := Lib.hid (HB1.out.setCell (p := ⟨w.heap.size + 1, 3, none⟩) (by simp) (.int .i64 fv)).drew
    have hzA : w.heap.size + 1 + 1 ≤ ((w1.setCell ⟨w.heap.size + 1, 3, none⟩ (.int .i64 fv)).drew).heap.size := by show _ ≤ (w1.setCell _ _).heap.size; simp; exact hz1
    go_wp2_with fail
    go_region_held3 (fun w' => w'.cell? ⟨b1, o1 + 1, none⟩ = some (.string u1)) (go_keep)
      (first | (go_at_call 33; refine (CN.out _).mono ?_; rintro e w2 ⟨rfl, rfl⟩))
    all_goals
      generalize (w1.setCell ⟨w.heap.size + 1, 3, none⟩ (.int .i64 fv)).drew = W at *
      clear e0 e1 e2 e3 e4 p0 p1 p2 p3 p4 hc1' hc0' hk0 hk1 HS1
      go_wp2_with fail
      have HH0 := Lib.hid hk0A
      have HH1 := Lib.hid hk1A
      have ⟨⟨e0, e1, e2, e3, e4⟩, p0, p1, p2, p3, p4⟩ := keep5 hk1A
      refine (C2.out _).mono ?_
      rintro e w3 ⟨⟨a3, cap3, rfl, hs3⟩, hb3⟩
      have hx0 := (hb3.block w.heap.size (by omega)).trans HH0.out
      have hx1 := (hb3.block (w.heap.size + 1) (by omega)).trans HH1.out
      have ⟨⟨r0, r1, r2, r3, r4⟩, s0, s1, s2, s3, s4⟩ := keep5 hx0
      have ⟨⟨x0, x1, x2, x3, x4⟩, y0, y1, y2, y3, y4⟩ := keep5 hx1
      have HB3 := HBA.out.trans (hb3.mono HBA.out.size)
      obtain ⟨b3, o3, rfl, hbl3, hd0⟩ := strs_get hs3 (i := 0) (x := K0) rfl
      rw [Nat.add_zero] at hd0
      obtain ⟨b3', o3', e3', hbl3', hdl⟩ := strs_get hs3 hlast
      cases e3'
      have hlo3 : b3 ≠ w.heap.size + 1 := by
        rcases hs3.2 with h | ⟨b, o, h1, h2, _⟩
        · cases h
        · cases h1; omega
      have hkl : 1 ≤ (K0 :: KR).length := by simp
      have hki : (0 : Int) < ((K0 :: KR).length : Int) := by omega
      have hkm : (K0 :: KR).length ≤ 8001 := by omega
      have hs5 : ((w3.setCell ⟨w.heap.size + 1, 1, none⟩ (.string (ub K0))).setCell ⟨w.heap.size + 1, 2, none⟩ (.string (ub KL))).heap[w.heap.size]? = _ := (Go.Deep.blk_setCell_other _ _ _ _ (by simp)).trans ((Go.Deep.blk_setCell_other _ _ _ _ (by simp)).trans hx0)
      have HFX := Lib.hid (set5_block hs5 (.int .i64 1) (.string (ub K0)) (.string (ub KL)) (.int .i64 fv) (.slice none 0 0))
      have HBF := Lib.hid (set5_below ((HB3.setCell (p := ⟨w.heap.size + 1, 1, none⟩) (by simp) (.string (ub K0))).setCell (p := ⟨w.heap.size + 1, 2, none⟩) (by simp) (.string (ub KL))) (g := w.heap.size) (Nat.le_refl _) (.int .i64 1) (.string (ub K0)) (.string (ub KL)) (.int .i64 fv) (.slice none 0 0))
      clear hs5 HB3
      generalize hn : (K0 :: KR).length = n at *
      obtain ⟨m, rfl⟩ : ∃ m, n = m + 1 := ⟨n - 1, by omega⟩
      simp only [Nat.add_sub_cancel] at hdl
      clear hb3 hs3 hx0 hx1 e0 e1 e2 e3 e4 p0 p1 p2 p3 p4 hc0A
      go_wp2_with fail
      change bodyPost _ _ _ _ _ (set5 ((w3.setCell ⟨w.heap.size + 1, 1, none⟩ (.string (ub K0))).setCell ⟨w.heap.size + 1, 2, none⟩ (.string (ub KL))) w.heap.size (.int .i64 1) (.string (ub K0)) (.string (ub KL)) (.int .i64 fv) (.slice none 0 0))
      generalize set5 ((w3.setCell ⟨w.heap.size + 1, 1, none⟩ (.string (ub K0))).setCell ⟨w.heap.size + 1, 2, none⟩ (.string (ub KL))) w.heap.size (.int .i64 1) (.string (ub K0)) (.string (ub KL)) (.int .i64 fv) (.slice none 0 0) = WF at *
      have ⟨⟨f0, f1, f2, f3, f4⟩, _⟩ := keep5 HFX.out
      exact bodyPost_ret (v := .agg #[.int .i64 1, .string (ub K0), .string (ub KL), .int .i64 fv, .slice none 0 0]) (by simp [results, Tryz.results19, go_sem, f0, f1, f2, f3, f4]) rfl ⟨by rw [hfv.out], HBF.out⟩
  · have hfv : Hid (fieldP (bl t) = (K0, KL, -1)) := Lib.hid (by rw [hfd.out, if_neg hc])
    clear hfd
    have hcase : ((P0 :: PR).length ≠ 2) ∨ ((P0 :: PR).length = 2 ∧ ((P0 :: PR).getD 1 []).length ≤ 1) := by
      by_cases h : (P0 :: PR).length = 2
      · right; exact ⟨h, by have h2 : ¬ (1 < ((P0 :: PR).getD 1 []).length) := fun h2 => hc ⟨h, h2⟩
                            omega⟩
      · left; exact h
    clear hc
    rcases hcase with hne | ⟨heq, hle⟩
    · generalize hN : (P0 :: PR).length = N at *
      have hni : (N : Int) ≠ 2 := by omega
      have hnb : ((N : Int) == 2) = false := by rw [beq_eq_false_iff_ne]; exact hni
      have hN1 : 1 ≤ N := by rw [← hN]; simp
      have hN1i : (0 : Int) < (N : Int) := by omega
      clear HS1 hPs
      go_wp2_with fail
      have HH0 := Lib.hid hk0
      have HH1 := Lib.hid hk1
      have ⟨⟨e0, e1, e2, e3, e4⟩, p0, p1, p2, p3, p4⟩ := keep5 hk1
      refine (C2.out _).mono ?_
      rintro e w3 ⟨⟨a3, cap3, rfl, hs3⟩, hb3⟩
      have hx0 := (hb3.block w.heap.size (by omega)).trans HH0.out
      have hx1 := (hb3.block (w.heap.size + 1) (by omega)).trans HH1.out
      have ⟨⟨r0, r1, r2, r3, r4⟩, s0, s1, s2, s3, s4⟩ := keep5 hx0
      have ⟨⟨x0, x1, x2, x3, x4⟩, y0, y1, y2, y3, y4⟩ := keep5 hx1
      have HB3 := HB1.out.trans (hb3.mono HB1.out.size)
      obtain ⟨b3, o3, rfl, hbl3, hd0⟩ := strs_get hs3 (i := 0) (x := K0) rfl
      rw [Nat.add_zero] at hd0
      obtain ⟨b3', o3', e3', hbl3', hdl⟩ := strs_get hs3 hlast
      cases e3'
      have hlo3 : b3 ≠ w.heap.size + 1 := by
        rcases hs3.2 with h | ⟨b, o, h1, h2, _⟩
        · cases h
        · cases h1; omega
      have hkl : 1 ≤ (K0 :: KR).length := by simp
      have hki : (0 : Int) < ((K0 :: KR).length : Int) := by omega
      have hkm : (K0 :: KR).length ≤ 8001 := by omega
      have hs5 : ((w3.setCell ⟨w.heap.size + 1, 1, none⟩ (.string (ub K0))).setCell ⟨w.heap.size + 1, 2, none⟩ (.string (ub KL))).heap[w.heap.size]? = _ := (Go.Deep.blk_setCell_other _ _ _ _ (by simp)).trans ((Go.Deep.blk_setCell_other _ _ _ _ (by simp)).trans hx0)
      have HFX := Lib.hid (set5_block hs5 (.int .i64 1) (.string (ub K0)) (.string (ub KL)) (.int .i64 (-1)) (.slice none 0 0))
      have HBF := Lib.hid (set5_below ((HB3.setCell (p := ⟨w.heap.size + 1, 1, none⟩) (by simp) (.string (ub K0))).setCell (p := ⟨w.heap.size + 1, 2, none⟩) (by simp) (.string (ub KL))) (g := w.heap.size) (Nat.le_refl _) (.int .i64 1) (.string (ub K0)) (.string (ub KL)) (.int .i64 (-1)) (.slice none 0 0))
      clear hs5 HB3
      generalize hn : (K0 :: KR).length = n at *
      obtain ⟨m, rfl⟩ : ∃ m, n = m + 1 := ⟨n - 1, by omega⟩
      simp only [Nat.add_sub_cancel] at hdl
      clear hb3 hs3 hx0 hx1 e0 e1 e2 e3 e4 p0 p1 p2 p3 p4 hc0
      go_wp2_with fail
      change bodyPost _ _ _ _ _ (set5 ((w3.setCell ⟨w.heap.size + 1, 1, none⟩ (.string (ub K0))).setCell ⟨w.heap.size + 1, 2, none⟩ (.string (ub KL))) w.heap.size (.int .i64 1) (.string (ub K0)) (.string (ub KL)) (.int .i64 (-1)) (.slice none 0 0))
      generalize set5 ((w3.setCell ⟨w.heap.size + 1, 1, none⟩ (.string (ub K0))).setCell ⟨w.heap.size + 1, 2, none⟩ (.string (ub KL))) w.heap.size (.int .i64 1) (.string (ub K0)) (.string (ub KL)) (.int .i64 (-1)) (.slice none 0 0) = WF at *
      have ⟨⟨f0, f1, f2, f3, f4⟩, _⟩ := keep5 HFX.out
      exact bodyPost_ret (v := .agg #[.int .i64 1, .string (ub K0), .string (ub KL), .int .i64 (-1), .slice none 0 0]) (by simp [results, Tryz.results19, go_sem, f0, f1, f2, f3, f4]) rfl ⟨by rw [hfv.out], HBF.out⟩
    · obtain ⟨q0, P1, hq⟩ := list_two heq
      cases hq
      simp only [List.getD_cons_succ, List.getD_cons_zero] at hle
      obtain ⟨b1', o1', e1', _, hc1⟩ := strs_get HS1.out (i := 1) (x := P1) rfl
      cases e1'
      have hc1' : w1.cell? ⟨b1, o1 + 1, none⟩ = some (.string (ub P1)) := hc1
      have hls := ub_size P1
      generalize ub P1 = u1 at hc1' hls
      have hl1 : (u1.size : Int) ≤ 1 := by omega
      clear HS1 hPs hls hc1
      go_wp2_with fail
      have HH0 := Lib.hid hk0
      have HH1 := Lib.hid hk1
      have ⟨⟨e0, e1, e2, e3, e4⟩, p0, p1, p2, p3, p4⟩ := keep5 hk1
      refine (C2.out _).mono ?_
      rintro e w3 ⟨⟨a3, cap3, rfl, hs3⟩, hb3⟩
      have hx0 := (hb3.block w.heap.size (by omega)).trans HH0.out
      have hx1 := (hb3.block (w.heap.size + 1) (by omega)).trans HH1.out
      have ⟨⟨r0, r1, r2, r3, r4⟩, s0, s1, s2, s3, s4⟩ := keep5 hx0
      have ⟨⟨x0, x1, x2, x3, x4⟩, y0, y1, y2, y3, y4⟩ := keep5 hx1
      have HB3 := HB1.out.trans (hb3.mono HB1.out.size)
      obtain ⟨b3, o3, rfl, hbl3, hd0⟩ := strs_get hs3 (i := 0) (x := K0) rfl
      rw [Nat.add_zero] at hd0
      obtain ⟨b3', o3', e3', hbl3', hdl⟩ := strs_get hs3 hlast
      cases e3'
      have hlo3 : b3 ≠ w.heap.size + 1 := by
        rcases hs3.2 with h | ⟨b, o, h1, h2, _⟩
        · cases h
        · cases h1; omega
      have hkl : 1 ≤ (K0 :: KR).length := by simp
      have hki : (0 : Int) < ((K0 :: KR).length : Int) := by omega
      have hkm : (K0 :: KR).length ≤ 8001 := by omega
      have hs5 : ((w3.setCell ⟨w.heap.size + 1, 1, none⟩ (.string (ub K0))).setCell ⟨w.heap.size + 1, 2, none⟩ (.string (ub KL))).heap[w.heap.size]? = _ := (Go.Deep.blk_setCell_other _ _ _ _ (by simp)).trans ((Go.Deep.blk_setCell_other _ _ _ _ (by simp)).trans hx0)
      have HFX := Lib.hid (set5_block hs5 (.int .i64 1) (.string (ub K0)) (.string (ub KL)) (.int .i64 (-1)) (.slice none 0 0))
      have HBF := Lib.hid (set5_below ((HB3.setCell (p := ⟨w.heap.size + 1, 1, none⟩) (by simp) (.string (ub K0))).setCell (p := ⟨w.heap.size + 1, 2, none⟩) (by simp) (.string (ub KL))) (g := w.heap.size) (Nat.le_refl _) (.int .i64 1) (.string (ub K0)) (.string (ub KL)) (.int .i64 (-1)) (.slice none 0 0))
      clear hs5 HB3
      generalize hn : (K0 :: KR).length = n at *
      obtain ⟨m, rfl⟩ : ∃ m, n = m + 1 := ⟨n - 1, by omega⟩
      simp only [Nat.add_sub_cancel] at hdl
      clear hb3 hs3 hx0 hx1 e0 e1 e2 e3 e4 p0 p1 p2 p3 p4 hc0
      go_wp2_with fail
      change bodyPost _ _ _ _ _ (set5 ((w3.setCell ⟨w.heap.size + 1, 1, none⟩ (.string (ub K0))).setCell ⟨w.heap.size + 1, 2, none⟩ (.string (ub KL))) w.heap.size (.int .i64 1) (.string (ub K0)) (.string (ub KL)) (.int .i64 (-1)) (.slice none 0 0))
      generalize set5 ((w3.setCell ⟨w.heap.size + 1, 1, none⟩ (.string (ub K0))).setCell ⟨w.heap.size + 1, 2, none⟩ (.string (ub KL))) w.heap.size (.int .i64 1) (.string (ub K0)) (.string (ub KL)) (.int .i64 (-1)) (.slice none 0 0) = WF at *
      have ⟨⟨f0, f1, f2, f3, f4⟩, _⟩ := keep5 HFX.out
      exact bodyPost_ret (v := .agg #[.int .i64 1, .string (ub K0), .string (ub KL), .int .i64 (-1), .slice none 0 0]) (by simp [results, Tryz.results19, go_sem, f0, f1, f2, f3, f4]) rfl ⟨by rw [hfv.out], HBF.out⟩
end Go.Proofs.YtnkknfnndoegpaaGreatDoor.Selss
