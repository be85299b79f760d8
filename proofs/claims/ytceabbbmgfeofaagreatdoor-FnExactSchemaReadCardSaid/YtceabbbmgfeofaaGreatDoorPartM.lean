/-
  A field read off a word, plainly; and a contract: spec.l04Part2; of what was there nothing is changed. Conditions: a text of at most 8000 bytes.
-/
import Derived.Test.YtceabbbmgfeofaaGreatDoorRows
import Derived.Test.YtceabbbmgfeofaaGreatDoorNumR
import Derived.Deep.CutRange
import Derived.Deep.RegionHeld3
import Derived.Deep.RegionWith
import Derived.IntWalk
import Derived.RegionTactic
import Derived.BigRegion
namespace Go.Proofs.YtceabbbmgfeofaaGreatDoor.Rw
open Go.RowKit Words Decs Splits
set_option linter.unusedVariables false
set_option maxRecDepth 100000

theorem bL_ub (l : List UInt8) : bL (ubR l) = l := by simp [bL, ubR]
theorem ub_bL (b : ByteArray) : ubR (bL b) = b := bL_inj (bL_ub _)
theorem ubR_size (t : List UInt8) : (ubR t).size = t.length := by simp [ubR, ByteArray.size]
theorem splitR_sizes (c : UInt8) : ∀ (l : List UInt8) (x : List UInt8), x ∈ splitL c l → x.length ≤ l.length
  | [], x, h => by simp [splitL] at h; subst h; simp
  | y :: r, x, h => by
    unfold splitL at h
    by_cases e : y = c
    · rw [if_pos e] at h
      rcases List.mem_cons.1 h with rfl | h
      · simp
      · have := splitR_sizes c r x h; simp; omega
    · rw [if_neg e] at h
      cases hs : splitL c r with
      | nil => exact absurd hs (splitL_ne c r)
      | cons a b =>
        rw [hs] at h
        simp only [glue] at h
        have key : ∀ z ∈ splitL c r, z.length ≤ r.length := fun z hz => splitR_sizes c r z hz
        rw [hs] at key
        rcases List.mem_cons.1 h with rfl | h
        · have := key a (by simp); simp; omega
        · have := key x (by simp [h]); simp; omega
theorem splitR_len (c : UInt8) : ∀ l : List UInt8, (splitL c l).length ≤ l.length + 1
  | [] => by simp [splitL]
  | y :: r => by
    have ih := splitR_len c r
    unfold splitL
    split
    · simp; omega
    · cases hs : splitL c r with
      | nil => simp [glue]
      | cons a b => rw [hs] at ih; simp [glue] at ih ⊢; omega
theorem strsR {w : World} {A B len : Nat} {a : Option Addr} {l : List (List UInt8)} (h : StrsAt w A B a len l) {i : Nat} {x : List UInt8} (hx : l[i]? = some x) : ∃ b off, a = some ⟨b, off, none⟩ ∧ A ≤ b ∧ b < B ∧ w.cell? ⟨b, off + i, none⟩ = some (.string (ubR x)) := by
  rcases h.2 with rfl | ⟨b, off, ha, hA, hb, hl⟩
  · simp at hx
  · exact ⟨b, off, ha, hA, hb, hl i x hx⟩
theorem specSplitR (t : ByteArray) (ht : t.size ≤ 1048576) (c : UInt8) (w : World) :
    Calls Tryz.prog 58 #[.string t, .int .u8 (c.toNat : Int)] w fun e w' => (∃ a cap, e = .returned (.slice a (splitL c (bL t)).length cap) ∧ StrsAt w' w.heap.size w'.heap.size a (splitL c (bL t)).length (splitL c (bL t))) ∧ Below w.heap.size w w' := specSplit t ht c w
theorem keptR {w w1 : World} {o1 o2 : Obj} (hb : Below ((w.alloc o1).alloc o2).heap.size ((w.alloc o1).alloc o2) w1) : w1.heap[w.heap.size]? = some o1 ∧ w1.heap[w.heap.size + 1]? = some o2 := by
  have e1 : (w.alloc o1).heap.size = w.heap.size + 1 := by simp
  constructor
  · rw [hb.block _ (by simp; omega), Go.Deep.blk_alloc_lt _ _ _ (by rw [e1]; omega)]; exact Go.Deep.blk_alloc_new _ _
  · rw [hb.block _ (by simp), ← e1]; exact Go.Deep.blk_alloc_new _ _
theorem rowR6 {w : World} {b : Nat} {v0 v1 v2 v3 v4 v5 : Value} (h : RowN w b 0 [v0, v1, v2, v3, v4, v5]) :
    w.cell? ⟨b, 0, none⟩ = some v0 ∧ w.cell? ⟨b, 1, none⟩ = some v1 ∧ w.cell? ⟨b, 2, none⟩ = some v2 ∧ w.cell? ⟨b, 3, none⟩ = some v3 ∧ w.cell? ⟨b, 4, none⟩ = some v4 ∧ w.cell? ⟨b, 5, none⟩ = some v5 :=
  ⟨h 0 _ rfl, h 1 _ rfl, h 2 _ rfl, h 3 _ rfl, h 4 _ rfl, h 5 _ rfl⟩
theorem cut_last (t : ByteArray) : t.extract 0 (t.size - 1) = ubR (bL t).dropLast := by
  apply bL_inj
  rw [bL_ub]
  unfold bL
  rw [Lib.extract_data]
  simp [List.dropLast_eq_take]
theorem cut_first (t : ByteArray) : t.extract 1 t.size = ubR ((bL t).drop 1) := by
  apply bL_inj
  rw [bL_ub]
  unfold bL
  rw [Lib.extract_data]
  have : List.take (t.size - 1) t.data.toList.tail = t.data.toList.tail := List.take_of_length_le (by rw [List.length_tail, Array.length_toList]; exact Nat.le_refl _)
  simpa using this
theorem last_byte {t : ByteArray} (h : 0 < t.size) : (bL t).getLast? = some t[t.size - 1] := by
  rw [List.getLast?_eq_getElem?, bL_len, List.getElem?_eq_getElem (by rw [bL_len]; omega)]; rfl

/-- What stands behind a field's name. -/
def rest2 (nm : ByteArray) (m : Bool) (b : List UInt8) : FieldP :=
  let q := splitL 91 b
  if q.length = 2 ∧ 1 < (q.getD 1 []).length then
    let n := (q.getD 1 []).dropLast
    if n.headD 0 = 60 then ⟨nm, ubR (q.headD []), true, m, 0, numR (n.drop 1)⟩ else ⟨nm, ubR (q.headD []), true, m, numR n, 0⟩
  else ⟨nm, ubR (q.headD []), false, m, 0, 0⟩
def part2 (m : Bool) (l : List UInt8) : FieldP :=
  let p := splitL 58 l
  if p.length = 2 then rest2 (ubR (p.headD [])) m (p.getD 1 []) else ⟨ubR (p.headD []), ByteArray.empty, false, m, 0, 0⟩
/-- The field that a word is. -/
def partP2 (l : List UInt8) : FieldP := if l.getLast? = some 33 then part2 true l.dropLast else part2 false l
theorem listR_two {P : List (List UInt8)} (h : P.length = 2) : ∃ a b, P = [a, b] := by
  match P, h with
  | [a, b], _ => exact ⟨a, b, rfl⟩
theorem consR {P : List (List UInt8)} (h : P ≠ []) : ∃ a r, P = a :: r := by
  cases P with
  | nil => exact absurd rfl h
  | cons a r => exact ⟨a, r, rfl⟩

set_option maxHeartbeats 2000000 in
theorem specPart2 (t : ByteArray) (ht : t.size ≤ 8000) (w : World) :
    Calls Tryz.prog 60 #[.string t] w fun e w' => e = .returned (.agg (partP2 (bL t)).cells.toArray) ∧ Below w.heap.size w w' := by
  have HA : Hid (∀ o1 o2, Below w.heap.size w ((w.alloc o1).alloc o2)) := Lib.hid fun o1 o2 => ((Below.refl _ _).alloc (Nat.le_refl _) o1).alloc (by simp) o2
  have CS : Hid (∀ (u : ByteArray) (c : UInt8), u.size ≤ 8000 → ∀ w, Calls Tryz.prog 58 #[.string u, .int .u8 (c.toNat : Int)] w fun e w' => (∃ a cap, e = .returned (.slice a (splitL c (bL u)).length cap) ∧ StrsAt w' w.heap.size w'.heap.size a (splitL c (bL u)).length (splitL c (bL u))) ∧ Below w.heap.size w w') := Lib.hid fun u c hu w => specSplitR u (by omega) c w
  have hcase : (∃ h : 0 < t.size, t[t.size - 1] = 33) ∨ (∃ h : 0 < t.size, t[t.size - 1] ≠ 33) ∨ t.size = 0 := by
    by_cases h : 0 < t.size
    · by_cases h2 : t[t.size - 1] = 33
      · exact .inl ⟨h, h2⟩
      · exact .inr (.inl ⟨h, h2⟩)
    · exact .inr (.inr (by omega))
  rcases hcase with ⟨hp, h33⟩ | ⟨hp, h33⟩ | hp
  · have HP : Hid (partP2 (bL t) = part2 true (bL (t.extract 0 (t.size - 1)))) := Lib.hid (by
      unfold partP2
      rw [last_byte hp, h33, if_pos rfl, cut_last, bL_ub])
    have hpi : (0 : Int) < (t.size : Int) := by omega
    have h33i : (t[t.size - 1].toNat : Int) = 33 := by rw [h33]; rfl
    have hsz : (t.extract 0 (t.size - 1)).size ≤ 8000 := by rw [ByteArray.size_extract]; omega
    have hw1 : IntKind.i64.wrap ((t.size : Int) - 1) = (t.size : Int) - 1 := IntWalk.i64_in _ (by omega)
    clear h33
    go_enter Tryz.func60, Tryz.ntmps60
    go_wp2_with fail
    generalize t.extract 0 (t.size - 1) = U at *
    clear h33i hw1
    refine (CS.out U 58 hsz _).mono ?_
    rintro e w1 ⟨⟨a1, cap1, rfl, hs1⟩, hb1⟩
    have hkk := keptR hb1
    have HB1 := Lib.hid ((HA.out _ _).trans (hb1.mono (HA.out _ _).size))
    have hP := splitL_ne 58 (bL U)
    have hPs := splitR_sizes 58 (bL U)
    have hPl := splitR_len 58 (bL U)
    have hfd : Hid (part2 true (bL U) = if (splitL 58 (bL U)).length = 2 then rest2 (ubR ((splitL 58 (bL U)).headD [])) true ((splitL 58 (bL U)).getD 1 []) else ⟨ubR ((splitL 58 (bL U)).headD []), ByteArray.empty, false, true, 0, 0⟩) := Lib.hid rfl
    rw [bL_len] at hPs hPl
    generalize splitL 58 (bL U) = P at *
    obtain ⟨P0, PR, rfl⟩ := consR hP
    obtain ⟨b1, o1, rfl, hlo1, hhi1, hc0⟩ := strsR hs1 (i := 0) (x := P0) rfl
    rw [Nat.add_zero] at hc0
    have hlo2 : w.heap.size + 2 ≤ b1 := by simp at hlo1; omega
    have HS1 := Lib.hid hs1
    have HZ1 := Lib.hid hkk.2
    have HR1 := Lib.hid hkk.1
    have ⟨⟨e0, e1, e2, e3, e4, e5⟩, p0, p1, p2, p3, p4, p5⟩ := keep6 hkk.2
    have ⟨⟨r0, r1, r2, r3, r4, r5⟩, s0, s1, s2, s3, s4, s5⟩ := keep6 hkk.1
    have hPl2 : (P0 :: PR).length ≤ 8001 := by omega
    have hne1 : b1 ≠ w.heap.size + 1 := by omega
    have hne2 : w.heap.size + 1 ≠ b1 := by omega
    have HPs := Lib.hid hPs
    have hPs := ()
    clear hb1 hs1 hkk hPl hP hlo1
    by_cases hc : (P0 :: PR).length = 2
    · obtain ⟨q0, P1, hq⟩ := listR_two hc
      cases hq
      have hfv : Hid (partP2 (bL t) = rest2 (ubR P0) true P1) := Lib.hid (by rw [HP.out, hfd.out, if_pos hc]; rfl)
      obtain ⟨_, _, e1', _, _, hc1⟩ := strsR HS1.out (i := 1) (x := P1) rfl
      cases e1'
      have h1s : (ubR P1).size ≤ 8000 := by have := HPs.out P1 (by simp); rw [ubR_size]; omega
      have C2 : Hid (∀ w, Calls Tryz.prog 58 #[.string (ubR P1), .int .u8 91] w fun e w' => (∃ a cap, e = .returned (.slice a (splitL 91 P1).length cap) ∧ StrsAt w' w.heap.size w'.heap.size a (splitL 91 P1).length (splitL 91 P1)) ∧ Below w.heap.size w w') := Lib.hid fun w => by
        have := CS.out (ubR P1) 91 h1s w
        rw [bL_ub] at this; exact this
      have hrd : Hid (rest2 (ubR P0) true P1 = if (splitL 91 P1).length = 2 ∧ 1 < ((splitL 91 P1).getD 1 []).length then (if ((splitL 91 P1).getD 1 []).dropLast.headD 0 = 60 then ⟨ubR P0, ubR ((splitL 91 P1).headD []), true, true, 0, numR (((splitL 91 P1).getD 1 []).dropLast.drop 1)⟩ else ⟨ubR P0, ubR ((splitL 91 P1).headD []), true, true, numR ((splitL 91 P1).getD 1 []).dropLast, 0⟩) else ⟨ubR P0, ubR ((splitL 91 P1).headD []), false, true, 0, 0⟩) := Lib.hid rfl
      have hQ := splitL_ne 91 P1
      have hQl : (splitL 91 P1).length ≤ 8001 := by have := splitR_len 91 P1; rw [ubR_size] at h1s; omega
      have HQs : Hid (∀ x ∈ splitL 91 P1, x.length ≤ 8000) := Lib.hid fun x hx => by have := splitR_sizes 91 P1 x hx; rw [ubR_size] at h1s; omega
      generalize splitL 91 P1 = Q at *
      obtain ⟨Q0, QR, rfl⟩ := consR hQ
      simp only [List.headD_cons] at hrd
      have hzA : (w1.setCell ⟨w.heap.size + 1, 0, none⟩ (.string (ubR P0))).heap[w.heap.size + 1]? = some (.cells #[.string (ubR P0), .string ⟨#[]⟩, .bool false, .bool true, .int .i64 0, .int .i64 0] 50 (0, 0)) := heap_setCell_same w1 (w.heap.size + 1) 0 _ _ _ HZ1.out
      have hrA : (w1.setCell ⟨w.heap.size + 1, 0, none⟩ (.string (ubR P0))).heap[w.heap.size]? = _ := (Go.Deep.blk_setCell_other _ ⟨w.heap.size + 1, 0, none⟩ _ w.heap.size (by simp)).trans HR1.out
      have HBA := Lib.hid (HB1.out.setCell (p := ⟨w.heap.size + 1, 0, none⟩) (by simp) (.string (ubR P0)))
      clear hfd hc hQ
      go_wp2_with fail
      generalize w1.setCell ⟨w.heap.size + 1, 0, none⟩ (.string (ubR P0)) = W at *
      refine (C2.out _).mono ?_
      rintro e w2 ⟨⟨a2, cap2, rfl, hs2⟩, hb2⟩
      have hz2 := (hb2.block _ (lt_of_get hzA)).trans hzA
      have hr2 := (hb2.block _ (lt_of_get hrA)).trans hrA
      have HB2 := Lib.hid (HBA.out.trans (hb2.mono HBA.out.size))
      have HZ2 := Lib.hid hz2
      have HR2 := Lib.hid hr2
      obtain ⟨b2, o2, rfl, hlo2', hhi2, hd0⟩ := strsR hs2 (i := 0) (x := Q0) rfl
      rw [Nat.add_zero] at hd0
      have hWl := lt_of_get hzA
      have hne3 : b2 ≠ w.heap.size + 1 := by omega
      have hne4 : w.heap.size + 1 ≠ b2 := by omega
      have HS2 := Lib.hid hs2
      clear hc0 hc1 HS1 e0 e1 e2 e3 e4 e5 p0 p1 p2 p3 p4 p5 r0 r1 r2 r3 r4 r5 s0 s1 s2 s3 s4 s5 HZ1 HR1 hrA hzA hs2
      have ⟨⟨e0, e1, e2, e3, e4, e5⟩, p0, p1, p2, p3, p4, p5⟩ := keep6 hz2
      have ⟨⟨r0, r1, r2, r3, r4, r5⟩, s0, s1, s2, s3, s4, s5⟩ := keep6 hr2
      clear hz2 hr2 hb2
      by_cases hq : (Q0 :: QR).length = 2 ∧ 1 < ((Q0 :: QR).getD 1 []).length
      · obtain ⟨q9, Q1, hq9⟩ := listR_two hq.1
        cases hq9
        have hql : 1 < Q1.length := hq.2
        have h2s : Q1.length ≤ 8000 := HQs.out Q1 (by simp)
        obtain ⟨_, _, e2', _, _, hd1⟩ := strsR HS2.out (i := 1) (x := Q1) rfl
        cases e2'
        rw [if_pos hq] at hrd
        simp only [List.getD_cons_succ, List.getD_cons_zero] at hrd
        clear hq
        have hus := ubR_size Q1
        have hcut := cut_last (ubR Q1)
        rw [bL_ub, hus] at hcut
        have hli : (1 : Int) < ((ubR Q1).size : Int) := by omega
        have hli2 : ((ubR Q1).size : Int) ≤ 8000 := by omega
        have hw1 : IntKind.i64.wrap (((ubR Q1).size : Int) - 1) = ((ubR Q1).size : Int) - 1 := IntWalk.i64_in _ (by omega)
        generalize ubR Q1 = u1 at *
        have hne5 : ¬ (b2 = w.heap.size + 1) := by omega
        have hzB : ((w2.setCell ⟨w.heap.size + 1, 1, none⟩ (.string (ubR Q0))).setCell ⟨w.heap.size + 1, 2, none⟩ (.bool true)).heap[w.heap.size + 1]? = some (.cells #[.string (ubR P0), .string (ubR Q0), .bool true, .bool true, .int .i64 0, .int .i64 0] 50 (0, 0)) := heap_setCell_same _ (w.heap.size + 1) 2 _ _ _ (heap_setCell_same w2 (w.heap.size + 1) 1 _ _ _ HZ2.out)
        have hrB : ((w2.setCell ⟨w.heap.size + 1, 1, none⟩ (.string (ubR Q0))).setCell ⟨w.heap.size + 1, 2, none⟩ (.bool true)).heap[w.heap.size]? = _ := (Go.Deep.blk_setCell_other _ ⟨w.heap.size + 1, 2, none⟩ _ w.heap.size (by simp)).trans ((Go.Deep.blk_setCell_other _ ⟨w.heap.size + 1, 1, none⟩ _ w.heap.size (by simp)).trans HR2.out)
        have HBB := Lib.hid ((HB2.out.setCell (p := ⟨w.heap.size + 1, 1, none⟩) (by simp) (.string (ubR Q0))).setCell (p := ⟨w.heap.size + 1, 2, none⟩) (by simp) (.bool true))
        have hdB : ((w2.setCell ⟨w.heap.size + 1, 1, none⟩ (.string (ubR Q0))).setCell ⟨w.heap.size + 1, 2, none⟩ (.bool true)).cell? ⟨b2, o2 + 1, none⟩ = some (.string u1) := by
          rw [World.cell?_setCell_other _ _ _ _ (by simp), World.cell?_setCell_other _ _ _ _ (by simp)]; exact hd1
        have HZB := Lib.hid hzB
        have HRB := Lib.hid hrB
        have HDB := Lib.hid hdB
        clear hzB hrB hdB
        go_wp2_with fail
        generalize (w2.setCell ⟨w.heap.size + 1, 1, none⟩ (.string (ubR Q0))).setCell ⟨w.heap.size + 1, 2, none⟩ (.bool true) = W3 at *
        clear e0 e1 e2 e3 e4 e5 p0 p1 p2 p3 p4 p5 r0 r1 r2 r3 r4 r5 s0 s1 s2 s3 s4 s5 hd0 hd1
        have hdB := HDB.out
        have hm6 : 1 ≤ u1.size := by omega
        go_region
        have HZC : Hid (W3.drew.heap[w.heap.size + 1]? = _) := HZB
        have HRC : Hid (W3.drew.heap[w.heap.size]? = _) := HRB
        have HBC := Lib.hid HBB.out.drew
        clear HZB HRB HBB HDB hdB
        generalize W3.drew = W4 at *
        have hNl : 1 ≤ Q1.dropLast.length := by rw [List.length_dropLast]; omega
        have hNu : Q1.dropLast.length ≤ 8000 := by rw [List.length_dropLast]; omega
        clear hcut hus hql h2s
        generalize Q1.dropLast = N at *
        have hns := ubR_size N
        have hnp : 0 < (ubR N).size := by omega
        have hhd := bL_head hnp
        rw [bL_ub] at hhd
        have hnpi : (0 : Int) < ((ubR N).size : Int) := by omega
        have CN : Hid (∀ w, Calls Tryz.prog 59 #[.string (ubR N)] w fun e w' => e = .returned (.int .i64 (numR N)) ∧ w = w') := Lib.hid fun w => by
          have := specNumR (ubR N) (by omega) w
          rwa [bL_ub] at this
        have CM : Hid (∀ w, Calls Tryz.prog 59 #[.string ((ubR N).extract 1 N.length)] w fun e w' => e = .returned (.int .i64 (numR (N.drop 1))) ∧ w = w') := Lib.hid fun w => by
          have e := cut_first (ubR N)
          rw [bL_ub, hns] at e
          have := specNumR (ubR (N.drop 1)) (by rw [ubR_size, List.length_drop]; omega) w
          rw [bL_ub] at this
          rw [e]; exact this
        have ⟨⟨e0, e1, e2, e3, e4, e5⟩, p0, p1, p2, p3, p4, p5⟩ := keep6 HZC.out
        have ⟨⟨r0, r1, r2, r3, r4, r5⟩, s0, s1, s2, s3, s4, s5⟩ := keep6 HRC.out
        by_cases h60 : N.headD 0 = 60
        · have hfw : Hid (partP2 (bL t) = ⟨ubR P0, ubR Q0, true, true, 0, numR (N.drop 1)⟩) := Lib.hid (by rw [hfv.out, hrd.out, if_pos h60])
          have h60i : ((ubR N)[0].toNat : Int) = 60 := by rw [← hhd, h60]; rfl
          generalize numR (N.drop 1) = nv at *
          clear hhd h60 hrd
          generalize ubR N = un at *
          go_wp2_with fail
          refine (CM.out _).mono ?_
          rintro e w5 ⟨rfl, rfl⟩
          go_wp2_with fail
          change bodyPost _ _ _ _ _ (putL (W4.setCell ⟨w.heap.size + 1, 5, none⟩ (.int .i64 nv)) w.heap.size 0 [.string (ubR P0), .string (ubR Q0), .bool true, .bool true, .int .i64 0, .int .i64 nv])
          obtain ⟨hr, _, _⟩ := putL_cells (g := w.heap.size) (o := 0) (l := [.string (ubR P0), .string (ubR Q0), .bool true, .bool true, .int .i64 0, .int .i64 nv]) ((Go.Deep.blk_setCell_other W4 ⟨w.heap.size + 1, 5, none⟩ (.int .i64 nv) w.heap.size (by simp)).trans HRC.out) (by simp)
          have HBF := putL_below (g := w.heap.size) (B := w.heap.size) (by omega) [.string (ubR P0), .string (ubR Q0), .bool true, .bool true, .int .i64 0, .int .i64 nv] 0 (HBC.out.setCell (p := ⟨w.heap.size + 1, 5, none⟩) (by simp) (.int .i64 nv))
          generalize putL (W4.setCell ⟨w.heap.size + 1, 5, none⟩ (.int .i64 nv)) w.heap.size 0 [.string (ubR P0), .string (ubR Q0), .bool true, .bool true, .int .i64 0, .int .i64 nv] = wz at *
          have ⟨x0, x1, x2, x3, x4, x5⟩ := rowR6 hr
          exact bodyPost_ret (v := .agg #[.string (ubR P0), .string (ubR Q0), .bool true, .bool true, .int .i64 0, .int .i64 nv]) (by simp [results, Tryz.results60, go_sem, x0, x1, x2, x3, x4, x5]) rfl ⟨by rw [hfw.out]; rfl, HBF⟩
        · have hfw : Hid (partP2 (bL t) = ⟨ubR P0, ubR Q0, true, true, numR N, 0⟩) := Lib.hid (by rw [hfv.out, hrd.out, if_neg h60])
          have h60j : ((ubR N)[0].toNat : Int) ≠ 60 := by
            rw [← hhd]; intro e; exact h60 (UInt8.toNat_inj.1 (by show (N.headD 0).toNat = 60; omega))
          have h60i : (((ubR N)[0].toNat : Int) == 60) = false := by rw [beq_eq_false_iff_ne]; exact h60j
          generalize numR N = nv at *
          clear hhd h60 hrd
          generalize ubR N = un at *
          go_wp2_with fail
          refine (CN.out _).mono ?_
          rintro e w5 ⟨rfl, rfl⟩
          go_wp2_with fail
          change bodyPost _ _ _ _ _ (putL (W4.setCell ⟨w.heap.size + 1, 4, none⟩ (.int .i64 nv)) w.heap.size 0 [.string (ubR P0), .string (ubR Q0), .bool true, .bool true, .int .i64 nv, .int .i64 0])
          obtain ⟨hr, _, _⟩ := putL_cells (g := w.heap.size) (o := 0) (l := [.string (ubR P0), .string (ubR Q0), .bool true, .bool true, .int .i64 nv, .int .i64 0]) ((Go.Deep.blk_setCell_other W4 ⟨w.heap.size + 1, 4, none⟩ (.int .i64 nv) w.heap.size (by simp)).trans HRC.out) (by simp)
          have HBF := putL_below (g := w.heap.size) (B := w.heap.size) (by omega) [.string (ubR P0), .string (ubR Q0), .bool true, .bool true, .int .i64 nv, .int .i64 0] 0 (HBC.out.setCell (p := ⟨w.heap.size + 1, 4, none⟩) (by simp) (.int .i64 nv))
          generalize putL (W4.setCell ⟨w.heap.size + 1, 4, none⟩ (.int .i64 nv)) w.heap.size 0 [.string (ubR P0), .string (ubR Q0), .bool true, .bool true, .int .i64 nv, .int .i64 0] = wz at *
          have ⟨x0, x1, x2, x3, x4, x5⟩ := rowR6 hr
          exact bodyPost_ret (v := .agg #[.string (ubR P0), .string (ubR Q0), .bool true, .bool true, .int .i64 nv, .int .i64 0]) (by simp [results, Tryz.results60, go_sem, x0, x1, x2, x3, x4, x5]) rfl ⟨by rw [hfw.out]; rfl, HBF⟩
      · rw [if_neg hq] at hrd
        have hfw : Hid (partP2 (bL t) = ⟨ubR P0, ubR Q0, false, true, 0, 0⟩) := Lib.hid (by rw [hfv.out, hrd.out])
        have hcase : ((Q0 :: QR).length : Int) ≠ 2 ∨ ((Q0 :: QR).length = 2 ∧ ((Q0 :: QR).getD 1 []).length ≤ 1) := by
          by_cases h : (Q0 :: QR).length = 2
          · right; refine ⟨h, ?_⟩; rcases Nat.lt_or_ge 1 ((Q0 :: QR).getD 1 []).length with g | g
            · exact absurd ⟨h, g⟩ hq
            · exact g
          · left; omega
        have hrF : (w2.setCell ⟨w.heap.size + 1, 1, none⟩ (.string (ubR Q0))).heap[w.heap.size]? = _ := (Go.Deep.blk_setCell_other _ ⟨w.heap.size + 1, 1, none⟩ _ w.heap.size (by simp)).trans HR2.out
        have HBF0 := Lib.hid (HB2.out.setCell (p := ⟨w.heap.size + 1, 1, none⟩) (by simp) (.string (ubR Q0)))
        have HRF := Lib.hid hrF
        clear hq hrd hrF
        rcases hcase with hcn | ⟨hc2, hc3⟩
        · have hcj : (((Q0 :: QR).length : Int) == 2) = false := by rw [beq_eq_false_iff_ne]; exact hcn
          have hn0 : 0 < (Q0 :: QR).length := by simp
          have hn1 : (0 : Int) < ((Q0 :: QR).length : Int) := by omega
          generalize (Q0 :: QR).length = n at *
          go_wp2_with fail
          change bodyPost _ _ _ _ _ (putL (w2.setCell ⟨w.heap.size + 1, 1, none⟩ (.string (ubR Q0))) w.heap.size 0 [.string (ubR P0), .string (ubR Q0), .bool false, .bool true, .int .i64 0, .int .i64 0])
          obtain ⟨hr, _, _⟩ := putL_cells (g := w.heap.size) (o := 0) (l := [.string (ubR P0), .string (ubR Q0), .bool false, .bool true, .int .i64 0, .int .i64 0]) HRF.out (by simp)
          have HBF := putL_below (g := w.heap.size) (B := w.heap.size) (by omega) [.string (ubR P0), .string (ubR Q0), .bool false, .bool true, .int .i64 0, .int .i64 0] 0 HBF0.out
          generalize putL (w2.setCell ⟨w.heap.size + 1, 1, none⟩ (.string (ubR Q0))) w.heap.size 0 [.string (ubR P0), .string (ubR Q0), .bool false, .bool true, .int .i64 0, .int .i64 0] = wz at *
          have ⟨x0, x1, x2, x3, x4, x5⟩ := rowR6 hr
          exact bodyPost_ret (v := .agg #[.string (ubR P0), .string (ubR Q0), .bool false, .bool true, .int .i64 0, .int .i64 0]) (by simp [results, Tryz.results60, go_sem, x0, x1, x2, x3, x4, x5]) rfl ⟨by rw [hfw.out]; rfl, HBF⟩
        · obtain ⟨q9, Q1, hq9⟩ := listR_two hc2
          cases hq9
          obtain ⟨_, _, e2', _, _, hd1⟩ := strsR HS2.out (i := 1) (x := Q1) rfl
          cases e2'
          have hql : Q1.length ≤ 1 := hc3
          have hus := ubR_size Q1
          clear hc2 hc3
          have hli : ((ubR Q1).size : Int) ≤ 1 := by omega
          generalize ubR Q1 = u1 at *
          go_wp2_with fail
          change bodyPost _ _ _ _ _ (putL (w2.setCell ⟨w.heap.size + 1, 1, none⟩ (.string (ubR Q0))) w.heap.size 0 [.string (ubR P0), .string (ubR Q0), .bool false, .bool true, .int .i64 0, .int .i64 0])
          obtain ⟨hr, _, _⟩ := putL_cells (g := w.heap.size) (o := 0) (l := [.string (ubR P0), .string (ubR Q0), .bool false, .bool true, .int .i64 0, .int .i64 0]) HRF.out (by simp)
          have HBF := putL_below (g := w.heap.size) (B := w.heap.size) (by omega) [.string (ubR P0), .string (ubR Q0), .bool false, .bool true, .int .i64 0, .int .i64 0] 0 HBF0.out
          generalize putL (w2.setCell ⟨w.heap.size + 1, 1, none⟩ (.string (ubR Q0))) w.heap.size 0 [.string (ubR P0), .string (ubR Q0), .bool false, .bool true, .int .i64 0, .int .i64 0] = wz at *
          have ⟨x0, x1, x2, x3, x4, x5⟩ := rowR6 hr
          exact bodyPost_ret (v := .agg #[.string (ubR P0), .string (ubR Q0), .bool false, .bool true, .int .i64 0, .int .i64 0]) (by simp [results, Tryz.results60, go_sem, x0, x1, x2, x3, x4, x5]) rfl ⟨by rw [hfw.out]; rfl, HBF⟩
    · have hfv : Hid (partP2 (bL t) = ⟨ubR P0, ByteArray.empty, false, true, 0, 0⟩) := Lib.hid (by rw [HP.out, hfd.out, if_neg hc]; rfl)
      have hci : (((P0 :: PR).length : Int) == 2) = false := by rw [beq_eq_false_iff_ne]; omega
      have hcj : ((P0 :: PR).length : Int) ≠ 2 := by omega
      clear hfd hc
      have hn0 : 0 < (P0 :: PR).length := by simp
      have hn1 : (0 : Int) < ((P0 :: PR).length : Int) := by omega
      generalize (P0 :: PR).length = n at *
      go_wp2_with fail
      change bodyPost _ _ _ _ _ (putL (w1.setCell ⟨w.heap.size + 1, 0, none⟩ (.string (ubR P0))) w.heap.size 0 [.string (ubR P0), .string ⟨#[]⟩, .bool false, .bool true, .int .i64 0, .int .i64 0])
      obtain ⟨hr, _, _⟩ := putL_cells (g := w.heap.size) (o := 0) (l := [.string (ubR P0), .string ⟨#[]⟩, .bool false, .bool true, .int .i64 0, .int .i64 0]) ((Go.Deep.blk_setCell_other w1 ⟨w.heap.size + 1, 0, none⟩ (.string (ubR P0)) w.heap.size (by simp)).trans HR1.out) (by simp)
      have HBF := putL_below (g := w.heap.size) (B := w.heap.size) (by omega) [.string (ubR P0), .string ⟨#[]⟩, .bool false, .bool true, .int .i64 0, .int .i64 0] 0 (HB1.out.setCell (p := ⟨w.heap.size + 1, 0, none⟩) (by simp) (.string (ubR P0)))
      generalize putL (w1.setCell ⟨w.heap.size + 1, 0, none⟩ (.string (ubR P0))) w.heap.size 0 [.string (ubR P0), .string ⟨#[]⟩, .bool false, .bool true, .int .i64 0, .int .i64 0] = wz at *
      have ⟨x0, x1, x2, x3, x4, x5⟩ := rowR6 hr
      exact bodyPost_ret (v := .agg #[.string (ubR P0), .string ⟨#[]⟩, .bool false, .bool true, .int .i64 0, .int .i64 0]) (by simp [results, Tryz.results60, go_sem, x0, x1, x2, x3, x4, x5]) rfl ⟨by rw [hfv.out]; rfl, HBF⟩
  · have HP : Hid (partP2 (bL t) = part2 false (bL t)) := Lib.hid (by
      unfold partP2
      rw [last_byte hp, if_neg (by simpa using h33)])
    have hpi : (0 : Int) < (t.size : Int) := by omega
    have h33i : ((t[t.size - 1].toNat : Int) == 33) = false := by
      rw [beq_eq_false_iff_ne]; intro e; exact h33 (UInt8.toNat_inj.1 (by show t[t.size - 1].toNat = 33; omega))
    have h33j : (t[t.size - 1].toNat : Int) ≠ 33 := by
      intro e; exact h33 (UInt8.toNat_inj.1 (by show t[t.size - 1].toNat = 33; omega))
    have hsz : t.size ≤ 8000 := ht
    have hw1 : IntKind.i64.wrap ((t.size : Int) - 1) = (t.size : Int) - 1 := IntWalk.i64_in _ (by omega)
    clear h33
    go_enter Tryz.func60, Tryz.ntmps60
    go_wp2_with fail
    clear h33i h33j hw1
    refine (CS.out t 58 hsz _).mono ?_
    rintro e w1 ⟨⟨a1, cap1, rfl, hs1⟩, hb1⟩
    have hkk := keptR hb1
    have HB1 := Lib.hid ((HA.out _ _).trans (hb1.mono (HA.out _ _).size))
    have hP := splitL_ne 58 (bL t)
    have hPs := splitR_sizes 58 (bL t)
    have hPl := splitR_len 58 (bL t)
    have hfd : Hid (part2 false (bL t) = if (splitL 58 (bL t)).length = 2 then rest2 (ubR ((splitL 58 (bL t)).headD [])) false ((splitL 58 (bL t)).getD 1 []) else ⟨ubR ((splitL 58 (bL t)).headD []), ByteArray.empty, false, false, 0, 0⟩) := Lib.hid rfl
    rw [bL_len] at hPs hPl
    generalize splitL 58 (bL t) = P at *
    obtain ⟨P0, PR, rfl⟩ := consR hP
    obtain ⟨b1, o1, rfl, hlo1, hhi1, hc0⟩ := strsR hs1 (i := 0) (x := P0) rfl
    rw [Nat.add_zero] at hc0
    have hlo2 : w.heap.size + 2 ≤ b1 := by simp at hlo1; omega
    have HS1 := Lib.hid hs1
    have HZ1 := Lib.hid hkk.2
    have HR1 := Lib.hid hkk.1
    have ⟨⟨e0, e1, e2, e3, e4, e5⟩, p0, p1, p2, p3, p4, p5⟩ := keep6 hkk.2
    have ⟨⟨r0, r1, r2, r3, r4, r5⟩, s0, s1, s2, s3, s4, s5⟩ := keep6 hkk.1
    have hPl2 : (P0 :: PR).length ≤ 8001 := by omega
    have hne1 : b1 ≠ w.heap.size + 1 := by omega
    have hne2 : w.heap.size + 1 ≠ b1 := by omega
    have HPs := Lib.hid hPs
    have hPs := ()
    clear hb1 hs1 hkk hPl hP hlo1
    by_cases hc : (P0 :: PR).length = 2
    · obtain ⟨q0, P1, hq⟩ := listR_two hc
      cases hq
      have hfv : Hid (partP2 (bL t) = rest2 (ubR P0) false P1) := Lib.hid (by rw [HP.out, hfd.out, if_pos hc]; rfl)
      obtain ⟨_, _, e1', _, _, hc1⟩ := strsR HS1.out (i := 1) (x := P1) rfl
      cases e1'
      have h1s : (ubR P1).size ≤ 8000 := by have := HPs.out P1 (by simp); rw [ubR_size]; omega
      have C2 : Hid (∀ w, Calls Tryz.prog 58 #[.string (ubR P1), .int .u8 91] w fun e w' => (∃ a cap, e = .returned (.slice a (splitL 91 P1).length cap) ∧ StrsAt w' w.heap.size w'.heap.size a (splitL 91 P1).length (splitL 91 P1)) ∧ Below w.heap.size w w') := Lib.hid fun w => by
        have := CS.out (ubR P1) 91 h1s w
        rw [bL_ub] at this; exact this
      have hrd : Hid (rest2 (ubR P0) false P1 = if (splitL 91 P1).length = 2 ∧ 1 < ((splitL 91 P1).getD 1 []).length then (if ((splitL 91 P1).getD 1 []).dropLast.headD 0 = 60 then ⟨ubR P0, ubR ((splitL 91 P1).headD []), true, false, 0, numR (((splitL 91 P1).getD 1 []).dropLast.drop 1)⟩ else ⟨ubR P0, ubR ((splitL 91 P1).headD []), true, false, numR ((splitL 91 P1).getD 1 []).dropLast, 0⟩) else ⟨ubR P0, ubR ((splitL 91 P1).headD []), false, false, 0, 0⟩) := Lib.hid rfl
      have hQ := splitL_ne 91 P1
      have hQl : (splitL 91 P1).length ≤ 8001 := by have := splitR_len 91 P1; rw [ubR_size] at h1s; omega
      have HQs : Hid (∀ x ∈ splitL 91 P1, x.length ≤ 8000) := Lib.hid fun x hx => by have := splitR_sizes 91 P1 x hx; rw [ubR_size] at h1s; omega
      generalize splitL 91 P1 = Q at *
      obtain ⟨Q0, QR, rfl⟩ := consR hQ
      simp only [List.headD_cons] at hrd
      have hzA : (w1.setCell ⟨w.heap.size + 1, 0, none⟩ (.string (ubR P0))).heap[w.heap.size + 1]? = some (.cells #[.string (ubR P0), .string ⟨#[]⟩, .bool false, .bool false, .int .i64 0, .int .i64 0] 50 (0, 0)) := heap_setCell_same w1 (w.heap.size + 1) 0 _ _ _ HZ1.out
      have hrA : (w1.setCell ⟨w.heap.size + 1, 0, none⟩ (.string (ubR P0))).heap[w.heap.size]? = _ := (Go.Deep.blk_setCell_other _ ⟨w.heap.size + 1, 0, none⟩ _ w.heap.size (by simp)).trans HR1.out
      have HBA := Lib.hid (HB1.out.setCell (p := ⟨w.heap.size + 1, 0, none⟩) (by simp) (.string (ubR P0)))
      clear hfd hc hQ
      go_wp2_with fail
      generalize w1.setCell ⟨w.heap.size + 1, 0, none⟩ (.string (ubR P0)) = W at *
      refine (C2.out _).mono ?_
      rintro e w2 ⟨⟨a2, cap2, rfl, hs2⟩, hb2⟩
      have hz2 := (hb2.block _ (lt_of_get hzA)).trans hzA
      have hr2 := (hb2.block _ (lt_of_get hrA)).trans hrA
      have HB2 := Lib.hid (HBA.out.trans (hb2.mono HBA.out.size))
      have HZ2 := Lib.hid hz2
      have HR2 := Lib.hid hr2
      obtain ⟨b2, o2, rfl, hlo2', hhi2, hd0⟩ := strsR hs2 (i := 0) (x := Q0) rfl
      rw [Nat.add_zero] at hd0
      have hWl := lt_of_get hzA
      have hne3 : b2 ≠ w.heap.size + 1 := by omega
      have hne4 : w.heap.size + 1 ≠ b2 := by omega
      have HS2 := Lib.hid hs2
      clear hc0 hc1 HS1 e0 e1 e2 e3 e4 e5 p0 p1 p2 p3 p4 p5 r0 r1 r2 r3 r4 r5 s0 s1 s2 s3 s4 s5 HZ1 HR1 hrA hzA hs2
      have ⟨⟨e0, e1, e2, e3, e4, e5⟩, p0, p1, p2, p3, p4, p5⟩ := keep6 hz2
      have ⟨⟨r0, r1, r2, r3, r4, r5⟩, s0, s1, s2, s3, s4, s5⟩ := keep6 hr2
      clear hz2 hr2 hb2
      by_cases hq : (Q0 :: QR).length = 2 ∧ 1 < ((Q0 :: QR).getD 1 []).length
      · obtain ⟨q9, Q1, hq9⟩ := listR_two hq.1
        cases hq9
        have hql : 1 < Q1.length := hq.2
        have h2s : Q1.length ≤ 8000 := HQs.out Q1 (by simp)
        obtain ⟨_, _, e2', _, _, hd1⟩ := strsR HS2.out (i := 1) (x := Q1) rfl
        cases e2'
        rw [if_pos hq] at hrd
        simp only [List.getD_cons_succ, List.getD_cons_zero] at hrd
        clear hq
        have hus := ubR_size Q1
        have hcut := cut_last (ubR Q1)
        rw [bL_ub, hus] at hcut
        have hli : (1 : Int) < ((ubR Q1).size : Int) := by omega
        have hli2 : ((ubR Q1).size : Int) ≤ 8000 := by omega
        have hw1 : IntKind.i64.wrap (((ubR Q1).size : Int) - 1) = ((ubR Q1).size : Int) - 1 := IntWalk.i64_in _ (by omega)
        generalize ubR Q1 = u1 at *
        have hne5 : ¬ (b2 = w.heap.size + 1) := by omega
        have hzB : ((w2.setCell ⟨w.heap.size + 1, 1, none⟩ (.string (ubR Q0))).setCell ⟨w.heap.size + 1, 2, none⟩ (.bool true)).heap[w.heap.size + 1]? = some (.cells #[.string (ubR P0), .string (ubR Q0), .bool true, .bool false, .int .i64 0, .int .i64 0] 50 (0, 0)) := heap_setCell_same _ (w.heap.size + 1) 2 _ _ _ (heap_setCell_same w2 (w.heap.size + 1) 1 _ _ _ HZ2.out)
        have hrB : ((w2.setCell ⟨w.heap.size + 1, 1, none⟩ (.string (ubR Q0))).setCell ⟨w.heap.size + 1, 2, none⟩ (.bool true)).heap[w.heap.size]? = _ := (Go.Deep.blk_setCell_other _ ⟨w.heap.size + 1, 2, none⟩ _ w.heap.size (by simp)).trans ((Go.Deep.blk_setCell_other _ ⟨w.heap.size + 1, 1, none⟩ _ w.heap.size (by simp)).trans HR2.out)
        have HBB := Lib.hid ((HB2.out.setCell (p := ⟨w.heap.size + 1, 1, none⟩) (by simp) (.string (ubR Q0))).setCell (p := ⟨w.heap.size + 1, 2, none⟩) (by simp) (.bool true))
        have hdB : ((w2.setCell ⟨w.heap.size + 1, 1, none⟩ (.string (ubR Q0))).setCell ⟨w.heap.size + 1, 2, none⟩ (.bool true)).cell? ⟨b2, o2 + 1, none⟩ = some (.string u1) := by
          rw [World.cell?_setCell_other _ _ _ _ (by simp), World.cell?_setCell_other _ _ _ _ (by simp)]; exact hd1
        have HZB := Lib.hid hzB
        have HRB := Lib.hid hrB
        have HDB := Lib.hid hdB
        clear hzB hrB hdB
        go_wp2_with fail
        generalize (w2.setCell ⟨w.heap.size + 1, 1, none⟩ (.string (ubR Q0))).setCell ⟨w.heap.size + 1, 2, none⟩ (.bool true) = W3 at *
        clear e0 e1 e2 e3 e4 e5 p0 p1 p2 p3 p4 p5 r0 r1 r2 r3 r4 r5 s0 s1 s2 s3 s4 s5 hd0 hd1
        have hdB := HDB.out
        have hm6 : 1 ≤ u1.size := by omega
        go_region
        have HZC : Hid (W3.drew.heap[w.heap.size + 1]? = _) := HZB
        have HRC : Hid (W3.drew.heap[w.heap.size]? = _) := HRB
        have HBC := Lib.hid HBB.out.drew
        clear HZB HRB HBB HDB hdB
        generalize W3.drew = W4 at *
        have hNl : 1 ≤ Q1.dropLast.length := by rw [List.length_dropLast]; omega
        have hNu : Q1.dropLast.length ≤ 8000 := by rw [List.length_dropLast]; omega
        clear hcut hus hql h2s
        generalize Q1.dropLast = N at *
        have hns := ubR_size N
        have hnp : 0 < (ubR N).size := by omega
        have hhd := bL_head hnp
        rw [bL_ub] at hhd
        have hnpi : (0 : Int) < ((ubR N).size : Int) := by omega
        have CN : Hid (∀ w, Calls Tryz.prog 59 #[.string (ubR N)] w fun e w' => e = .returned (.int .i64 (numR N)) ∧ w = w') := Lib.hid fun w => by
          have := specNumR (ubR N) (by omega) w
          rwa [bL_ub] at this
        have CM : Hid (∀ w, Calls Tryz.prog 59 #[.string ((ubR N).extract 1 N.length)] w fun e w' => e = .returned (.int .i64 (numR (N.drop 1))) ∧ w = w') := Lib.hid fun w => by
          have e := cut_first (ubR N)
          rw [bL_ub, hns] at e
          have := specNumR (ubR (N.drop 1)) (by rw [ubR_size, List.length_drop]; omega) w
          rw [bL_ub] at this
          rw [e]; exact this
        have ⟨⟨e0, e1, e2, e3, e4, e5⟩, p0, p1, p2, p3, p4, p5⟩ := keep6 HZC.out
        have ⟨⟨r0, r1, r2, r3, r4, r5⟩, s0, s1, s2, s3, s4, s5⟩ := keep6 HRC.out
        by_cases h60 : N.headD 0 = 60
        · have hfw : Hid (partP2 (bL t) = ⟨ubR P0, ubR Q0, true, false, 0, numR (N.drop 1)⟩) := Lib.hid (by rw [hfv.out, hrd.out, if_pos h60])
          have h60i : ((ubR N)[0].toNat : Int) = 60 := by rw [← hhd, h60]; rfl
          generalize numR (N.drop 1) = nv at *
          clear hhd h60 hrd
          generalize ubR N = un at *
          go_wp2_with fail
          refine (CM.out _).mono ?_
          rintro e w5 ⟨rfl, rfl⟩
          go_wp2_with fail
          change bodyPost _ _ _ _ _ (putL (W4.setCell ⟨w.heap.size + 1, 5, none⟩ (.int .i64 nv)) w.heap.size 0 [.string (ubR P0), .string (ubR Q0), .bool true, .bool false, .int .i64 0, .int .i64 nv])
          obtain ⟨hr, _, _⟩ := putL_cells (g := w.heap.size) (o := 0) (l := [.string (ubR P0), .string (ubR Q0), .bool true, .bool false, .int .i64 0, .int .i64 nv]) ((Go.Deep.blk_setCell_other W4 ⟨w.heap.size + 1, 5, none⟩ (.int .i64 nv) w.heap.size (by simp)).trans HRC.out) (by simp)
          have HBF := putL_below (g := w.heap.size) (B := w.heap.size) (by omega) [.string (ubR P0), .string (ubR Q0), .bool true, .bool false, .int .i64 0, .int .i64 nv] 0 (HBC.out.setCell (p := ⟨w.heap.size + 1, 5, none⟩) (by simp) (.int .i64 nv))
          generalize putL (W4.setCell ⟨w.heap.size + 1, 5, none⟩ (.int .i64 nv)) w.heap.size 0 [.string (ubR P0), .string (ubR Q0), .bool true, .bool false, .int .i64 0, .int .i64 nv] = wz at *
          have ⟨x0, x1, x2, x3, x4, x5⟩ := rowR6 hr
          exact bodyPost_ret (v := .agg #[.string (ubR P0), .string (ubR Q0), .bool true, .bool false, .int .i64 0, .int .i64 nv]) (by simp [results, Tryz.results60, go_sem, x0, x1, x2, x3, x4, x5]) rfl ⟨by rw [hfw.out]; rfl, HBF⟩
        · have hfw : Hid (partP2 (bL t) = ⟨ubR P0, ubR Q0, true, false, numR N, 0⟩) := Lib.hid (by rw [hfv.out, hrd.out, if_neg h60])
          have h60j : ((ubR N)[0].toNat : Int) ≠ 60 := by
            rw [← hhd]; intro e; exact h60 (UInt8.toNat_inj.1 (by show (N.headD 0).toNat = 60; omega))
          have h60i : (((ubR N)[0].toNat : Int) == 60) = false := by rw [beq_eq_false_iff_ne]; exact h60j
          generalize numR N = nv at *
          clear hhd h60 hrd
          generalize ubR N = un at *
          go_wp2_with fail
          refine (CN.out _).mono ?_
          rintro e w5 ⟨rfl, rfl⟩
          go_wp2_with fail
          change bodyPost _ _ _ _ _ (putL (W4.setCell ⟨w.heap.size + 1, 4, none⟩ (.int .i64 nv)) w.heap.size 0 [.string (ubR P0), .string (ubR Q0), .bool true, .bool false, .int .i64 nv, .int .i64 0])
          obtain ⟨hr, _, _⟩ := putL_cells (g := w.heap.size) (o := 0) (l := [.string (ubR P0), .string (ubR Q0), .bool true, .bool false, .int .i64 nv, .int .i64 0]) ((Go.Deep.blk_setCell_other W4 ⟨w.heap.size + 1, 4, none⟩ (.int .i64 nv) w.heap.size (by simp)).trans HRC.out) (by simp)
          have HBF := putL_below (g := w.heap.size) (B := w.heap.size) (by omega) [.string (ubR P0), .string (ubR Q0), .bool true, .bool false, .int .i64 nv, .int .i64 0] 0 (HBC.out.setCell (p := ⟨w.heap.size + 1, 4, none⟩) (by simp) (.int .i64 nv))
          generalize putL (W4.setCell ⟨w.heap.size + 1, 4, none⟩ (.int .i64 nv)) w.heap.size 0 [.string (ubR P0), .string (ubR Q0), .bool true, .bool false, .int .i64 nv, .int .i64 0] = wz at *
          have ⟨x0, x1, x2, x3, x4, x5⟩ := rowR6 hr
          exact bodyPost_ret (v := .agg #[.string (ubR P0), .string (ubR Q0), .bool true, .bool false, .int .i64 nv, .int .i64 0]) (by simp [results, Tryz.results60, go_sem, x0, x1, x2, x3, x4, x5]) rfl ⟨by rw [hfw.out]; rfl, HBF⟩
      · rw [if_neg hq] at hrd
        have hfw : Hid (partP2 (bL t) = ⟨ubR P0, ubR Q0, false, false, 0, 0⟩) := Lib.hid (by rw [hfv.out, hrd.out])
        have hcase : ((Q0 :: QR).length : Int) ≠ 2 ∨ ((Q0 :: QR).length = 2 ∧ ((Q0 :: QR).getD 1 []).length ≤ 1) := by
          by_cases h : (Q0 :: QR).length = 2
          · right; refine ⟨h, ?_⟩; rcases Nat.lt_or_ge 1 ((Q0 :: QR).getD 1 []).length with g | g
            · exact absurd ⟨h, g⟩ hq
            · exact g
          · left; omega
        have hrF : (w2.setCell ⟨w.heap.size + 1, 1, none⟩ (.string (ubR Q0))).heap[w.heap.size]? = _ := (Go.Deep.blk_setCell_other _ ⟨w.heap.size + 1, 1, none⟩ _ w.heap.size (by simp)).trans HR2.out
        have HBF0 := Lib.hid (HB2.out.setCell (p := ⟨w.heap.size + 1, 1, none⟩) (by simp) (.string (ubR Q0)))
        have HRF := Lib.hid hrF
        clear hq hrd hrF
        rcases hcase with hcn | ⟨hc2, hc3⟩
        · have hcj : (((Q0 :: QR).length : Int) == 2) = false := by rw [beq_eq_false_iff_ne]; exact hcn
          have hn0 : 0 < (Q0 :: QR).length := by simp
          have hn1 : (0 : Int) < ((Q0 :: QR).length : Int) := by omega
          generalize (Q0 :: QR).length = n at *
          go_wp2_with fail
          change bodyPost _ _ _ _ _ (putL (w2.setCell ⟨w.heap.size + 1, 1, none⟩ (.string (ubR Q0))) w.heap.size 0 [.string (ubR P0), .string (ubR Q0), .bool false, .bool false, .int .i64 0, .int .i64 0])
          obtain ⟨hr, _, _⟩ := putL_cells (g := w.heap.size) (o := 0) (l := [.string (ubR P0), .string (ubR Q0), .bool false, .bool false, .int .i64 0, .int .i64 0]) HRF.out (by simp)
          have HBF := putL_below (g := w.heap.size) (B := w.heap.size) (by omega) [.string (ubR P0), .string (ubR Q0), .bool false, .bool false, .int .i64 0, .int .i64 0] 0 HBF0.out
          generalize putL (w2.setCell ⟨w.heap.size + 1, 1, none⟩ (.string (ubR Q0))) w.heap.size 0 [.string (ubR P0), .string (ubR Q0), .bool false, .bool false, .int .i64 0, .int .i64 0] = wz at *
          have ⟨x0, x1, x2, x3, x4, x5⟩ := rowR6 hr
          exact bodyPost_ret (v := .agg #[.string (ubR P0), .string (ubR Q0), .bool false, .bool false, .int .i64 0, .int .i64 0]) (by simp [results, Tryz.results60, go_sem, x0, x1, x2, x3, x4, x5]) rfl ⟨by rw [hfw.out]; rfl, HBF⟩
        · obtain ⟨q9, Q1, hq9⟩ := listR_two hc2
          cases hq9
          obtain ⟨_, _, e2', _, _, hd1⟩ := strsR HS2.out (i := 1) (x := Q1) rfl
          cases e2'
          have hql : Q1.length ≤ 1 := hc3
          have hus := ubR_size Q1
          clear hc2 hc3
          have hli : ((ubR Q1).size : Int) ≤ 1 := by omega
          generalize ubR Q1 = u1 at *
          go_wp2_with fail
          change bodyPost _ _ _ _ _ (putL (w2.setCell ⟨w.heap.size + 1, 1, none⟩ (.string (ubR Q0))) w.heap.size 0 [.string (ubR P0), .string (ubR Q0), .bool false, .bool false, .int .i64 0, .int .i64 0])
          obtain ⟨hr, _, _⟩ := putL_cells (g := w.heap.size) (o := 0) (l := [.string (ubR P0), .string (ubR Q0), .bool false, .bool false, .int .i64 0, .int .i64 0]) HRF.out (by simp)
          have HBF := putL_below (g := w.heap.size) (B := w.heap.size) (by omega) [.string (ubR P0), .string (ubR Q0), .bool false, .bool false, .int .i64 0, .int .i64 0] 0 HBF0.out
          generalize putL (w2.setCell ⟨w.heap.size + 1, 1, none⟩ (.string (ubR Q0))) w.heap.size 0 [.string (ubR P0), .string (ubR Q0), .bool false, .bool false, .int .i64 0, .int .i64 0] = wz at *
          have ⟨x0, x1, x2, x3, x4, x5⟩ := rowR6 hr
          exact bodyPost_ret (v := .agg #[.string (ubR P0), .string (ubR Q0), .bool false, .bool false, .int .i64 0, .int .i64 0]) (by simp [results, Tryz.results60, go_sem, x0, x1, x2, x3, x4, x5]) rfl ⟨by rw [hfw.out]; rfl, HBF⟩
    · have hfv : Hid (partP2 (bL t) = ⟨ubR P0, ByteArray.empty, false, false, 0, 0⟩) := Lib.hid (by rw [HP.out, hfd.out, if_neg hc]; rfl)
      have hci : (((P0 :: PR).length : Int) == 2) = false := by rw [beq_eq_false_iff_ne]; omega
      have hcj : ((P0 :: PR).length : Int) ≠ 2 := by omega
      clear hfd hc
      have hn0 : 0 < (P0 :: PR).length := by simp
      have hn1 : (0 : Int) < ((P0 :: PR).length : Int) := by omega
      generalize (P0 :: PR).length = n at *
      go_wp2_with fail
      change bodyPost _ _ _ _ _ (putL (w1.setCell ⟨w.heap.size + 1, 0, none⟩ (.string (ubR P0))) w.heap.size 0 [.string (ubR P0), .string ⟨#[]⟩, .bool false, .bool false, .int .i64 0, .int .i64 0])
      obtain ⟨hr, _, _⟩ := putL_cells (g := w.heap.size) (o := 0) (l := [.string (ubR P0), .string ⟨#[]⟩, .bool false, .bool false, .int .i64 0, .int .i64 0]) ((Go.Deep.blk_setCell_other w1 ⟨w.heap.size + 1, 0, none⟩ (.string (ubR P0)) w.heap.size (by simp)).trans HR1.out) (by simp)
      have HBF := putL_below (g := w.heap.size) (B := w.heap.size) (by omega) [.string (ubR P0), .string ⟨#[]⟩, .bool false, .bool false, .int .i64 0, .int .i64 0] 0 (HB1.out.setCell (p := ⟨w.heap.size + 1, 0, none⟩) (by simp) (.string (ubR P0)))
      generalize putL (w1.setCell ⟨w.heap.size + 1, 0, none⟩ (.string (ubR P0))) w.heap.size 0 [.string (ubR P0), .string ⟨#[]⟩, .bool false, .bool false, .int .i64 0, .int .i64 0] = wz at *
      have ⟨x0, x1, x2, x3, x4, x5⟩ := rowR6 hr
      exact bodyPost_ret (v := .agg #[.string (ubR P0), .string ⟨#[]⟩, .bool false, .bool false, .int .i64 0, .int .i64 0]) (by simp [results, Tryz.results60, go_sem, x0, x1, x2, x3, x4, x5]) rfl ⟨by rw [hfv.out]; rfl, HBF⟩
  · have HP : Hid (partP2 (bL t) = part2 false (bL t)) := Lib.hid (by
      have e : bL t = [] := List.eq_nil_of_length_eq_zero (by rw [bL_len]; exact hp)
      unfold partP2
      rw [e]; rfl)
    have hpi : (t.size : Int) = 0 := by omega
    have hsz : t.size ≤ 8000 := ht
    go_enter Tryz.func60, Tryz.ntmps60
    go_wp2_with fail
    refine (CS.out t 58 hsz _).mono ?_
    rintro e w1 ⟨⟨a1, cap1, rfl, hs1⟩, hb1⟩
    have hkk := keptR hb1
    have HB1 := Lib.hid ((HA.out _ _).trans (hb1.mono (HA.out _ _).size))
    have hP := splitL_ne 58 (bL t)
    have hPs := splitR_sizes 58 (bL t)
    have hPl := splitR_len 58 (bL t)
    have hfd : Hid (part2 false (bL t) = if (splitL 58 (bL t)).length = 2 then rest2 (ubR ((splitL 58 (bL t)).headD [])) false ((splitL 58 (bL t)).getD 1 []) else ⟨ubR ((splitL 58 (bL t)).headD []), ByteArray.empty, false, false, 0, 0⟩) := Lib.hid rfl
    rw [bL_len] at hPs hPl
    generalize splitL 58 (bL t) = P at *
    obtain ⟨P0, PR, rfl⟩ := consR hP
    obtain ⟨b1, o1, rfl, hlo1, hhi1, hc0⟩ := strsR hs1 (i := 0) (x := P0) rfl
    rw [Nat.add_zero] at hc0
    have hlo2 : w.heap.size + 2 ≤ b1 := by simp at hlo1; omega
    have HS1 := Lib.hid hs1
    have HZ1 := Lib.hid hkk.2
    have HR1 := Lib.hid hkk.1
    have ⟨⟨e0, e1, e2, e3, e4, e5⟩, p0, p1, p2, p3, p4, p5⟩ := keep6 hkk.2
    have ⟨⟨r0, r1, r2, r3, r4, r5⟩, s0, s1, s2, s3, s4, s5⟩ := keep6 hkk.1
    have hPl2 : (P0 :: PR).length ≤ 8001 := by omega
    have hne1 : b1 ≠ w.heap.size + 1 := by omega
    have hne2 : w.heap.size + 1 ≠ b1 := by omega
    have HPs := Lib.hid hPs
    have hPs := ()
    clear hb1 hs1 hkk hPl hP hlo1
    by_cases hc : (P0 :: PR).length = 2
    · obtain ⟨q0, P1, hq⟩ := listR_two hc
      cases hq
      have hfv : Hid (partP2 (bL t) = rest2 (ubR P0) false P1) := Lib.hid (by rw [HP.out, hfd.out, if_pos hc]; rfl)
      obtain ⟨_, _, e1', _, _, hc1⟩ := strsR HS1.out (i := 1) (x := P1) rfl
      cases e1'
      have h1s : (ubR P1).size ≤ 8000 := by have := HPs.out P1 (by simp); rw [ubR_size]; omega
      have C2 : Hid (∀ w, Calls Tryz.prog 58 #[.string (ubR P1), .int .u8 91] w fun e w' => (∃ a cap, e = .returned (.slice a (splitL 91 P1).length cap) ∧ StrsAt w' w.heap.size w'.heap.size a (splitL 91 P1).length (splitL 91 P1)) ∧ Below w.heap.size w w') := Lib.hid fun w => by
        have := CS.out (ubR P1) 91 h1s w
        rw [bL_ub] at this; exact this
      have hrd : Hid (rest2 (ubR P0) false P1 = if (splitL 91 P1).length = 2 ∧ 1 < ((splitL 91 P1).getD 1 []).length then (if ((splitL 91 P1).getD 1 []).dropLast.headD 0 = 60 then ⟨ubR P0, ubR ((splitL 91 P1).headD []), true, false, 0, numR (((splitL 91 P1).getD 1 []).dropLast.drop 1)⟩ else ⟨ubR P0, ubR ((splitL 91 P1).headD []), true, false, numR ((splitL 91 P1).getD 1 []).dropLast, 0⟩) else ⟨ubR P0, ubR ((splitL 91 P1).headD []), false, false, 0, 0⟩) := Lib.hid rfl
      have hQ := splitL_ne 91 P1
      have hQl : (splitL 91 P1).length ≤ 8001 := by have := splitR_len 91 P1; rw [ubR_size] at h1s; omega
      have HQs : Hid (∀ x ∈ splitL 91 P1, x.length ≤ 8000) := Lib.hid fun x hx => by have := splitR_sizes 91 P1 x hx; rw [ubR_size] at h1s; omega
      generalize splitL 91 P1 = Q at *
      obtain ⟨Q0, QR, rfl⟩ := consR hQ
      simp only [List.headD_cons] at hrd
      have hzA : (w1.setCell ⟨w.heap.size + 1, 0, none⟩ (.string (ubR P0))).heap[w.heap.size + 1]? = some (.cells #[.string (ubR P0), .string ⟨#[]⟩, .bool false, .bool false, .int .i64 0, .int .i64 0] 50 (0, 0)) := heap_setCell_same w1 (w.heap.size + 1) 0 _ _ _ HZ1.out
      have hrA : (w1.setCell ⟨w.heap.size + 1, 0, none⟩ (.string (ubR P0))).heap[w.heap.size]? = _ := (Go.Deep.blk_setCell_other _ ⟨w.heap.size + 1, 0, none⟩ _ w.heap.size (by simp)).trans HR1.out
      have HBA := Lib.hid (HB1.out.setCell (p := ⟨w.heap.size + 1, 0, none⟩) (by simp) (.string (ubR P0)))
      clear hfd hc hQ
      go_wp2_with fail
      generalize w1.setCell ⟨w.heap.size + 1, 0, none⟩ (.string (ubR P0)) = W at *
      refine (C2.out _).mono ?_
      rintro e w2 ⟨⟨a2, cap2, rfl, hs2⟩, hb2⟩
      have hz2 := (hb2.block _ (lt_of_get hzA)).trans hzA
      have hr2 := (hb2.block _ (lt_of_get hrA)).trans hrA
      have HB2 := Lib.hid (HBA.out.trans (hb2.mono HBA.out.size))
      have HZ2 := Lib.hid hz2
      have HR2 := Lib.hid hr2
      obtain ⟨b2, o2, rfl, hlo2', hhi2, hd0⟩ := strsR hs2 (i := 0) (x := Q0) rfl
      rw [Nat.add_zero] at hd0
      have hWl := lt_of_get hzA
      have hne3 : b2 ≠ w.heap.size + 1 := by omega
      have hne4 : w.heap.size + 1 ≠ b2 := by omega
      have HS2 := Lib.hid hs2
      clear hc0 hc1 HS1 e0 e1 e2 e3 e4 e5 p0 p1 p2 p3 p4 p5 r0 r1 r2 r3 r4 r5 s0 s1 s2 s3 s4 s5 HZ1 HR1 hrA hzA hs2
      have ⟨⟨e0, e1, e2, e3, e4, e5⟩, p0, p1, p2, p3, p4, p5⟩ := keep6 hz2
      have ⟨⟨r0, r1, r2, r3, r4, r5⟩, s0, s1, s2, s3, s4, s5⟩ := keep6 hr2
      clear hz2 hr2 hb2
      by_cases hq : (Q0 :: QR).length = 2 ∧ 1 < ((Q0 :: QR).getD 1 []).length
      · obtain ⟨q9, Q1, hq9⟩ := listR_two hq.1
        cases hq9
        have hql : 1 < Q1.length := hq.2
        have h2s : Q1.length ≤ 8000 := HQs.out Q1 (by simp)
        obtain ⟨_, _, e2', _, _, hd1⟩ := strsR HS2.out (i := 1) (x := Q1) rfl
        cases e2'
        rw [if_pos hq] at hrd
        simp only [List.getD_cons_succ, List.getD_cons_zero] at hrd
        clear hq
        have hus := ubR_size Q1
        have hcut := cut_last (ubR Q1)
        rw [bL_ub, hus] at hcut
        have hli : (1 : Int) < ((ubR Q1).size : Int) := by omega
        have hli2 : ((ubR Q1).size : Int) ≤ 8000 := by omega
        have hw1 : IntKind.i64.wrap (((ubR Q1).size : Int) - 1) = ((ubR Q1).size : Int) - 1 := IntWalk.i64_in _ (by omega)
        generalize ubR Q1 = u1 at *
        have hne5 : ¬ (b2 = w.heap.size + 1) := by omega
        have hzB : ((w2.setCell ⟨w.heap.size + 1, 1, none⟩ (.string (ubR Q0))).setCell ⟨w.heap.size + 1, 2, none⟩ (.bool true)).heap[w.heap.size + 1]? = some (.cells #[.string (ubR P0), .string (ubR Q0), .bool true, .bool false, .int .i64 0, .int .i64 0] 50 (0, 0)) := heap_setCell_same _ (w.heap.size + 1) 2 _ _ _ (heap_setCell_same w2 (w.heap.size + 1) 1 _ _ _ HZ2.out)
        have hrB : ((w2.setCell ⟨w.heap.size + 1, 1, none⟩ (.string (ubR Q0))).setCell ⟨w.heap.size + 1, 2, none⟩ (.bool true)).heap[w.heap.size]? = _ := (Go.Deep.blk_setCell_other _ ⟨w.heap.size + 1, 2, none⟩ _ w.heap.size (by simp)).trans ((Go.Deep.blk_setCell_other _ ⟨w.heap.size + 1, 1, none⟩ _ w.heap.size (by simp)).trans HR2.out)
        have HBB := Lib.hid ((HB2.out.setCell (p := ⟨w.heap.size + 1, 1, none⟩) (by simp) (.string (ubR Q0))).setCell (p := ⟨w.heap.size + 1, 2, none⟩) (by simp) (.bool true))
        have hdB : ((w2.setCell ⟨w.heap.size + 1, 1, none⟩ (.string (ubR Q0))).setCell ⟨w.heap.size + 1, 2, none⟩ (.bool true)).cell? ⟨b2, o2 + 1, none⟩ = some (.string u1) := by
          rw [World.cell?_setCell_other _ _ _ _ (by simp), World.cell?_setCell_other _ _ _ _ (by simp)]; exact hd1
        have HZB := Lib.hid hzB
        have HRB := Lib.hid hrB
        have HDB := Lib.hid hdB
        clear hzB hrB hdB
        go_wp2_with fail
        generalize (w2.setCell ⟨w.heap.size + 1, 1, none⟩ (.string (ubR Q0))).setCell ⟨w.heap.size + 1, 2, none⟩ (.bool true) = W3 at *
        clear e0 e1 e2 e3 e4 e5 p0 p1 p2 p3 p4 p5 r0 r1 r2 r3 r4 r5 s0 s1 s2 s3 s4 s5 hd0 hd1
        have hdB := HDB.out
        have hm6 : 1 ≤ u1.size := by omega
        go_region
        have HZC : Hid (W3.drew.heap[w.heap.size + 1]? = _) := HZB
        have HRC : Hid (W3.drew.heap[w.heap.size]? = _) := HRB
        have HBC := Lib.hid HBB.out.drew
        clear HZB HRB HBB HDB hdB
        generalize W3.drew = W4 at *
        have hNl : 1 ≤ Q1.dropLast.length := by rw [List.length_dropLast]; omega
        have hNu : Q1.dropLast.length ≤ 8000 := by rw [List.length_dropLast]; omega
        clear hcut hus hql h2s
        generalize Q1.dropLast = N at *
        have hns := ubR_size N
        have hnp : 0 < (ubR N).size := by omega
        have hhd := bL_head hnp
        rw [bL_ub] at hhd
        have hnpi : (0 : Int) < ((ubR N).size : Int) := by omega
        have CN : Hid (∀ w, Calls Tryz.prog 59 #[.string (ubR N)] w fun e w' => e = .returned (.int .i64 (numR N)) ∧ w = w') := Lib.hid fun w => by
          have := specNumR (ubR N) (by omega) w
          rwa [bL_ub] at this
        have CM : Hid (∀ w, Calls Tryz.prog 59 #[.string ((ubR N).extract 1 N.length)] w fun e w' => e = .returned (.int .i64 (numR (N.drop 1))) ∧ w = w') := Lib.hid fun w => by
          have e := cut_first (ubR N)
          rw [bL_ub, hns] at e
          have := specNumR (ubR (N.drop 1)) (by rw [ubR_size, List.length_drop]; omega) w
          rw [bL_ub] at this
          rw [e]; exact this
        have ⟨⟨e0, e1, e2, e3, e4, e5⟩, p0, p1, p2, p3, p4, p5⟩ := keep6 HZC.out
        have ⟨⟨r0, r1, r2, r3, r4, r5⟩, s0, s1, s2, s3, s4, s5⟩ := keep6 HRC.out
        by_cases h60 : N.headD 0 = 60
        · have hfw : Hid (partP2 (bL t) = ⟨ubR P0, ubR Q0, true, false, 0, numR (N.drop 1)⟩) := Lib.hid (by rw [hfv.out, hrd.out, if_pos h60])
          have h60i : ((ubR N)[0].toNat : Int) = 60 := by rw [← hhd, h60]; rfl
          generalize numR (N.drop 1) = nv at *
          clear hhd h60 hrd
          generalize ubR N = un at *
          go_wp2_with fail
          refine (CM.out _).mono ?_
          rintro e w5 ⟨rfl, rfl⟩
          go_wp2_with fail
          change bodyPost _ _ _ _ _ (putL (W4.setCell ⟨w.heap.size + 1, 5, none⟩ (.int .i64 nv)) w.heap.size 0 [.string (ubR P0), .string (ubR Q0), .bool true, .bool false, .int .i64 0, .int .i64 nv])
          obtain ⟨hr, _, _⟩ := putL_cells (g := w.heap.size) (o := 0) (l := [.string (ubR P0), .string (ubR Q0), .bool true, .bool false, .int .i64 0, .int .i64 nv]) ((Go.Deep.blk_setCell_other W4 ⟨w.heap.size + 1, 5, none⟩ (.int .i64 nv) w.heap.size (by simp)).trans HRC.out) (by simp)
          have HBF := putL_below (g := w.heap.size) (B := w.heap.size) (by omega) [.string (ubR P0), .string (ubR Q0), .bool true, .bool false, .int .i64 0, .int .i64 nv] 0 (HBC.out.setCell (p := ⟨w.heap.size + 1, 5, none⟩) (by simp) (.int .i64 nv))
          generalize putL (W4.setCell ⟨w.heap.size + 1, 5, none⟩ (.int .i64 nv)) w.heap.size 0 [.string (ubR P0), .string (ubR Q0), .bool true, .bool false, .int .i64 0, .int .i64 nv] = wz at *
          have ⟨x0, x1, x2, x3, x4, x5⟩ := rowR6 hr
          exact bodyPost_ret (v := .agg #[.string (ubR P0), .string (ubR Q0), .bool true, .bool false, .int .i64 0, .int .i64 nv]) (by simp [results, Tryz.results60, go_sem, x0, x1, x2, x3, x4, x5]) rfl ⟨by rw [hfw.out]; rfl, HBF⟩
        · have hfw : Hid (partP2 (bL t) = ⟨ubR P0, ubR Q0, true, false, numR N, 0⟩) := Lib.hid (by rw [hfv.out, hrd.out, if_neg h60])
          have h60j : ((ubR N)[0].toNat : Int) ≠ 60 := by
            rw [← hhd]; intro e; exact h60 (UInt8.toNat_inj.1 (by show (N.headD 0).toNat = 60; omega))
          have h60i : (((ubR N)[0].toNat : Int) == 60) = false := by rw [beq_eq_false_iff_ne]; exact h60j
          generalize numR N = nv at *
          clear hhd h60 hrd
          generalize ubR N = un at *
          go_wp2_with fail
          refine (CN.out _).mono ?_
          rintro e w5 ⟨rfl, rfl⟩
          go_wp2_with fail
          change bodyPost _ _ _ _ _ (putL (W4.setCell ⟨w.heap.size + 1, 4, none⟩ (.int .i64 nv)) w.heap.size 0 [.string (ubR P0), .string (ubR Q0), .bool true, .bool false, .int .i64 nv, .int .i64 0])
          obtain ⟨hr, _, _⟩ := putL_cells (g := w.heap.size) (o := 0) (l := [.string (ubR P0), .string (ubR Q0), .bool true, .bool false, .int .i64 nv, .int .i64 0]) ((Go.Deep.blk_setCell_other W4 ⟨w.heap.size + 1, 4, none⟩ (.int .i64 nv) w.heap.size (by simp)).trans HRC.out) (by simp)
          have HBF := putL_below (g := w.heap.size) (B := w.heap.size) (by omega) [.string (ubR P0), .string (ubR Q0), .bool true, .bool false, .int .i64 nv, .int .i64 0] 0 (HBC.out.setCell (p := ⟨w.heap.size + 1, 4, none⟩) (by simp) (.int .i64 nv))
          generalize putL (W4.setCell ⟨w.heap.size + 1, 4, none⟩ (.int .i64 nv)) w.heap.size 0 [.string (ubR P0), .string (ubR Q0), .bool true, .bool false, .int .i64 nv, .int .i64 0] = wz at *
          have ⟨x0, x1, x2, x3, x4, x5⟩ := rowR6 hr
          exact bodyPost_ret (v := .agg #[.string (ubR P0), .string (ubR Q0), .bool true, .bool false, .int .i64 nv, .int .i64 0]) (by simp [results, Tryz.results60, go_sem, x0, x1, x2, x3, x4, x5]) rfl ⟨by rw [hfw.out]; rfl, HBF⟩
      · rw [if_neg hq] at hrd
        have hfw : Hid (partP2 (bL t) = ⟨ubR P0, ubR Q0, false, false, 0, 0⟩) := Lib.hid (by rw [hfv.out, hrd.out])
        have hcase : ((Q0 :: QR).length : Int) ≠ 2 ∨ ((Q0 :: QR).length = 2 ∧ ((Q0 :: QR).getD 1 []).length ≤ 1) := by
          by_cases h : (Q0 :: QR).length = 2
          · right; refine ⟨h, ?_⟩; rcases Nat.lt_or_ge 1 ((Q0 :: QR).getD 1 []).length with g | g
            · exact absurd ⟨h, g⟩ hq
            · exact g
          · left; omega
        have hrF : (w2.setCell ⟨w.heap.size + 1, 1, none⟩ (.string (ubR Q0))).heap[w.heap.size]? = _ := (Go.Deep.blk_setCell_other _ ⟨w.heap.size + 1, 1, none⟩ _ w.heap.size (by simp)).trans HR2.out
        have HBF0 := Lib.hid (HB2.out.setCell (p := ⟨w.heap.size + 1, 1, none⟩) (by simp) (.string (ubR Q0)))
        have HRF := Lib.hid hrF
        clear hq hrd hrF
        rcases hcase with hcn | ⟨hc2, hc3⟩
        · have hcj : (((Q0 :: QR).length : Int) == 2) = false := by rw [beq_eq_false_iff_ne]; exact hcn
          have hn0 : 0 < (Q0 :: QR).length := by simp
          have hn1 : (0 : Int) < ((Q0 :: QR).length : Int) := by omega
          generalize (Q0 :: QR).length = n at *
          go_wp2_with fail
          change bodyPost _ _ _ _ _ (putL (w2.setCell ⟨w.heap.size + 1, 1, none⟩ (.string (ubR Q0))) w.heap.size 0 [.string (ubR P0), .string (ubR Q0), .bool false, .bool false, .int .i64 0, .int .i64 0])
          obtain ⟨hr, _, _⟩ := putL_cells (g := w.heap.size) (o := 0) (l := [.string (ubR P0), .string (ubR Q0), .bool false, .bool false, .int .i64 0, .int .i64 0]) HRF.out (by simp)
          have HBF := putL_below (g := w.heap.size) (B := w.heap.size) (by omega) [.string (ubR P0), .string (ubR Q0), .bool false, .bool false, .int .i64 0, .int .i64 0] 0 HBF0.out
          generalize putL (w2.setCell ⟨w.heap.size + 1, 1, none⟩ (.string (ubR Q0))) w.heap.size 0 [.string (ubR P0), .string (ubR Q0), .bool false, .bool false, .int .i64 0, .int .i64 0] = wz at *
          have ⟨x0, x1, x2, x3, x4, x5⟩ := rowR6 hr
          exact bodyPost_ret (v := .agg #[.string (ubR P0), .string (ubR Q0), .bool false, .bool false, .int .i64 0, .int .i64 0]) (by simp [results, Tryz.results60, go_sem, x0, x1, x2, x3, x4, x5]) rfl ⟨by rw [hfw.out]; rfl, HBF⟩
        · obtain ⟨q9, Q1, hq9⟩ := listR_two hc2
          cases hq9
          obtain ⟨_, _, e2', _, _, hd1⟩ := strsR HS2.out (i := 1) (x := Q1) rfl
          cases e2'
          have hql : Q1.length ≤ 1 := hc3
          have hus := ubR_size Q1
          clear hc2 hc3
          have hli : ((ubR Q1).size : Int) ≤ 1 := by omega
          generalize ubR Q1 = u1 at *
          go_wp2_with fail
          change bodyPost _ _ _ _ _ (putL (w2.setCell ⟨w.heap.size + 1, 1, none⟩ (.string (ubR Q0))) w.heap.size 0 [.string (ubR P0), .string (ubR Q0), .bool false, .bool false, .int .i64 0, .int .i64 0])
          obtain ⟨hr, _, _⟩ := putL_cells (g := w.heap.size) (o := 0) (l := [.string (ubR P0), .string (ubR Q0), .bool false, .bool false, .int .i64 0, .int .i64 0]) HRF.out (by simp)
          have HBF := putL_below (g := w.heap.size) (B := w.heap.size) (by omega) [.string (ubR P0), .string (ubR Q0), .bool false, .bool false, .int .i64 0, .int .i64 0] 0 HBF0.out
          generalize putL (w2.setCell ⟨w.heap.size + 1, 1, none⟩ (.string (ubR Q0))) w.heap.size 0 [.string (ubR P0), .string (ubR Q0), .bool false, .bool false, .int .i64 0, .int .i64 0] = wz at *
          have ⟨x0, x1, x2, x3, x4, x5⟩ := rowR6 hr
          exact bodyPost_ret (v := .agg #[.string (ubR P0), .string (ubR Q0), .bool false, .bool false, .int .i64 0, .int .i64 0]) (by simp [results, Tryz.results60, go_sem, x0, x1, x2, x3, x4, x5]) rfl ⟨by rw [hfw.out]; rfl, HBF⟩
    · have hfv : Hid (partP2 (bL t) = ⟨ubR P0, ByteArray.empty, false, false, 0, 0⟩) := Lib.hid (by rw [HP.out, hfd.out, if_neg hc]; rfl)
      have hci : (((P0 :: PR).length : Int) == 2) = false := by rw [beq_eq_false_iff_ne]; omega
      have hcj : ((P0 :: PR).length : Int) ≠ 2 := by omega
      clear hfd hc
      have hn0 : 0 < (P0 :: PR).length := by simp
      have hn1 : (0 : Int) < ((P0 :: PR).length : Int) := by omega
      generalize (P0 :: PR).length = n at *
      go_wp2_with fail
      change bodyPost _ _ _ _ _ (putL (w1.setCell ⟨w.heap.size + 1, 0, none⟩ (.string (ubR P0))) w.heap.size 0 [.string (ubR P0), .string ⟨#[]⟩, .bool false, .bool false, .int .i64 0, .int .i64 0])
      obtain ⟨hr, _, _⟩ := putL_cells (g := w.heap.size) (o := 0) (l := [.string (ubR P0), .string ⟨#[]⟩, .bool false, .bool false, .int .i64 0, .int .i64 0]) ((Go.Deep.blk_setCell_other w1 ⟨w.heap.size + 1, 0, none⟩ (.string (ubR P0)) w.heap.size (by simp)).trans HR1.out) (by simp)
      have HBF := putL_below (g := w.heap.size) (B := w.heap.size) (by omega) [.string (ubR P0), .string ⟨#[]⟩, .bool false, .bool false, .int .i64 0, .int .i64 0] 0 (HB1.out.setCell (p := ⟨w.heap.size + 1, 0, none⟩) (by simp) (.string (ubR P0)))
      generalize putL (w1.setCell ⟨w.heap.size + 1, 0, none⟩ (.string (ubR P0))) w.heap.size 0 [.string (ubR P0), .string ⟨#[]⟩, .bool false, .bool false, .int .i64 0, .int .i64 0] = wz at *
      have ⟨x0, x1, x2, x3, x4, x5⟩ := rowR6 hr
      exact bodyPost_ret (v := .agg #[.string (ubR P0), .string ⟨#[]⟩, .bool false, .bool false, .int .i64 0, .int .i64 0]) (by simp [results, Tryz.results60, go_sem, x0, x1, x2, x3, x4, x5]) rfl ⟨by rw [hfv.out]; rfl, HBF⟩
end Go.Proofs.YtceabbbmgfeofaaGreatDoor.Rw
