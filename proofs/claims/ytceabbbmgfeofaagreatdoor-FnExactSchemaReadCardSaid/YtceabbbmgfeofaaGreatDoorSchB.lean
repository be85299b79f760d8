/-
  What is right of what there is, plainly; and contracts: spec.l02Is, l04Type, l04Field, l04In answer so; of what was there nothing is changed. Conditions: in memory.
-/
import Derived.Test.YtceabbbmgfeofaaGreatDoorRows
import Derived.Test.YtceabbbmgfeofaaGreatDoorSch
import Derived.Test.YtceabbbmgfeofaaGreatDoorWord
import Derived.Lib.Strings
namespace Go.Proofs.YtceabbbmgfeofaaGreatDoor.Rw
open Go.RowKit Words
set_option linter.unusedVariables false
set_option maxRecDepth 100000

theorem specIs (n lo hi : Int) (hn : OkI n) (hlo : OkI lo) (hhi : OkI hi) (w : World) :
    Calls Tryz.prog 146 #[.int .i64 n, .int .i64 lo, .int .i64 hi] w fun e w' => e = .returned (.bool (decide (lo ≤ n) && decide (n ≤ hi))) ∧ w = w' := by
  unfold OkI at hn hlo hhi
  go_enter Tryz.func146, Tryz.ntmps146
  go_wp2_with fail
  all_goals go_ret
  all_goals exact ⟨ret_bool (by simp_all <;> omega), rfl⟩

theorem toList_ne {a b : ByteArray} (h : a ≠ b) : a.toList ≠ b.toList := fun e => h (by
  rw [Lib.toList_data, Lib.toList_data] at e
  exact ByteArray.ext (Array.toList_inj.1 e))
theorem toList_beq {a b : ByteArray} (h : a ≠ b) : (a.toList == b.toList) = false := by
  rw [beq_eq_false_iff_ne]; exact toList_ne h

/-- The type of a name; the zero one, if there is none. -/
def zeroType : TypeP := ⟨⟨#[]⟩, 0, 0, [], []⟩
def typeIn (nm : ByteArray) : List TypeP → TypeP
  | [] => zeroType
  | x :: l => if x.name = nm then x else typeIn nm l
theorem typeIn_hit {nm : ByteArray} {l : List TypeP} {i : Nat} {x : TypeP} (h : l[i]? = some x) (hx : x.name = nm) : typeIn nm (l.drop i) = x := by
  obtain ⟨hl, rfl⟩ := List.getElem?_eq_some_iff.1 h
  rw [List.drop_eq_getElem_cons hl, typeIn, if_pos hx]
theorem typeIn_miss {nm : ByteArray} {l : List TypeP} {i : Nat} {x : TypeP} (h : l[i]? = some x) (hx : x.name ≠ nm) : typeIn nm (l.drop i) = typeIn nm (l.drop (i + 1)) := by
  obtain ⟨hl, rfl⟩ := List.getElem?_eq_some_iff.1 h
  rw [List.drop_eq_getElem_cons hl, typeIn, if_neg hx]
/-- The place of the first field of a name, or -1. -/
def findF (nm : ByteArray) : List FieldP → Nat → Int
  | [], _ => -1
  | x :: l, k => if x.name = nm then (k : Int) else findF nm l (k + 1)
theorem findF_hit {nm : ByteArray} {l : List FieldP} {i : Nat} {x : FieldP} (h : l[i]? = some x) (hx : x.name = nm) : findF nm (l.drop i) i = i := by
  obtain ⟨hl, rfl⟩ := List.getElem?_eq_some_iff.1 h
  rw [List.drop_eq_getElem_cons hl, findF, if_pos hx]
theorem findF_miss {nm : ByteArray} {l : List FieldP} {i : Nat} {x : FieldP} (h : l[i]? = some x) (hx : x.name ≠ nm) : findF nm (l.drop i) i = findF nm (l.drop (i + 1)) (i + 1) := by
  obtain ⟨hl, rfl⟩ := List.getElem?_eq_some_iff.1 h
  rw [List.drop_eq_getElem_cons hl, findF, if_neg hx]
/-- Whether a text is among others. -/
def inB (nm : ByteArray) : List ByteArray → Bool
  | [] => false
  | x :: l => if x = nm then true else inB nm l
theorem inB_hit {nm : ByteArray} {l : List ByteArray} {i : Nat} {x : ByteArray} (h : l[i]? = some x) (hx : x = nm) : inB nm (l.drop i) = true := by
  obtain ⟨hl, rfl⟩ := List.getElem?_eq_some_iff.1 h
  rw [List.drop_eq_getElem_cons hl, inB, if_pos hx]
theorem inB_miss {nm : ByteArray} {l : List ByteArray} {i : Nat} {x : ByteArray} (h : l[i]? = some x) (hx : x ≠ nm) : inB nm (l.drop i) = inB nm (l.drop (i + 1)) := by
  obtain ⟨hl, rfl⟩ := List.getElem?_eq_some_iff.1 h
  rw [List.drop_eq_getElem_cons hl, inB, if_neg hx]

theorem zeroAt (w : World) (A B : Nat) : TypeAt w A B (.agg #[.string ⟨#[]⟩, .int .i64 0, .int .i64 0, .slice none 0 0, .slice none 0 0]) zeroType :=
  ⟨none, 0, none, 0, rfl, ⟨by unfold OkS; decide, by unfold OkI zeroType; simp, by unfold OkI zeroType; simp⟩, ⟨⟨rfl, Nat.zero_le _, .inl rfl⟩, Nat.le_refl _⟩, ⟨rfl, Nat.zero_le _, .inl rfl⟩, Nat.le_refl _⟩

set_option maxHeartbeats 2000000 in
theorem specType (w : World) (A B : Nat) (v : Value) (s : List TypeP) (nm : ByteArray) (hn : OkS nm) (hs : SchemaAt w A B v s) (hB : B ≤ w.heap.size) :
    Calls Tryz.prog 50 #[v, .string nm] w fun e w' => (∃ a ca c cc, e = .returned (.agg ((typeIn nm s).cells a ca c cc).toArray) ∧ TypeAt w' A B (.agg ((typeIn nm s).cells a ca c cc).toArray) (typeIn nm s)) ∧ Below w.heap.size w w' := by
  obtain ⟨a, ca, rfl, hd, _⟩ := hs
  have HF := Lib.hid hd
  have HA : Hid (∀ o1 o2, Below w.heap.size w ((w.alloc o1).alloc o2)) := Lib.hid fun o1 o2 => ((Below.refl _ _).alloc (Nat.le_refl _) o1).alloc (by simp) o2
  have hlen := hd.2.1
  clear hd
  go_enter Tryz.func50, Tryz.ntmps50
  go_wp2_with fail
  have k1 : ((w.alloc (.cells #[.slice a s.length ca] 25)).alloc (.cells #[.string ⟨#[]⟩, .int .i64 0, .int .i64 0, .slice none 0 0, .slice none 0 0] 48)).heap[w.heap.size]? = some (.cells #[.slice a s.length ca] 25 (0, 0)) := by
    rw [Go.Deep.blk_alloc_lt _ _ _ (by simp)]; exact heap_alloc_new w _
  have k2 : ((w.alloc (.cells #[.slice a s.length ca] 25)).alloc (.cells #[.string ⟨#[]⟩, .int .i64 0, .int .i64 0, .slice none 0 0, .slice none 0 0] 48)).heap[w.heap.size + 1]? = some (.cells #[.string ⟨#[]⟩, .int .i64 0, .int .i64 0, .slice none 0 0, .slice none 0 0] 48 (0, 0)) := by
    have := heap_alloc_new (w.alloc (.cells #[.slice a s.length ca] 25)) (.cells #[.string ⟨#[]⟩, .int .i64 0, .int .i64 0, .slice none 0 0, .slice none 0 0] 48)
    simpa using this
  go_loopw [5] (fun i wr => ∃ (i' : Nat), i' ≤ s.length ∧ Hid (typeIn nm s = typeIn nm (s.drop i')) ∧ i = .int .i64 i' ∧ wr.heap[w.heap.size]? = some (.cells #[.slice a s.length ca] 25 (0, 0)) ∧ wr.heap[w.heap.size + 1]? = some (.cells #[.string ⟨#[]⟩, .int .i64 0, .int .i64 0, .slice none 0 0, .slice none 0 0] 48 (0, 0)) ∧ Below w.heap.size w wr) (fun i _ => s.length - (intOf i).toNat)
  case atStart => exact ⟨0, by omega, Lib.hid (by rw [List.drop_zero]), rfl, k1, k2, HA.out _ _⟩
  case round =>
    obtain ⟨i, hi, hm, rfl, hk, hk2, hb⟩ := hrel
    have HB := Lib.hid hb
    clear k1 k2
    have ⟨e0, g0⟩ := keep1 hk
    by_cases hlt : i < s.length
    · have hli : (i : Int) < (s.length : Int) := by omega
      obtain ⟨x, b, off, hd, rfl, hA, hbb, hok, a1, c1, c, cc, hc, h2, h3⟩ := (HF.out.below typeLies (Nat.le_refl _) (hb.mono hB)).at hlt
      obtain ⟨d0, d1, d2, d3, d4⟩ := row5 hc
      by_cases hx : x.name = nm
      · have hf := Lib.hid (hm.out.trans (typeIn_hit hd hx))
        subst hx
        have HX : Hid (TypeAt wr A B (.agg (x.cells a1 c1 c cc).toArray) x) := Lib.hid ⟨a1, c1, c, cc, rfl, hok, h2, h3⟩
        have ⟨⟨y0, y1, y2, y3, y4⟩, f0, f1, f2, f3, f4⟩ := keep5 hk2
        obtain ⟨hr, _, _⟩ := putL_cells (g := w.heap.size + 1) (o := 0) (l := x.cells a1 c1 c cc) hk2 (by simp [TypeP.cells])
        have hoth := putL_other (x.cells a1 c1 c cc) wr (w.heap.size + 1) 0
        have HBF := Lib.hid (putL_below (g := w.heap.size + 1) (B := w.heap.size) (by omega) (x.cells a1 c1 c cc) 0 HB.out)
        have HXF : Hid (TypeAt (putL wr (w.heap.size + 1) 0 (x.cells a1 c1 c cc)) A B (.agg (x.cells a1 c1 c cc).toArray) x) := Lib.hid (HX.out.below (C := B) (Nat.le_refl _) (putL_below (g := w.heap.size + 1) (B := B) (by omega) (x.cells a1 c1 c cc) 0 (Below.refl _ _)))
        have HR := Lib.hid (row5z hr)
        clear hlt hd hb hok hc h2 h3 hk hk2 hr hoth
        go_wp2_with fail
        change bodyPost _ _ _ _ _ (putL wr (w.heap.size + 1) 0 (x.cells a1 c1 c cc))
        generalize putL wr (w.heap.size + 1) 0 (x.cells a1 c1 c cc) = wz at *
        have ⟨z0, z1, z2, z3, z4⟩ := HR.out
        exact bodyPost_ret (v := .agg (x.cells a1 c1 c cc).toArray) (by simp [results, Tryz.results50, go_sem, z0, z1, z2, z3, z4, TypeP.cells]) rfl ⟨⟨a1, c1, c, cc, by rw [hf.out], by rw [hf.out]; exact HXF.out⟩, HBF.out⟩
      · have hn1 := toList_ne hx
        have hn2 := toList_beq hx
        have hrel := Lib.hid (hm.out.trans (typeIn_miss hd hx))
        clear hlt hd hb hok hc h2 h3 d1 d2 d3 d4
        go_wp2_with fail
        go_roundw
        case rel => exact ⟨i + 1, by omega, hrel, by go_num, hk, hk2, HB.out⟩
        case measure => simp [intOf]; omega
    · obtain rfl : i = s.length := by omega
      have hf : Hid (typeIn nm s = zeroType) := Lib.hid (by rw [hm.out, List.drop_length]; rfl)
      have ⟨⟨y0, y1, y2, y3, y4⟩, f0, f1, f2, f3, f4⟩ := keep5 hk2
      have hzz : zeroType.cells none 0 none 0 = [.string ⟨#[]⟩, .int .i64 0, .int .i64 0, .slice none 0 0, .slice none 0 0] := rfl
      obtain ⟨hr, _, _⟩ := putL_cells (g := w.heap.size + 1) (o := 0) (l := [.string ⟨#[]⟩, .int .i64 0, .int .i64 0, .slice none 0 0, .slice none 0 0]) hk2 (by simp)
      have HBF := Lib.hid (putL_below (g := w.heap.size + 1) (B := w.heap.size) (by omega) [.string ⟨#[]⟩, .int .i64 0, .int .i64 0, .slice none 0 0, .slice none 0 0] 0 HB.out)
      have HR := Lib.hid (row5z hr)
      clear hlt hb hk hk2 hr hzz
      go_wp2_with fail
      change bodyPost _ _ _ _ _ (putL wr (w.heap.size + 1) 0 [.string ⟨#[]⟩, .int .i64 0, .int .i64 0, .slice none 0 0, .slice none 0 0])
      generalize putL wr (w.heap.size + 1) 0 [.string ⟨#[]⟩, .int .i64 0, .int .i64 0, .slice none 0 0, .slice none 0 0] = wz at *
      have ⟨z0, z1, z2, z3, z4⟩ := HR.out
      exact bodyPost_ret (v := .agg #[.string ⟨#[]⟩, .int .i64 0, .int .i64 0, .slice none 0 0, .slice none 0 0]) (by simp [results, Tryz.results50, go_sem, z0, z1, z2, z3, z4]) rfl ⟨⟨none, 0, none, 0, by rw [hf.out]; rfl, by rw [hf.out]; exact zeroAt _ _ _⟩, HBF.out⟩

theorem specField (w : World) (A B : Nat) (a : Option Addr) (len cap : Nat) (l : List FieldP) (nm : ByteArray) (hn : OkS nm) (hs : FieldsAt w A B a len l) (hB : B ≤ w.heap.size) :
    Calls Tryz.prog 180 #[.slice a len cap, .string nm] w fun e w' => e = .returned (.int .i64 (findF nm l 0)) ∧ Below w.heap.size w w' := by
  have hlen := hs.2.1
  have HS := Lib.hid hs
  obtain ⟨hll, _⟩ := hs
  subst hll
  go_enter Tryz.func180, Tryz.ntmps180
  go_wp2_with fail
  go_loopw [5] (fun i wr => ∃ (i' : Nat), i' ≤ l.length ∧ Hid (findF nm l 0 = findF nm (l.drop i') i') ∧ i = .int .i64 i' ∧ Below w.heap.size w wr) (fun i _ => l.length - (intOf i).toNat)
  case atStart => exact ⟨0, by omega, Lib.hid (by rw [List.drop_zero]), rfl, Below.refl _ _⟩
  case round =>
    obtain ⟨i, hi, hm, rfl, hb⟩ := hrel
    have HB := Lib.hid hb
    by_cases hlt : i < l.length
    · have hli : (i : Int) < (l.length : Int) := by omega
      obtain ⟨x, b, off, hd, rfl, hA, hbb, hok, hc⟩ := (HS.out.below fieldLies (Nat.le_refl _) (hb.mono hB)).at hlt
      obtain ⟨c0, c1, c2, c3, c4, c5⟩ := row6 hc
      by_cases hx : x.name = nm
      · have hf := Lib.hid (hm.out.trans (findF_hit hd hx))
        clear hlt hd hb hok hc c1 c2 c3 c4 c5
        go_wp2_with fail
        go_ret
        exact ⟨ret_i hf.out.symm, HB.out⟩
      · have hn1 := toList_ne hx
        have hn2 := toList_beq hx
        have hrel := Lib.hid (hm.out.trans (findF_miss hd hx))
        clear hlt hd hb hok hc c1 c2 c3 c4 c5
        go_wp2_with fail
        go_roundw
        case rel => exact ⟨i + 1, by omega, hrel, by go_num, HB.out⟩
        case measure => simp [intOf]; omega
    · obtain rfl : i = l.length := by omega
      have hf : Hid (findF nm l 0 = -1) := Lib.hid (by rw [hm.out, List.drop_length]; rfl)
      clear hlt hb
      go_wp2_with fail
      go_ret
      exact ⟨ret_i hf.out.symm, HB.out⟩

theorem specIn (w : World) (A B : Nat) (a : Option Addr) (len cap : Nat) (l : List ByteArray) (nm : ByteArray) (hn : OkS nm) (hs : TextsAt w A B a len l) (hB : B ≤ w.heap.size) :
    Calls Tryz.prog 108 #[.slice a len cap, .string nm] w fun e w' => e = .returned (.bool (inB nm l)) ∧ Below w.heap.size w w' := by
  have hlen := hs.2.1
  have HS := Lib.hid hs
  obtain ⟨hll, _⟩ := hs
  subst hll
  go_enter Tryz.func108, Tryz.ntmps108
  go_wp2_with fail
  go_loopw [5] (fun i wr => ∃ (i' : Nat), i' ≤ l.length ∧ Hid (inB nm l = inB nm (l.drop i')) ∧ i = .int .i64 i' ∧ Below w.heap.size w wr) (fun i _ => l.length - (intOf i).toNat)
  case atStart => exact ⟨0, by omega, Lib.hid (by rw [List.drop_zero]), rfl, Below.refl _ _⟩
  case round =>
    obtain ⟨i, hi, hm, rfl, hb⟩ := hrel
    have HB := Lib.hid hb
    by_cases hlt : i < l.length
    · have hli : (i : Int) < (l.length : Int) := by omega
      obtain ⟨x, b, off, hd, rfl, hA, hbb, hok, hc⟩ := (HS.out.below textLies (Nat.le_refl _) (hb.mono hB)).at hlt
      rw [Nat.mul_one] at hc
      by_cases hx : x = nm
      · have hf := Lib.hid (hm.out.trans (inB_hit hd hx))
        clear hlt hd hb hok
        go_wp2_with fail
        go_ret
        exact ⟨ret_bool hf.out.symm, HB.out⟩
      · have hn1 := toList_ne hx
        have hn2 := toList_beq hx
        have hrel := Lib.hid (hm.out.trans (inB_miss hd hx))
        clear hlt hd hb hok
        go_wp2_with fail
        go_roundw
        case rel => exact ⟨i + 1, by omega, hrel, by go_num, HB.out⟩
        case measure => simp [intOf]; omega
    · obtain rfl : i = l.length := by omega
      have hf : Hid (inB nm l = false) := Lib.hid (by rw [hm.out, List.drop_length]; rfl)
      clear hlt hb
      go_wp2_with fail
      go_ret
      exact ⟨ret_bool hf.out.symm, HB.out⟩
end Go.Proofs.YtceabbbmgfeofaaGreatDoor.Rw
