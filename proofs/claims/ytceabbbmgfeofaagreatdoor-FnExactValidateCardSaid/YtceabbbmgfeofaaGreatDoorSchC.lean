/-
  What is right of what there is, plainly; and contracts: spec.l04Fields, l04Part, SchemaRight answer so; of what was there nothing is changed. Conditions: in memory.
-/
import Derived.Test.YtceabbbmgfeofaaGreatDoorRows
import Derived.Test.YtceabbbmgfeofaaGreatDoorSch
import Derived.Test.YtceabbbmgfeofaaGreatDoorWord
import Derived.Lib.Strings
import Derived.Deep.CutRange
namespace Go.Proofs.YtceabbbmgfeofaaGreatDoor.Rw
open Go.RowKit Words
set_option linter.unusedVariables false
set_option maxRecDepth 100000
theorem specIs (n lo hi : Int) (hn : OkI n) (hlo : OkI lo) (hhi : OkI hi) (w : World) :
    Calls Tryz.prog 146 #[.int .i64 n, .int .i64 lo, .int .i64 hi] w fun e w' => e = .returned (.bool (decide (lo ≤ n) && decide (n ≤ hi))) ∧ w = w' := by
  unfold OkI at hn hlo hhi
  go_enter Tryz.func146, Tryz.ntmps146
  go_wp2_with fail
  all_goals go_ret
  all_goals exact ⟨ret_bool (by simp_all <;> omega), rfl⟩
theorem toList_ne {a b : ByteArray} (h : a ≠ b) : a.toList ≠ b.toList := fun e => h (by
  rw [Lib.toList_data, Lib.toList_data] at e
  exact ByteArray.ext (Array.toList_inj.1 e))
theorem toList_beq {a b : ByteArray} (h : a ≠ b) : (a.toList == b.toList) = false := by
  rw [beq_eq_false_iff_ne]; exact toList_ne h
/-- The type of a name; the zero one, if there is none. -/
def zeroType : TypeP := ⟨⟨#[]⟩, 0, 0, [], []⟩
def typeIn (nm : ByteArray) : List TypeP → TypeP
  | [] => zeroType
  | x :: l => if x.name = nm then x else typeIn nm l
theorem typeIn_hit {nm : ByteArray} {l : List TypeP} {i : Nat} {x : TypeP} (h : l[i]? = some x) (hx : x.name = nm) : typeIn nm (l.drop i) = x := by
  obtain ⟨hl, rfl⟩ := List.getElem?_eq_some_iff.1 h
  rw [List.drop_eq_getElem_cons hl, typeIn, if_pos hx]
theorem typeIn_miss {nm : ByteArray} {l : List TypeP} {i : Nat} {x : TypeP} (h : l[i]? = some x) (hx : x.name ≠ nm) : typeIn nm (l.drop i) = typeIn nm (l.drop (i + 1)) := by
  obtain ⟨hl, rfl⟩ := List.getElem?_eq_some_iff.1 h
  rw [List.drop_eq_getElem_cons hl, typeIn, if_neg hx]
/-- The place of the first field of a name, or -1. -/
def findF (nm : ByteArray) : List FieldP → Nat → Int
  | [], _ => -1
  | x :: l, k => if x.name = nm then (k : Int) else findF nm l (k + 1)
theorem findF_hit {nm : ByteArray} {l : List FieldP} {i : Nat} {x : FieldP} (h : l[i]? = some x) (hx : x.name = nm) : findF nm (l.drop i) i = i := by
  obtain ⟨hl, rfl⟩ := List.getElem?_eq_some_iff.1 h
  rw [List.drop_eq_getElem_cons hl, findF, if_pos hx]
theorem findF_miss {nm : ByteArray} {l : List FieldP} {i : Nat} {x : FieldP} (h : l[i]? = some x) (hx : x.name ≠ nm) : findF nm (l.drop i) i = findF nm (l.drop (i + 1)) (i + 1) := by
  obtain ⟨hl, rfl⟩ := List.getElem?_eq_some_iff.1 h
  rw [List.drop_eq_getElem_cons hl, findF, if_neg hx]
/-- Whether a text is among others. -/
def inB (nm : ByteArray) : List ByteArray → Bool
  | [] => false
  | x :: l => if x = nm then true else inB nm l
theorem inB_hit {nm : ByteArray} {l : List ByteArray} {i : Nat} {x : ByteArray} (h : l[i]? = some x) (hx : x = nm) : inB nm (l.drop i) = true := by
  obtain ⟨hl, rfl⟩ := List.getElem?_eq_some_iff.1 h
  rw [List.drop_eq_getElem_cons hl, inB, if_pos hx]
theorem inB_miss {nm : ByteArray} {l : List ByteArray} {i : Nat} {x : ByteArray} (h : l[i]? = some x) (hx : x ≠ nm) : inB nm (l.drop i) = inB nm (l.drop (i + 1)) := by
  obtain ⟨hl, rfl⟩ := List.getElem?_eq_some_iff.1 h
  rw [List.drop_eq_getElem_cons hl, inB, if_neg hx]
theorem zeroAt (w : World) (A B : Nat) : TypeAt w A B (.agg #[.string ⟨#[]⟩, .int .i64 0, .int .i64 0, .slice none 0 0, .slice none 0 0]) zeroType :=
  ⟨none, 0, none, 0, rfl, ⟨by unfold OkS; decide, by unfold OkI zeroType; simp, by unfold OkI zeroType; simp⟩, ⟨⟨rfl, Nat.zero_le _, .inl rfl⟩, Nat.le_refl _⟩, ⟨rfl, Nat.zero_le _, .inl rfl⟩, Nat.le_refl _⟩
set_option maxHeartbeats 2000000 in
theorem specType (w : World) (A B : Nat) (v : Value) (s : List TypeP) (nm : ByteArray) (hn : OkS nm) (hs : SchemaAt w A B v s) (hB : B ≤ w.heap.size) :
    Calls Tryz.prog 50 #[v, .string nm] w fun e w' => (∃ a ca c cc, e = .returned (.agg ((typeIn nm s).cells a ca c cc).toArray) ∧ TypeAt w' A B (.agg ((typeIn nm s).cells a ca c cc).toArray) (typeIn nm s)) ∧ Below w.heap.size w w' := by
  obtain ⟨a, ca, rfl, hd, _⟩ := hs
  have HF := Lib.hid hd
  have HA : Hid (∀ o1 o2, Below w.heap.size w ((w.alloc o1).alloc o2)) := Lib.hid fun o1 o2 => ((Below.refl _ _).alloc (Nat.le_refl _) o1).alloc (by simp) o2
  have hlen := hd.2.1
  clear hd
  go_enter Tryz.func50, Tryz.ntmps50
  go_wp2_with fail
  have k1 : ((w.alloc (.cells #[.slice a s.length ca] 25)).alloc (.cells #[.string ⟨#[]⟩, .int .i64 0, .int .i64 0, .slice none 0 0, .slice none 0 0] 48)).heap[w.heap.size]? = some (.cells #[.slice a s.length ca] 25 (0, 0)) := by
    rw [Go.Deep.blk_alloc_lt _ _ _ (by simp)]; exact heap_alloc_new w _
  have k2 : ((w.alloc (.cells #[.slice a s.length ca] 25)).alloc (.cells #[.string ⟨#[]⟩, .int .i64 0, .int .i64 0, .slice none 0 0, .slice none 0 0] 48)).heap[w.heap.size + 1]? = some (.cells #[.string ⟨#[]⟩, .int .i64 0, .int .i64 0, .slice none 0 0, .slice none 0 0] 48 (0, 0)) := by
    have := heap_alloc_new (w.alloc (.cells #[.slice a s.length ca] 25)) (.cells #[.string ⟨#[]⟩, .int .i64 0, .int .i64 0, .slice none 0 0, .slice none 0 0] 48)
    simpa using this
  go_loopw [5] (fun i wr => ∃ (i' : Nat), i' ≤ s.length ∧ Hid (typeIn nm s = typeIn nm (s.drop i')) ∧ i = .int .i64 i' ∧ wr.heap[w.heap.size]? = some (.cells #[.slice a s.length ca] 25 (0, 0)) ∧ wr.heap[w.heap.size + 1]? = some (.cells #[.string ⟨#[]⟩, .int .i64 0, .int .i64 0, .slice none 0 0, .slice none 0 0] 48 (0, 0)) ∧ Below w.heap.size w wr) (fun i _ => s.length - (intOf i).toNat)
  case atStart => exact ⟨0, by omega, Lib.hid (by rw [List.drop_zero]), rfl, k1, k2, HA.out _ _⟩
  case round =>
    obtain ⟨i, hi, hm, rfl, hk, hk2, hb⟩ := hrel
    have HB := Lib.hid hb
    clear k1 k2
    have ⟨e0, g0⟩ := keep1 hk
    by_cases hlt : i < s.length
    · have hli : (i : Int) < (s.length : Int) := by omega
      obtain ⟨x, b, off, hd, rfl, hA, hbb, hok, a1, c1, c, cc, hc, h2, h3⟩ := (HF.out.below typeLies (Nat.le_refl _) (hb.mono hB)).at hlt
      obtain ⟨d0, d1, d2, d3, d4⟩ := row5 hc
      by_cases hx : x.name = nm
      · have hf := Lib.hid (hm.out.trans (typeIn_hit hd hx))
        subst hx
        have HX : Hid (TypeAt wr A B (.agg (x.cells a1 c1 c cc).toArray) x) := Lib.hid ⟨a1, c1, c, cc, rfl, hok, h2, h3⟩
        have ⟨⟨y0, y1, y2, y3, y4⟩, f0, f1, f2, f3, f4⟩ := keep5 hk2
        obtain ⟨hr, _, _⟩ := putL_cells (g := w.heap.size + 1) (o := 0) (l := x.cells a1 c1 c cc) hk2 (by simp [TypeP.cells])
        have hoth := putL_other (x.cells a1 c1 c cc) wr (w.heap.size + 1) 0
        have HBF := Lib.hid (putL_below (g := w.heap.size + 1) (B := w.heap.size) (by omega) (x.cells a1 c1 c cc) 0 HB.out)
        have HXF : Hid (TypeAt (putL wr (w.heap.size + 1) 0 (x.cells a1 c1 c cc)) A B (.agg (x.cells a1 c1 c cc).toArray) x) := Lib.hid (HX.out.below (C := B) (Nat.le_refl _) (putL_below (g := w.heap.size + 1) (B := B) (by omega) (x.cells a1 c1 c cc) 0 (Below.refl _ _)))
        have HR := Lib.hid (row5z hr)
        clear hlt hd hb hok hc h2 h3 hk hk2 hr hoth
        go_wp2_with fail
        change bodyPost _ _ _ _ _ (putL wr (w.heap.size + 1) 0 (x.cells a1 c1 c cc))
        generalize putL wr (w.heap.size + 1) 0 (x.cells a1 c1 c cc) = wz at *
        have ⟨z0, z1, z2, z3, z4⟩ := HR.out
        exact bodyPost_ret (v := .agg (x.cells a1 c1 c cc).toArray) (by simp [results, Tryz.results50, go_sem, z0, z1, z2, z3, z4, TypeP.cells]) rfl ⟨⟨a1, c1, c, cc, by rw [hf.out], by rw [hf.out]; exact HXF.out⟩, HBF.out⟩
      · have hn1 := toList_ne hx
        have hn2 := toList_beq hx
        have hrel := Lib.hid (hm.out.trans (typeIn_miss hd hx))
        clear hlt hd hb hok hc h2 h3 d1 d2 d3 d4
        go_wp2_with fail
        go_roundw
        case rel => exact ⟨i + 1, by omega, hrel, by go_num, hk, hk2, HB.out⟩
        case measure => simp [intOf]; omega
    · obtain rfl : i = s.length := by omega
      have hf : Hid (typeIn nm s = zeroType) := Lib.hid (by rw [hm.out, List.drop_length]; rfl)
      have ⟨⟨y0, y1, y2, y3, y4⟩, f0, f1, f2, f3, f4⟩ := keep5 hk2
      have hzz : zeroType.cells none 0 none 0 = [.string ⟨#[]⟩, .int .i64 0, .int .i64 0, .slice none 0 0, .slice none 0 0] := rfl
      obtain ⟨hr, _, _⟩ := putL_cells (g := w.heap.size + 1) (o := 0) (l := [.string ⟨#[]⟩, .int .i64 0, .int .i64 0, .slice none 0 0, .slice none 0 0]) hk2 (by simp)
      have HBF := Lib.hid (putL_below (g := w.heap.size + 1) (B := w.heap.size) (by omega) [.string ⟨#[]⟩, .int .i64 0, .int .i64 0, .slice none 0 0, .slice none 0 0] 0 HB.out)
      have HR := Lib.hid (row5z hr)
      clear hlt hb hk hk2 hr hzz
      go_wp2_with fail
      change bodyPost _ _ _ _ _ (putL wr (w.heap.size + 1) 0 [.string ⟨#[]⟩, .int .i64 0, .int .i64 0, .slice none 0 0, .slice none 0 0])
      generalize putL wr (w.heap.size + 1) 0 [.string ⟨#[]⟩, .int .i64 0, .int .i64 0, .slice none 0 0, .slice none 0 0] = wz at *
      have ⟨z0, z1, z2, z3, z4⟩ := HR.out
      exact bodyPost_ret (v := .agg #[.string ⟨#[]⟩, .int .i64 0, .int .i64 0, .slice none 0 0, .slice none 0 0]) (by simp [results, Tryz.results50, go_sem, z0, z1, z2, z3, z4]) rfl ⟨⟨none, 0, none, 0, by rw [hf.out]; rfl, by rw [hf.out]; exact zeroAt _ _ _⟩, HBF.out⟩
theorem specField (w : World) (A B : Nat) (a : Option Addr) (len cap : Nat) (l : List FieldP) (nm : ByteArray) (hn : OkS nm) (hs : FieldsAt w A B a len l) (hB : B ≤ w.heap.size) :
    Calls Tryz.prog 180 #[.slice a len cap, .string nm] w fun e w' => e = .returned (.int .i64 (findF nm l 0)) ∧ Below w.heap.size w w' := by
  have hlen := hs.2.1
  have HS := Lib.hid hs
  obtain ⟨hll, _⟩ := hs
  subst hll
  go_enter Tryz.func180, Tryz.ntmps180
  go_wp2_with fail
  go_loopw [5] (fun i wr => ∃ (i' : Nat), i' ≤ l.length ∧ Hid (findF nm l 0 = findF nm (l.drop i') i') ∧ i = .int .i64 i' ∧ Below w.heap.size w wr) (fun i _ => l.length - (intOf i).toNat)
  case atStart => exact ⟨0, by omega, Lib.hid (by rw [List.drop_zero]), rfl, Below.refl _ _⟩
  case round =>
    obtain ⟨i, hi, hm, rfl, hb⟩ := hrel
    have HB := Lib.hid hb
    by_cases hlt : i < l.length
    · have hli : (i : Int) < (l.length : Int) := by omega
      obtain ⟨x, b, off, hd, rfl, hA, hbb, hok, hc⟩ := (HS.out.below fieldLies (Nat.le_refl _) (hb.mono hB)).at hlt
      obtain ⟨c0, c1, c2, c3, c4, c5⟩ := row6 hc
      by_cases hx : x.name = nm
      · have hf := Lib.hid (hm.out.trans (findF_hit hd hx))
        clear hlt hd hb hok hc c1 c2 c3 c4 c5
        go_wp2_with fail
        go_ret
        exact ⟨ret_i hf.out.symm, HB.out⟩
      · have hn1 := toList_ne hx
        have hn2 := toList_beq hx
        have hrel := Lib.hid (hm.out.trans (findF_miss hd hx))
        clear hlt hd hb hok hc c1 c2 c3 c4 c5
        go_wp2_with fail
        go_roundw
        case rel => exact ⟨i + 1, by omega, hrel, by go_num, HB.out⟩
        case measure => simp [intOf]; omega
    · obtain rfl : i = l.length := by omega
      have hf : Hid (findF nm l 0 = -1) := Lib.hid (by rw [hm.out, List.drop_length]; rfl)
      clear hlt hb
      go_wp2_with fail
      go_ret
      exact ⟨ret_i hf.out.symm, HB.out⟩
theorem specIn (w : World) (A B : Nat) (a : Option Addr) (len cap : Nat) (l : List ByteArray) (nm : ByteArray) (hn : OkS nm) (hs : TextsAt w A B a len l) (hB : B ≤ w.heap.size) :
    Calls Tryz.prog 108 #[.slice a len cap, .string nm] w fun e w' => e = .returned (.bool (inB nm l)) ∧ Below w.heap.size w w' := by
  have hlen := hs.2.1
  have HS := Lib.hid hs
  obtain ⟨hll, _⟩ := hs
  subst hll
  go_enter Tryz.func108, Tryz.ntmps108
  go_wp2_with fail
  go_loopw [5] (fun i wr => ∃ (i' : Nat), i' ≤ l.length ∧ Hid (inB nm l = inB nm (l.drop i')) ∧ i = .int .i64 i' ∧ Below w.heap.size w wr) (fun i _ => l.length - (intOf i).toNat)
  case atStart => exact ⟨0, by omega, Lib.hid (by rw [List.drop_zero]), rfl, Below.refl _ _⟩
  case round =>
    obtain ⟨i, hi, hm, rfl, hb⟩ := hrel
    have HB := Lib.hid hb
    by_cases hlt : i < l.length
    · have hli : (i : Int) < (l.length : Int) := by omega
      obtain ⟨x, b, off, hd, rfl, hA, hbb, hok, hc⟩ := (HS.out.below textLies (Nat.le_refl _) (hb.mono hB)).at hlt
      rw [Nat.mul_one] at hc
      by_cases hx : x = nm
      · have hf := Lib.hid (hm.out.trans (inB_hit hd hx))
        clear hlt hd hb hok
        go_wp2_with fail
        go_ret
        exact ⟨ret_bool hf.out.symm, HB.out⟩
      · have hn1 := toList_ne hx
        have hn2 := toList_beq hx
        have hrel := Lib.hid (hm.out.trans (inB_miss hd hx))
        clear hlt hd hb hok
        go_wp2_with fail
        go_roundw
        case rel => exact ⟨i + 1, by omega, hrel, by go_num, HB.out⟩
        case measure => simp [intOf]; omega
    · obtain rfl : i = l.length := by omega
      have hf : Hid (inB nm l = false) := Lib.hid (by rw [hm.out, List.drop_length]; rfl)
      clear hlt hb
      go_wp2_with fail
      go_ret
      exact ⟨ret_bool hf.out.symm, HB.out⟩
/-- Whether a field has a Size or a Cap as it may. -/
def sizedB (f : FieldP) : Bool :=
  if f.list = true then ((decide (0 ≤ f.size) && decide (f.size ≤ 100)) && (f.cap == 0)) || ((f.size == 0) && (decide (1 ≤ f.cap) && decide (f.cap ≤ 100)))
  else (f.size == 0) && (f.cap == 0)
noncomputable def fieldB (s : List TypeP) (l : List FieldP) (i : Nat) (f : FieldP) : Bool :=
  ((wordB f.name && (findF f.name l 0 == (i : Int))) && !((typeIn f.typ s).kind == 0)) && sizedB f
noncomputable def fieldsAll (s : List TypeP) (l : List FieldP) : List FieldP → Nat → Bool
  | [], _ => true
  | x :: r, i => fieldB s l i x && fieldsAll s l r (i + 1)
theorem fieldsAll_drop {s : List TypeP} {l : List FieldP} {i : Nat} {x : FieldP} (h : l[i]? = some x) : fieldsAll s l (l.drop i) i = (fieldB s l i x && fieldsAll s l (l.drop (i + 1)) (i + 1)) := by
  obtain ⟨hl, rfl⟩ := List.getElem?_eq_some_iff.1 h
  rw [List.drop_eq_getElem_cons hl, fieldsAll]
noncomputable def fieldsB (s : List TypeP) (l : List FieldP) : Bool := fieldsAll s l l 0 && (decide (1 ≤ l.length) && decide (l.length ≤ 8))
theorem all_no {x y a c : Bool} (h : x = y) (h1 : y = (a && c)) (ha : a = false) : x = false := by rw [h, h1, ha]; rfl
theorem all_yes {x y a c : Bool} (h : x = y) (h1 : y = (a && c)) (ha : a = true) : x = c := by rw [h, h1, ha]; simp
set_option maxHeartbeats 4000000 in
theorem specFields (w : World) (A B : Nat) (v : Value) (s : List TypeP) (hv : SchemaAt w A B v s) (a : Option Addr) (len cap : Nat) (l : List FieldP) (hs : FieldsAt w A B a len l) (hB : B ≤ w.heap.size) :
    Calls Tryz.prog 149 #[v, .slice a len cap] w fun e w' => e = .returned (.bool (fieldsB s l)) ∧ Below w.heap.size w w' := by
  have CT : Hid (∀ (w' : World) (nm : ByteArray), OkS nm → Below w.heap.size w w' → Calls Tryz.prog 50 #[v, .string nm] w' fun e w'' => (∃ a ca c cc, e = .returned (.agg ((typeIn nm s).cells a ca c cc).toArray) ∧ TypeAt w'' A B (.agg ((typeIn nm s).cells a ca c cc).toArray) (typeIn nm s)) ∧ Below w'.heap.size w' w'') := Lib.hid fun w' nm hn h => specType w' A B v s nm hn (hv.below hB h) (Nat.le_trans hB h.size)
  have CF : Hid (∀ (w' : World) (nm : ByteArray), OkS nm → Below w.heap.size w w' → Calls Tryz.prog 180 #[.slice a len cap, .string nm] w' fun e w'' => e = .returned (.int .i64 (findF nm l 0)) ∧ Below w'.heap.size w' w'') := Lib.hid fun w' nm hn h => specField w' A B a len cap l nm hn (hs.below fieldLies hB h) (Nat.le_trans hB h.size)
  obtain ⟨av, ca, rfl, hd, hcv⟩ := hv
  have hlen := hs.2.1
  have HS := Lib.hid hs
  obtain ⟨hll, _⟩ := hs
  subst hll
  have HA : Hid (∀ o1, Below w.heap.size w (w.alloc o1)) := Lib.hid fun o1 => (Below.refl _ _).alloc (Nat.le_refl _) o1
  clear hd
  go_enter Tryz.func149, Tryz.ntmps149
  go_wp2_with fail
  have k1 : (w.alloc (.cells #[.slice av s.length ca] 25)).heap[w.heap.size]? = some (.cells #[.slice av s.length ca] 25 (0, 0)) := heap_alloc_new w _
  go_loopw [5] (fun i wr => ∃ (i' : Nat), i' ≤ l.length ∧ Hid (fieldsAll s l l 0 = fieldsAll s l (l.drop i') i') ∧ i = .int .i64 i' ∧ wr.heap[w.heap.size]? = some (.cells #[.slice av s.length ca] 25 (0, 0)) ∧ Below w.heap.size w wr) (fun i _ => l.length - (intOf i).toNat)
  case atStart => exact ⟨0, by omega, Lib.hid (by rw [List.drop_zero]), rfl, k1, HA.out _⟩
  case round =>
    obtain ⟨i, hi, hm, rfl, hk, hb⟩ := hrel
    have HB := Lib.hid hb
    clear k1
    by_cases hlt : i < l.length
    · have hli : (i : Int) < (l.length : Int) := by omega
      obtain ⟨x, b, off, hd, rfl, hA, hbb, hok, hc⟩ := (HS.out.below fieldLies (Nat.le_refl _) (hb.mono hB)).at hlt
      have hst := Lib.hid (fieldsAll_drop (s := s) hd)
      obtain ⟨c0, c1, c2, c3, c4, c5⟩ := row6 hc
      have HOK := Lib.hid hok
      obtain ⟨xn, xt, xl, xm, xs, xc⟩ := x
      obtain ⟨okn, okt, oks, okc⟩ := hok
      simp only at okn okt oks okc c0 c1 c2 c3 c4 c5
      have C1 : Hid (∀ w, Calls Tryz.prog 146 #[.int .i64 xs, .int .i64 0, .int .i64 100] w fun e w' => e = .returned (.bool (decide (0 ≤ xs) && decide (xs ≤ 100))) ∧ w = w') := Lib.hid fun w => specIs _ _ _ oks (by unfold OkI; omega) (by unfold OkI; omega) _
      have C2 : Hid (∀ w, Calls Tryz.prog 146 #[.int .i64 xc, .int .i64 1, .int .i64 100] w fun e w' => e = .returned (.bool (decide (1 ≤ xc) && decide (xc ≤ 100))) ∧ w = w') := Lib.hid fun w => specIs _ _ _ okc (by unfold OkI; omega) (by unfold OkI; omega) _
      have C3 : Hid (∀ w, Calls Tryz.prog 105 #[.string xn] w fun e w' => e = .returned (.bool (wordB xn)) ∧ w = w') := Lib.hid fun w => specWordRight _ (by unfold maxLen; exact okn) w
      have OKN := Lib.hid okn
      have OKT := Lib.hid okt
      unfold OkI at oks okc
      obtain ⟨p1, hp1⟩ : ∃ p, (decide (0 ≤ xs) && decide (xs ≤ 100)) = p := ⟨_, rfl⟩
      obtain ⟨p2, hp2⟩ : ∃ p, (decide (1 ≤ xc) && decide (xc ≤ 100)) = p := ⟨_, rfl⟩
      obtain ⟨e1, he1⟩ : ∃ p, (xc == 0) = p := ⟨_, rfl⟩
      obtain ⟨e2, he2⟩ : ∃ p, (xs == 0) = p := ⟨_, rfl⟩
      obtain ⟨sz, hsz⟩ : ∃ p, ((p1 && e1) || (e2 && p2)) = p := ⟨_, rfl⟩
      have hsB := Lib.hid (show sizedB ⟨xn, xt, xl, xm, xs, xc⟩ = if xl = true then sz else (e2 && e1) by
        unfold sizedB; simp only [← hsz, ← hp1, ← hp2, ← he1, ← he2])
      rw [hp1] at C1
      rw [hp2] at C2
      have HP1 := Lib.hid hp1
      have HSZ := Lib.hid hsz
      have hfs : Hid (fieldsB s l = (fieldsAll s l l 0 && (decide (1 ≤ l.length) && decide (l.length ≤ 8)))) := Lib.hid rfl
      have HA1 : Hid (∀ o, Below w.heap.size w (wr.alloc o)) := Lib.hid fun o => HB.out.alloc HB.out.size o
      have hkf : Hid (∀ o, (wr.alloc o).heap[w.heap.size]? = some (.cells #[.slice av s.length ca] 25 (0, 0))) := Lib.hid fun o => (Go.Deep.blk_alloc_lt _ _ _ (lt_of_get hk)).trans hk
      have HL := Lib.hid (lt_of_get hk)
      clear hp1 hp2 hsz hd hc hlt hb
      go_upto_region 5 with fail
      go_cut [7] from 8 to 78 (fun v wx => v = .bool sz ∧ wx = wr.alloc (.cells #[.string xn, .string xt, .bool xl, .bool xm, .int .i64 xs, .int .i64 xc] 50))
      case first =>
        cases e2
        · have q2 : ¬ xs = 0 := by simpa using he2
          cases p1
          · have hs2 := Lib.hid (show sz = false by rw [← HSZ.out]; rfl)
            go_wp2_with (first | (go_at_call 146; with_reducible refine (C1.out _).mono ?_; rintro e w' ⟨rfl, rfl⟩) | (go_at_call 146; with_reducible refine (C2.out _).mono ?_; rintro e w' ⟨rfl, rfl⟩))
            go_meet
            exact ⟨by rw [hs2.out], rfl⟩
          · cases e1
            · have q1 : ¬ xc = 0 := by simpa using he1
              have hs2 := Lib.hid (show sz = false by rw [← HSZ.out]; rfl)
              go_wp2_with (first | (go_at_call 146; with_reducible refine (C1.out _).mono ?_; rintro e w' ⟨rfl, rfl⟩) | (go_at_call 146; with_reducible refine (C2.out _).mono ?_; rintro e w' ⟨rfl, rfl⟩))
              go_meet
              exact ⟨by rw [hs2.out], rfl⟩
            · have hs2 := Lib.hid (show sz = true by rw [← HSZ.out]; rfl)
              go_wp2_with (first | (go_at_call 146; with_reducible refine (C1.out _).mono ?_; rintro e w' ⟨rfl, rfl⟩) | (go_at_call 146; with_reducible refine (C2.out _).mono ?_; rintro e w' ⟨rfl, rfl⟩))
              go_meet
              exact ⟨by rw [hs2.out], rfl⟩
        · cases p1
          · exfalso
            have h1 := HP1.out
            have h2 : xs = 0 := by simpa using he2
            rw [h2] at h1; simp at h1
          · cases e1
            · have q1 : ¬ xc = 0 := by simpa using he1
              have hs2 := Lib.hid (show sz = p2 by rw [← HSZ.out]; cases p2 <;> rfl)
              cases p2
              · go_wp2_with (first | (go_at_call 146; with_reducible refine (C1.out _).mono ?_; rintro e w' ⟨rfl, rfl⟩) | (go_at_call 146; with_reducible refine (C2.out _).mono ?_; rintro e w' ⟨rfl, rfl⟩))
                go_meet
                exact ⟨by rw [hs2.out], rfl⟩
              · go_wp2_with (first | (go_at_call 146; with_reducible refine (C1.out _).mono ?_; rintro e w' ⟨rfl, rfl⟩) | (go_at_call 146; with_reducible refine (C2.out _).mono ?_; rintro e w' ⟨rfl, rfl⟩))
                go_meet
                exact ⟨by rw [hs2.out], rfl⟩
            · have hs2 := Lib.hid (show sz = true by rw [← HSZ.out]; rfl)
              go_wp2_with (first | (go_at_call 146; with_reducible refine (C1.out _).mono ?_; rintro e w' ⟨rfl, rfl⟩) | (go_at_call 146; with_reducible refine (C2.out _).mono ?_; rintro e w' ⟨rfl, rfl⟩))
              go_meet
              exact ⟨by rw [hs2.out], rfl⟩
      case rest =>
        obtain ⟨rfl, rfl⟩ := hcut
        obtain ⟨b1, hb1e⟩ : ∃ p, wordB xn = p := ⟨_, rfl⟩
        obtain ⟨nF, hnF⟩ : ∃ p, findF xn l 0 = p := ⟨_, rfl⟩
        obtain ⟨b2, hb2e⟩ : ∃ p, (nF == (i : Int)) = p := ⟨_, rfl⟩
        obtain ⟨tX, htX⟩ : ∃ p, typeIn xt s = p := ⟨_, rfl⟩
        obtain ⟨tn, tk, tb, tf, tm⟩ := tX
        obtain ⟨b3, hb3e⟩ : ∃ p, (tk == 0) = p := ⟨_, rfl⟩
        have HFB := Lib.hid (show fieldB s l i ⟨xn, xt, xl, xm, xs, xc⟩ = (((b1 && b2) && !b3) && (if xl = true then sz else (e2 && e1))) by
          unfold fieldB; rw [hsB.out]; simp only [hb1e, hnF, hb2e, htX, hb3e])
        rw [hb1e] at C3
        have CF1 := Lib.hid (fun w' h => CF.out w' xn OKN.out h)
        have CT1 := Lib.hid (fun w' h => CT.out w' xt OKT.out h)
        rw [hnF] at CF1
        rw [htX] at CT1
        simp only [TypeP.cells] at CT1
        have hfld : ∀ (W : World) (ta tca tc tcc), (Instr.field 48 (.agg #[.string tn, .int .i64 tk, .int .i64 tb, .slice ta tf.length tca, .slice tc tm.length tcc]) 1).run Tryz.prog W = .ok (.int .i64 tk) W := fun _ _ _ _ _ => rfl
        clear hb1e hnF htX
        cases b1
        · have ho := Lib.hid HFB.out
          go_wp2_with (first
          | (go_at_call 105; refine (C3.out _).mono ?_; rintro e w' ⟨rfl, rfl⟩)
          | (go_at_call 180; refine (CF1.out _ (HA1.out _)).mono ?_; rintro e w1 ⟨rfl, hb1⟩; have hf1 := (hb1.block wr.heap.size (by simp)).trans (heap_alloc_new wr _); have ⟨⟨y0, y1, y2, y3, y4, y5⟩, _⟩ := keep6 hf1; have hk1 := (hb1.block w.heap.size (by simp; have := HL.out; omega)).trans (hkf.out _); have ⟨j0, _⟩ := keep1 hk1; have hB1 := (HA1.out _).trans (hb1.mono (HA1.out _).size))
          | (go_at_call 50; refine (CT1.out _ hB1).mono ?_; rintro e w2 ⟨⟨ta, tca, tc, tcc, rfl, _⟩, hb2⟩; have hf2 := (hb2.block wr.heap.size (by have := hb1.size; simp at this; omega)).trans hf1; have ⟨⟨z0, z1, z2, z3, z4, z5⟩, _⟩ := keep6 hf2; have hk2 := (hb2.block w.heap.size (by have := hb1.size; have := HL.out; simp at *; omega)).trans hk1; have hB2 := hB1.trans (hb2.mono hB1.size)))
          go_ret
          exact ⟨ret_bool (by rw [hfs.out, all_no hm.out hst.out ho.out]; rfl), HA1.out _⟩
        cases b2
        · have n2 : ¬ nF = (i : Int) := by simpa using hb2e
          have ho := Lib.hid HFB.out
          go_wp2_with (first
          | (go_at_call 105; refine (C3.out _).mono ?_; rintro e w' ⟨rfl, rfl⟩)
          | (go_at_call 180; refine (CF1.out _ (HA1.out _)).mono ?_; rintro e w1 ⟨rfl, hb1⟩; have hf1 := (hb1.block wr.heap.size (by simp)).trans (heap_alloc_new wr _); have ⟨⟨y0, y1, y2, y3, y4, y5⟩, _⟩ := keep6 hf1; have hk1 := (hb1.block w.heap.size (by simp; have := HL.out; omega)).trans (hkf.out _); have ⟨j0, _⟩ := keep1 hk1; have hB1 := (HA1.out _).trans (hb1.mono (HA1.out _).size))
          | (go_at_call 50; refine (CT1.out _ hB1).mono ?_; rintro e w2 ⟨⟨ta, tca, tc, tcc, rfl, _⟩, hb2⟩; have hf2 := (hb2.block wr.heap.size (by have := hb1.size; simp at this; omega)).trans hf1; have ⟨⟨z0, z1, z2, z3, z4, z5⟩, _⟩ := keep6 hf2; have hk2 := (hb2.block w.heap.size (by have := hb1.size; have := HL.out; simp at *; omega)).trans hk1; have hB2 := hB1.trans (hb2.mono hB1.size)))
          go_ret
          exact ⟨ret_bool (by rw [hfs.out, all_no hm.out hst.out ho.out]; rfl), hB1⟩
        have n2 : (nF != (i : Int)) = false := by simp [bne, hb2e]
        cases b3
        rotate_left
        · have ho := Lib.hid HFB.out
          go_wp2_with (first
          | (go_at_call 105; refine (C3.out _).mono ?_; rintro e w' ⟨rfl, rfl⟩)
          | (go_at_call 180; refine (CF1.out _ (HA1.out _)).mono ?_; rintro e w1 ⟨rfl, hb1⟩; have hf1 := (hb1.block wr.heap.size (by simp)).trans (heap_alloc_new wr _); have ⟨⟨y0, y1, y2, y3, y4, y5⟩, _⟩ := keep6 hf1; have hk1 := (hb1.block w.heap.size (by simp; have := HL.out; omega)).trans (hkf.out _); have ⟨j0, _⟩ := keep1 hk1; have hB1 := (HA1.out _).trans (hb1.mono (HA1.out _).size))
          | (go_at_call 50; refine (CT1.out _ hB1).mono ?_; rintro e w2 ⟨⟨ta, tca, tc, tcc, rfl, _⟩, hb2⟩; have hf2 := (hb2.block wr.heap.size (by have := hb1.size; simp at this; omega)).trans hf1; have ⟨⟨z0, z1, z2, z3, z4, z5⟩, _⟩ := keep6 hf2; have hk2 := (hb2.block w.heap.size (by have := hb1.size; have := HL.out; simp at *; omega)).trans hk1; have hB2 := hB1.trans (hb2.mono hB1.size)))
          go_ret
          exact ⟨ret_bool (by rw [hfs.out, all_no hm.out hst.out ho.out]; rfl), hB2⟩
        have n3 : ¬ tk = 0 := by simpa using hb3e
        cases xl
        · cases e2
          · have q2 : ¬ xs = 0 := by simpa using he2
            have ho := Lib.hid HFB.out
            go_wp2_with (first
          | (go_at_call 105; refine (C3.out _).mono ?_; rintro e w' ⟨rfl, rfl⟩)
          | (go_at_call 180; refine (CF1.out _ (HA1.out _)).mono ?_; rintro e w1 ⟨rfl, hb1⟩; have hf1 := (hb1.block wr.heap.size (by simp)).trans (heap_alloc_new wr _); have ⟨⟨y0, y1, y2, y3, y4, y5⟩, _⟩ := keep6 hf1; have hk1 := (hb1.block w.heap.size (by simp; have := HL.out; omega)).trans (hkf.out _); have ⟨j0, _⟩ := keep1 hk1; have hB1 := (HA1.out _).trans (hb1.mono (HA1.out _).size))
          | (go_at_call 50; refine (CT1.out _ hB1).mono ?_; rintro e w2 ⟨⟨ta, tca, tc, tcc, rfl, _⟩, hb2⟩; have hf2 := (hb2.block wr.heap.size (by have := hb1.size; simp at this; omega)).trans hf1; have ⟨⟨z0, z1, z2, z3, z4, z5⟩, _⟩ := keep6 hf2; have hk2 := (hb2.block w.heap.size (by have := hb1.size; have := HL.out; simp at *; omega)).trans hk1; have hB2 := hB1.trans (hb2.mono hB1.size)))
            go_ret
            exact ⟨ret_bool (by rw [hfs.out, all_no hm.out hst.out ho.out]; rfl), hB2⟩
          have q2 : (xs != 0) = false := by simp [bne, he2]
          cases e1
          · have q1 : ¬ xc = 0 := by simpa using he1
            have ho := Lib.hid HFB.out
            go_wp2_with (first
          | (go_at_call 105; refine (C3.out _).mono ?_; rintro e w' ⟨rfl, rfl⟩)
          | (go_at_call 180; refine (CF1.out _ (HA1.out _)).mono ?_; rintro e w1 ⟨rfl, hb1⟩; have hf1 := (hb1.block wr.heap.size (by simp)).trans (heap_alloc_new wr _); have ⟨⟨y0, y1, y2, y3, y4, y5⟩, _⟩ := keep6 hf1; have hk1 := (hb1.block w.heap.size (by simp; have := HL.out; omega)).trans (hkf.out _); have ⟨j0, _⟩ := keep1 hk1; have hB1 := (HA1.out _).trans (hb1.mono (HA1.out _).size))
          | (go_at_call 50; refine (CT1.out _ hB1).mono ?_; rintro e w2 ⟨⟨ta, tca, tc, tcc, rfl, _⟩, hb2⟩; have hf2 := (hb2.block wr.heap.size (by have := hb1.size; simp at this; omega)).trans hf1; have ⟨⟨z0, z1, z2, z3, z4, z5⟩, _⟩ := keep6 hf2; have hk2 := (hb2.block w.heap.size (by have := hb1.size; have := HL.out; simp at *; omega)).trans hk1; have hB2 := hB1.trans (hb2.mono hB1.size)))
            go_ret
            exact ⟨ret_bool (by rw [hfs.out, all_no hm.out hst.out ho.out]; rfl), hB2⟩
          have q1 : (xc != 0) = false := by simp [bne, he1]
          have ho := Lib.hid HFB.out
          go_wp2_with (first
          | (go_at_call 105; refine (C3.out _).mono ?_; rintro e w' ⟨rfl, rfl⟩)
          | (go_at_call 180; refine (CF1.out _ (HA1.out _)).mono ?_; rintro e w1 ⟨rfl, hb1⟩; have hf1 := (hb1.block wr.heap.size (by simp)).trans (heap_alloc_new wr _); have ⟨⟨y0, y1, y2, y3, y4, y5⟩, _⟩ := keep6 hf1; have hk1 := (hb1.block w.heap.size (by simp; have := HL.out; omega)).trans (hkf.out _); have ⟨j0, _⟩ := keep1 hk1; have hB1 := (HA1.out _).trans (hb1.mono (HA1.out _).size))
          | (go_at_call 50; refine (CT1.out _ hB1).mono ?_; rintro e w2 ⟨⟨ta, tca, tc, tcc, rfl, _⟩, hb2⟩; have hf2 := (hb2.block wr.heap.size (by have := hb1.size; simp at this; omega)).trans hf1; have ⟨⟨z0, z1, z2, z3, z4, z5⟩, _⟩ := keep6 hf2; have hk2 := (hb2.block w.heap.size (by have := hb1.size; have := HL.out; simp at *; omega)).trans hk1; have hB2 := hB1.trans (hb2.mono hB1.size)))
          go_roundw
          case rel => exact ⟨i + 1, by omega, Lib.hid (all_yes hm.out hst.out ho.out), by go_num, hk2, hB2⟩
          case measure => simp [intOf]; omega
        · cases sz
          · have ho := Lib.hid HFB.out
            go_wp2_with (first
          | (go_at_call 105; refine (C3.out _).mono ?_; rintro e w' ⟨rfl, rfl⟩)
          | (go_at_call 180; refine (CF1.out _ (HA1.out _)).mono ?_; rintro e w1 ⟨rfl, hb1⟩; have hf1 := (hb1.block wr.heap.size (by simp)).trans (heap_alloc_new wr _); have ⟨⟨y0, y1, y2, y3, y4, y5⟩, _⟩ := keep6 hf1; have hk1 := (hb1.block w.heap.size (by simp; have := HL.out; omega)).trans (hkf.out _); have ⟨j0, _⟩ := keep1 hk1; have hB1 := (HA1.out _).trans (hb1.mono (HA1.out _).size))
          | (go_at_call 50; refine (CT1.out _ hB1).mono ?_; rintro e w2 ⟨⟨ta, tca, tc, tcc, rfl, _⟩, hb2⟩; have hf2 := (hb2.block wr.heap.size (by have := hb1.size; simp at this; omega)).trans hf1; have ⟨⟨z0, z1, z2, z3, z4, z5⟩, _⟩ := keep6 hf2; have hk2 := (hb2.block w.heap.size (by have := hb1.size; have := HL.out; simp at *; omega)).trans hk1; have hB2 := hB1.trans (hb2.mono hB1.size)))
            go_ret
            exact ⟨ret_bool (by rw [hfs.out, all_no hm.out hst.out ho.out]; rfl), hB2⟩
          have ho := Lib.hid HFB.out
          go_wp2_with (first
          | (go_at_call 105; refine (C3.out _).mono ?_; rintro e w' ⟨rfl, rfl⟩)
          | (go_at_call 180; refine (CF1.out _ (HA1.out _)).mono ?_; rintro e w1 ⟨rfl, hb1⟩; have hf1 := (hb1.block wr.heap.size (by simp)).trans (heap_alloc_new wr _); have ⟨⟨y0, y1, y2, y3, y4, y5⟩, _⟩ := keep6 hf1; have hk1 := (hb1.block w.heap.size (by simp; have := HL.out; omega)).trans (hkf.out _); have ⟨j0, _⟩ := keep1 hk1; have hB1 := (HA1.out _).trans (hb1.mono (HA1.out _).size))
          | (go_at_call 50; refine (CT1.out _ hB1).mono ?_; rintro e w2 ⟨⟨ta, tca, tc, tcc, rfl, _⟩, hb2⟩; have hf2 := (hb2.block wr.heap.size (by have := hb1.size; simp at this; omega)).trans hf1; have ⟨⟨z0, z1, z2, z3, z4, z5⟩, _⟩ := keep6 hf2; have hk2 := (hb2.block w.heap.size (by have := hb1.size; have := HL.out; simp at *; omega)).trans hk1; have hB2 := hB1.trans (hb2.mono hB1.size)))
          go_roundw
          case rel => exact ⟨i + 1, by omega, Lib.hid (all_yes hm.out hst.out ho.out), by go_num, hk2, hB2⟩
          case measure => simp [intOf]; omega
    · obtain rfl : i = l.length := by omega
      have hf : Hid (fieldsB s l = (decide (1 ≤ l.length) && decide (l.length ≤ 8))) := Lib.hid (by unfold fieldsB; rw [hm.out, List.drop_length]; rfl)
      clear hlt hb
      by_cases q1 : 1 ≤ l.length
      · have q1i : 1 ≤ (l.length : Int) := by omega
        by_cases q2 : l.length ≤ 8
        · have q2i : (l.length : Int) ≤ 8 := by omega
          have hf2 : Hid (fieldsB s l = true) := Lib.hid (by rw [hf.out]; simp [q1, q2])
          clear hf
          go_wp2_with fail
          go_ret
          exact ⟨ret_bool hf2.out.symm, HB.out⟩
        · have q2i : ¬ (l.length : Int) ≤ 8 := by omega
          have q2j : (8 : Int) < (l.length : Int) := by omega
          have hf2 : Hid (fieldsB s l = false) := Lib.hid (by rw [hf.out]; simp [q2])
          clear hf q2
          go_wp2_with fail
          go_ret
          exact ⟨ret_bool hf2.out.symm, HB.out⟩
      · have q1i : ¬ 1 ≤ (l.length : Int) := by omega
        have q1j : (l.length : Int) < 1 := by omega
        have hf2 : Hid (fieldsB s l = false) := Lib.hid (by rw [hf.out]; simp [q1])
        clear hf q1
        go_wp2_with fail
        go_ret
        exact ⟨ret_bool hf2.out.symm, HB.out⟩
end Go.Proofs.YtceabbbmgfeofaaGreatDoor.Rw
