/-
  Contracts: slices.Index over texts; the three kinds' right; of what was there nothing is changed. Conditions: in memory; a map of kinds.
-/
import Derived.Test.YtceabbbmgfeofaaGreatDoorRows
import Derived.Test.YtceabbbmgfeofaaGreatDoorKindB
namespace Go.Proofs.YtceabbbmgfeofaaGreatDoor.Rw
open Go.RowKit Words Go.Maps
set_option linter.unusedVariables false
set_option maxRecDepth 100000

theorem World.ownsMap.same {w w' : World} {b n : Nat} {D : DataW Value} (h : OwnK w b n D) (e : w'.heap[b]? = w.heap[b]?) : OwnK w' b n D := by
  obtain ⟨es, clock, hb, F, hs, hD⟩ := h
  exact ⟨es, clock, e.trans hb, F, hs, hD⟩
/-- The place of the first text that is this one, or -1. -/
def findT (nm : ByteArray) : List ByteArray → Nat → Int
  | [], _ => -1
  | x :: l, k => if x = nm then (k : Int) else findT nm l (k + 1)
theorem findT_hit {nm : ByteArray} {l : List ByteArray} {i : Nat} {x : ByteArray} (h : l[i]? = some x) (hx : x = nm) : findT nm (l.drop i) i = i := by
  obtain ⟨hl, rfl⟩ := List.getElem?_eq_some_iff.1 h
  rw [List.drop_eq_getElem_cons hl, findT, if_pos hx]
theorem findT_miss {nm : ByteArray} {l : List ByteArray} {i : Nat} {x : ByteArray} (h : l[i]? = some x) (hx : x ≠ nm) : findT nm (l.drop i) i = findT nm (l.drop (i + 1)) (i + 1) := by
  obtain ⟨hl, rfl⟩ := List.getElem?_eq_some_iff.1 h
  rw [List.drop_eq_getElem_cons hl, findT, if_neg hx]

theorem implIndex (w : World) (A B : Nat) (a : Option Addr) (len cap : Nat) (l : List ByteArray) (nm : ByteArray) (hn : OkS nm) (hs : TextsAt w A B a len l) (hB : B ≤ w.heap.size) :
    Calls Tryz.prog 143 #[.slice a len cap, .string nm] w fun e w' => e = .returned (.int .i64 (findT nm l 0)) ∧ Below w.heap.size w w' := by
  have hlen := hs.2.1
  have HS := Lib.hid hs
  unfold OkS at hn
  obtain ⟨hll, _⟩ := hs
  subst hll
  go_enter Tryz.func143, Tryz.ntmps143
  go_wp2_with fail
  go_loopw [8] (fun i wr => ∃ (i' : Nat), i' ≤ l.length ∧ Hid (findT nm l 0 = findT nm (l.drop i') i') ∧ i = .int .i64 i' ∧ Below w.heap.size w wr) (fun i _ => l.length - (intOf i).toNat)
  case atStart => exact ⟨0, by omega, Lib.hid (by rw [List.drop_zero]), rfl, Below.refl _ _⟩
  case round =>
    obtain ⟨i, hi, hm, rfl, hb⟩ := hrel
    have HB := Lib.hid hb
    by_cases hlt : i < l.length
    · have hli : (i : Int) < (l.length : Int) := by omega
      obtain ⟨x, b, off, hd, rfl, hA, hbb, hok, hc⟩ := (HS.out.below textLies (Nat.le_refl _) (hb.mono hB)).at hlt
      rw [Nat.mul_one] at hc
      by_cases hx : nm = x
      · have hf := Lib.hid (hm.out.trans (findT_hit hd hx.symm))
        subst hx
        clear hlt hd hb hok
        go_wp2_with fail
        go_ret
        exact ⟨ret_i hf.out.symm, HB.out⟩
      · have hn1 := toList_ne hx
        have hn2 := toList_beq hx
        have hrel := Lib.hid (hm.out.trans (findT_miss hd (fun e => hx e.symm)))
        clear hlt hd hb hok
        go_wp2_with fail
        go_roundw
        case rel => exact ⟨i + 1, by omega, hrel, by go_num, HB.out⟩
        case measure => simp [intOf]; omega
    · obtain rfl : i = l.length := by omega
      have hf : Hid (findT nm l 0 = -1) := Lib.hid (by rw [hm.out, List.drop_length]; rfl)
      clear hlt hb
      go_wp2_with fail
      go_ret
      exact ⟨ret_i hf.out.symm, HB.out⟩

theorem implLeaf (w : World) (x : TypeP) (hk : x.ok) (a : Option Addr) (ca : Nat) (c : Option Addr) (cc : Nat) (hl1 : x.fields.length ≤ 9223372036854775807) (hl2 : x.members.length ≤ 9223372036854775807) (mv : Value) :
    Calls Tryz.prog 280 #[.agg (x.cells a ca c cc).toArray, mv] w fun e w' => e = .returned (.bool (leafB x)) ∧ Below w.heap.size w w' := by
  obtain ⟨nm, kd, by_, fs, ms⟩ := x
  obtain ⟨hk, ⟨hs1, hs2⟩, hs3, hs4⟩ := hk
  simp only [TypeP.cells] at hs1 hs2 hs3 hs4 hl1 hl2 ⊢
  have HA : Hid (∀ o, Below w.heap.size w (w.alloc o)) := Lib.hid fun o => (Below.refl _ _).alloc (Nat.le_refl _) o
  obtain ⟨e2, he2⟩ : ∃ p, ((fs.length : Int) == 0) = p := ⟨_, rfl⟩
  obtain ⟨e3, he3⟩ : ∃ p, ((ms.length : Int) == 0) = p := ⟨_, rfl⟩
  have hf := Lib.hid (show leafB ⟨nm, kd, by_, fs, ms⟩ = (((decide (0 ≤ by_) && decide (by_ ≤ 100)) && e2) && e3) by unfold leafB; simp only [he2, he3])
  by_cases p1 : 0 ≤ by_
  · by_cases p2 : by_ ≤ 100
    · have hf2 := Lib.hid (show leafB ⟨nm, kd, by_, fs, ms⟩ = (e2 && e3) by rw [hf.out]; simp [p1, p2])
      cases e2
      · go_enter Tryz.func280, Tryz.ntmps280
        go_wp2_with fail
        go_ret
        exact ⟨ret_bool hf2.out.symm, HA.out _⟩
      · go_enter Tryz.func280, Tryz.ntmps280
        go_wp2_with fail
        go_ret
        exact ⟨ret_bool (by rw [hf2.out]; simp), HA.out _⟩
    · have hf2 := Lib.hid (show leafB ⟨nm, kd, by_, fs, ms⟩ = false by rw [hf.out]; simp [p2])
      have p2b : decide (by_ ≤ 100) = false := decide_eq_false p2
      go_enter Tryz.func280, Tryz.ntmps280
      go_wp2_with fail
      go_ret
      exact ⟨ret_bool hf2.out.symm, HA.out _⟩
  · have hf2 := Lib.hid (show leafB ⟨nm, kd, by_, fs, ms⟩ = false by rw [hf.out]; simp [p1])
    have p1b : decide (0 ≤ by_) = false := decide_eq_false p1
    go_enter Tryz.func280, Tryz.ntmps280
    go_wp2_with fail
    go_ret
    exact ⟨ret_bool hf2.out.symm, HA.out _⟩

noncomputable def fieldI (s : List TypeP) (l : List FieldP) (i : Nat) (f : FieldP) : Bool := frB s f && (findF f.name l 0 == (i : Int))
noncomputable def fieldsI (s : List TypeP) (l : List FieldP) : List FieldP → Nat → Bool
  | [], _ => true
  | x :: r, i => fieldI s l i x && fieldsI s l r (i + 1)
theorem fieldsI_drop {s : List TypeP} {l : List FieldP} {i : Nat} {x : FieldP} (h : l[i]? = some x) : fieldsI s l (l.drop i) i = (fieldI s l i x && fieldsI s l (l.drop (i + 1)) (i + 1)) := by
  obtain ⟨hl, rfl⟩ := List.getElem?_eq_some_iff.1 h
  rw [List.drop_eq_getElem_cons hl, fieldsI]
noncomputable def objI (s : List TypeP) (t : TypeP) : Bool := (((decide (1 ≤ t.fields.length) && decide (t.fields.length ≤ 8)) && (t.bytes == 0)) && ((t.members.length : Int) == 0)) && fieldsI s t.fields t.fields 0

set_option maxHeartbeats 4000000 in
theorem implObj (w : World) (A B : Nat) (x : TypeP) (a : Option Addr) (ca : Nat) (c : Option Addr) (cc : Nat) (hx : TypeAt w A B (.agg (x.cells a ca c cc).toArray) x) (b n : Nat) (D : DataW Value) (s : List TypeP) (hD : KD w A B s D) (ho : OwnK w b n D) (hB : B ≤ w.heap.size) :
    Calls Tryz.prog 258 #[.agg (x.cells a ca c cc).toArray, .map (some b)] w fun e w' => e = .returned (.bool (objI s x)) ∧ Below w.heap.size w w' := by
  obtain ⟨a', ca', c', cc', hve, hk, ⟨h2, hca⟩, h3, hcc⟩ := hx
  obtain ⟨nm, kd, by_, fs, ms⟩ := x
  obtain ⟨hk, ⟨hs1, hs2⟩, hs3, hs4⟩ := hk
  simp [TypeP.cells] at hve
  obtain ⟨⟨rfl, rfl⟩, rfl, rfl⟩ := hve
  simp only [TypeP.cells] at hs1 hs2 hs3 hs4 h2 h3 hca hcc ⊢
  have HF := Lib.hid h2
  have hfl := h2.2.1
  have hml := h3.2.1
  have hbl := ho.lt
  have HD := Lib.hid hD
  have HO := Lib.hid ho
  have HA : Hid (∀ o, Below w.heap.size w (w.alloc o)) := Lib.hid fun o => (Below.refl _ _).alloc (Nat.le_refl _) o
  have CF : Hid (∀ (w' : World) (f : FieldP), f.ok → Below w.heap.size w w' → Calls Tryz.prog 262 #[.agg f.cells.toArray, .map (some b)] w' fun e w'' => e = .returned (.bool (frB s f)) ∧ Below w'.heap.size w' w'') := Lib.hid fun w' f hf g => implFieldRight w' A B f hf b n D s (HD.out.below hB g) (World.ownsMap.same HO.out (g.block b hbl)) (Nat.le_trans hB g.size)
  have CP : Hid (∀ (w' : World) (nm : ByteArray), OkS nm → Below w.heap.size w w' → Calls Tryz.prog 260 #[.slice a fs.length ca, .string nm] w' fun e w'' => e = .returned (.int .i64 (findF nm fs 0)) ∧ Below w'.heap.size w' w'') := Lib.hid fun w' nm hn g => implPlace w' A B a _ ca fs nm hn (HF.out.below fieldLies hB g) (Nat.le_trans hB g.size)
  obtain ⟨e1, he1⟩ : ∃ p, (by_ == 0) = p := ⟨_, rfl⟩
  obtain ⟨e3, he3⟩ : ∃ p, ((ms.length : Int) == 0) = p := ⟨_, rfl⟩
  have hf := Lib.hid (show objI s ⟨nm, kd, by_, fs, ms⟩ = ((((decide (1 ≤ fs.length) && decide (fs.length ≤ 8)) && e1) && e3) && fieldsI s fs fs 0) by unfold objI; simp only [he1, he3])
  clear hD ho h2 h3
  by_cases p1 : fs.length < 1
  · have hf2 := Lib.hid (show objI s ⟨nm, kd, by_, fs, ms⟩ = false by rw [hf.out]; simp [show ¬ 1 ≤ fs.length by omega])
    have p1i : (fs.length : Int) < 1 := by omega
    clear p1
    go_enter Tryz.func258, Tryz.ntmps258
    go_wp2_with fail
    go_ret
    exact ⟨ret_bool hf2.out.symm, HA.out _⟩
  have p1i : ¬ (fs.length : Int) < 1 := by omega
  by_cases p2 : 8 < fs.length
  · have hf2 := Lib.hid (show objI s ⟨nm, kd, by_, fs, ms⟩ = false by rw [hf.out]; simp [show ¬ fs.length ≤ 8 by omega])
    have p2i : (8 : Int) < (fs.length : Int) := by omega
    clear p1 p2
    go_enter Tryz.func258, Tryz.ntmps258
    go_wp2_with fail
    go_ret
    exact ⟨ret_bool hf2.out.symm, HA.out _⟩
  have p2i : ¬ (8 : Int) < (fs.length : Int) := by omega
  have hf2 := Lib.hid (show objI s ⟨nm, kd, by_, fs, ms⟩ = ((e1 && e3) && fieldsI s fs fs 0) by rw [hf.out]; simp [show 1 ≤ fs.length by omega, show fs.length ≤ 8 by omega])
  clear hf p1 p2
  cases e1
  · have q1 : ¬ by_ = 0 := by simpa using he1
    go_enter Tryz.func258, Tryz.ntmps258
    go_wp2_with fail
    go_ret
    exact ⟨ret_bool hf2.out.symm, HA.out _⟩
  have q1 : (by_ != 0) = false := by simp [bne, he1]
  cases e3
  · have q3 : ¬ (ms.length : Int) = 0 := by simpa using he3
    have q3b : ((ms.length : Int) != 0) = true := by simp [bne, he3]
    go_enter Tryz.func258, Tryz.ntmps258
    go_wp2_with fail
    go_ret
    exact ⟨ret_bool hf2.out.symm, HA.out _⟩
  have q3 : ((ms.length : Int) != 0) = false := by simp [bne, he3]
  go_enter Tryz.func258, Tryz.ntmps258
  go_wp2_with fail
  have k0 := heap_alloc_new w (.cells #[.string nm, .int .i64 kd, .int .i64 by_, .slice a fs.length ca, .slice c ms.length cc] 91)
  go_loopw [31] (fun i wr => ∃ (i' : Nat), i' ≤ fs.length ∧ Hid (fieldsI s fs fs 0 = fieldsI s fs (fs.drop i') i') ∧ i = .int .i64 i' ∧ wr.heap[w.heap.size]? = some (.cells #[.string nm, .int .i64 kd, .int .i64 by_, .slice a fs.length ca, .slice c ms.length cc] 91 (0, 0)) ∧ Below w.heap.size w wr) (fun i _ => fs.length - (intOf i).toNat)
  case atStart => exact ⟨0, by omega, Lib.hid (by rw [List.drop_zero]), rfl, k0, HA.out _⟩
  case round =>
    obtain ⟨i, hi, hm, rfl, hk0, hb⟩ := hrel
    have HB := Lib.hid hb
    clear k0
    by_cases hlt : i < fs.length
    · have hli : (i : Int) < (fs.length : Int) := by omega
      obtain ⟨f, fb, off, hd, rfl, hA, hbb, hok, hc⟩ := (HF.out.below fieldLies (Nat.le_refl _) (hb.mono hB)).at hlt
      obtain ⟨c0, c1, c2, c3, c4, c5⟩ := row6 hc
      have hst := Lib.hid (fieldsI_drop (s := s) hd)
      obtain ⟨r1, hr1⟩ : ∃ p, frB s f = p := ⟨_, rfl⟩
      obtain ⟨nF, hnF⟩ : ∃ p, findF f.name fs 0 = p := ⟨_, rfl⟩
      obtain ⟨r2, hr2⟩ : ∃ p, (nF == (i : Int)) = p := ⟨_, rfl⟩
      have HFI := Lib.hid (show fieldI s fs i f = (r1 && r2) by unfold fieldI; rw [hr1, hnF, hr2])
      have HAA : Hid (∀ o, Below w.heap.size w (wr.alloc o)) := Lib.hid fun o => HB.out.alloc HB.out.size o
      have C1 : Hid (∀ o, Calls Tryz.prog 262 #[.agg #[.string f.name, .string f.typ, .bool f.list, .bool f.must, .int .i64 f.size, .int .i64 f.cap], .map (some b)] (wr.alloc o) fun e w' => e = .returned (.bool r1) ∧ Below (wr.alloc o).heap.size (wr.alloc o) w') := Lib.hid fun o => by rw [← hr1]; exact CF.out _ f hok (HAA.out o)
      have C2 : Hid (∀ w', Below w.heap.size w w' → Calls Tryz.prog 260 #[.slice (some ⟨fb, off, none⟩) fs.length ca, .string f.name] w' fun e w'' => e = .returned (.int .i64 nF) ∧ Below w'.heap.size w' w'') := Lib.hid fun w' g => by rw [← hnF]; exact CP.out w' f.name hok.1 g
      have hl0 := lt_of_get hk0
      have hkf := Lib.hid ((Go.Deep.blk_alloc_lt wr (.cells #[.string f.name, .string f.typ, .bool f.list, .bool f.must, .int .i64 f.size, .int .i64 f.cap] 50) w.heap.size hl0).trans hk0)
      have hnew := Lib.hid (heap_alloc_new wr (.cells #[.string f.name, .string f.typ, .bool f.list, .bool f.must, .int .i64 f.size, .int .i64 f.cap] 50))
      clear hr1 hnF hok hc hd hb hlt
      cases r1
      · have ho := Lib.hid (show fieldI s fs i f = false from HFI.out)
        go_wp2_with (first
          | (go_at_call 262; refine (C1.out _).mono ?_; rintro e w1 ⟨rfl, hb1⟩))
        go_ret
        exact ⟨ret_bool (by rw [hf2.out, all_no hm.out hst.out ho.out]; rfl), (HAA.out _).trans (hb1.mono (HAA.out _).size)⟩
      cases r2
      · have n2 : ¬ nF = (i : Int) := by simpa using hr2
        have n2b : (nF != (i : Int)) = true := by simp [bne, hr2]
        have ho := Lib.hid (show fieldI s fs i f = false from HFI.out)
        go_wp2_with (first
          | (go_at_call 262; refine (C1.out _).mono ?_; rintro e w1 ⟨rfl, hb1⟩; have hk1 := (hb1.block w.heap.size (by simp; omega)).trans hkf.out; have hn1 := (hb1.block wr.heap.size (by simp)).trans hnew.out; have ⟨⟨y0, y1, y2, y3, y4⟩, _⟩ := keep5 hk1; have ⟨⟨z0, z1, z2, z3, z4, z5⟩, _⟩ := keep6 hn1; have hB1 := (HAA.out _).trans (hb1.mono (HAA.out _).size))
          | (go_at_call 260; refine (C2.out _ hB1).mono ?_; rintro e w2 ⟨rfl, hb2⟩))
        go_ret
        exact ⟨ret_bool (by rw [hf2.out, all_no hm.out hst.out ho.out]; rfl), hB1.trans (hb2.mono hB1.size)⟩
      · have n2b : (nF != (i : Int)) = false := by simp [bne, hr2]
        have ho := Lib.hid (show fieldI s fs i f = true from HFI.out)
        go_wp2_with (first
          | (go_at_call 262; refine (C1.out _).mono ?_; rintro e w1 ⟨rfl, hb1⟩; have hk1 := (hb1.block w.heap.size (by simp; omega)).trans hkf.out; have hn1 := (hb1.block wr.heap.size (by simp)).trans hnew.out; have ⟨⟨y0, y1, y2, y3, y4⟩, _⟩ := keep5 hk1; have ⟨⟨z0, z1, z2, z3, z4, z5⟩, _⟩ := keep6 hn1; have hB1 := (HAA.out _).trans (hb1.mono (HAA.out _).size))
          | (go_at_call 260; refine (C2.out _ hB1).mono ?_; rintro e w2 ⟨rfl, hb2⟩))
        have hk2 := (hb2.block w.heap.size (lt_of_get hk1)).trans hk1
        have hB2 := hB1.trans (hb2.mono hB1.size)
        go_roundw
        case rel => exact ⟨i + 1, by omega, Lib.hid (all_yes hm.out hst.out ho.out), by go_num, hk2, hB2⟩
        case measure => simp [intOf]; omega
    · obtain rfl : i = fs.length := by omega
      have hf3 := Lib.hid (show objI s ⟨nm, kd, by_, fs, ms⟩ = true by rw [hf2.out, hm.out, List.drop_length]; rfl)
      clear hlt hb
      go_wp2_with fail
      go_ret
      exact ⟨ret_bool hf3.out.symm, HB.out⟩
end Go.Proofs.YtceabbbmgfeofaaGreatDoor.Rw
