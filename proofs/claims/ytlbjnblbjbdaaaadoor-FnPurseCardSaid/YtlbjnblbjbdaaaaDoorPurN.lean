/-
  What a new purse is, plainly; contracts: spec.PurseNew, impl.PurseNew, laws.eqPurse, laws.eqPurseOut of two alike; of what was there nothing is changed. Conditions: numbers of int64.
-/
import Derived.Test.YtlbjnblbjbdaaaaDoorRows
import Derived.Test.YtlbjnblbjbdaaaaDoorPurP
namespace Go.Proofs.YtlbjnblbjbdaaaaDoor.Pur
open Go.RowKit Rw Bnd
set_option linter.unusedVariables false
set_option maxRecDepth 100000

/-- What is told of a purse: the purse, whether it gave, and a code. -/
structure PO where
  p : BP
  y : Bool
  k : Int
def PO.val (x : PO) : Value := .agg #[.int .i64 x.p.d, .int .i64 x.p.c, .int .i64 x.p.n, .int .i64 x.p.b, .bool x.y, .int .i64 x.k]
def PO.ok (x : PO) : Prop := x.p.ok ∧ OkI x.k
def codeO (k : Int) : PO := ⟨⟨0, 0, 0, 0⟩, false, k⟩
def newO (r b t : Int) : PO := if purB ⟨r, b, b, t⟩ = true then ⟨⟨r, b, b, t⟩, false, 0⟩ else codeO 1
theorem keep6 {w1 : World} {g : Nat} {v0 v1 v2 v3 v4 v5 : Value} {T : TypeId} (h1 : w1.heap[g]? = some (.cells #[v0, v1, v2, v3, v4, v5] T (0, 0))) :
    (w1.cell? ⟨g, 0, none⟩ = some v0 ∧ w1.cell? ⟨g, 1, none⟩ = some v1 ∧ w1.cell? ⟨g, 2, none⟩ = some v2 ∧ w1.cell? ⟨g, 3, none⟩ = some v3 ∧ w1.cell? ⟨g, 4, none⟩ = some v4 ∧ w1.cell? ⟨g, 5, none⟩ = some v5) ∧ (w1.frozen? ⟨g, 0, none⟩ = false ∧ w1.frozen? ⟨g, 1, none⟩ = false ∧ w1.frozen? ⟨g, 2, none⟩ = false ∧ w1.frozen? ⟨g, 3, none⟩ = false ∧ w1.frozen? ⟨g, 4, none⟩ = false ∧ w1.frozen? ⟨g, 5, none⟩ = false) := by
  simp [World.cell?, World.frozen?, h1]
theorem kept2 {w w1 : World} {o1 o2 : Obj} (hb : Below ((w.alloc o1).alloc o2).heap.size ((w.alloc o1).alloc o2) w1) : w1.heap[w.heap.size]? = some o1 ∧ w1.heap[w.heap.size + 1]? = some o2 := by
  refine ⟨by rw [hb.block _ (by simp; omega), Go.Deep.blk_alloc_lt _ _ _ (by simp)]; exact heap_alloc_new w _, ?_⟩
  rw [hb.block _ (by simp)]
  have := heap_alloc_new (w.alloc o1) o2
  simpa using this
theorem ret_po {a b : PO} (h : a = b) : Ending.returned a.val = .returned b.val := by rw [h]
def Pval (r b l t : Int) (y : Bool) (k : Int) : Value := .agg #[.int .i64 r, .int .i64 b, .int .i64 l, .int .i64 t, .bool y, .int .i64 k]
theorem Below.put6 {w W : World} {B g : Nat} (h : Below B w W) (hg : B ≤ g) (v0 v1 v2 v3 v4 v5 : Value) : Below B w ((((((W.setCell ⟨g, 0, none⟩ v0).setCell ⟨g, 1, none⟩ v1).setCell ⟨g, 2, none⟩ v2).setCell ⟨g, 3, none⟩ v3).setCell ⟨g, 4, none⟩ v4).setCell ⟨g, 5, none⟩ v5) :=
  (((((h.setCell hg v0).setCell hg v1).setCell hg v2).setCell hg v3).setCell hg v4).setCell hg v5

set_option maxHeartbeats 4000000 in
theorem specPurseNew (w : World) (r b t : Int) (hr : OkI r) (hb : OkI b) (ht : OkI t) :
    Calls Tryd.prog 11 #[.int .i64 r, .int .i64 b, .int .i64 t] w fun e w' => e = .returned (newO r b t).val ∧ Below w.heap.size w w' := by
  have C1 : Hid (∀ w, Calls Tryd.prog 15 #[.agg #[.int .i64 r, .int .i64 b, .int .i64 b, .int .i64 t]] w fun e w' => e = .returned (.bool (purB ⟨r, b, b, t⟩)) ∧ Below w.heap.size w w') := Lib.hid fun w => specPurseRight w ⟨r, b, b, t⟩ ⟨hr, hb, hb, ht⟩
  have HO := Lib.hid (show newO r b t = if purB ⟨r, b, b, t⟩ = true then ⟨⟨r, b, b, t⟩, false, 0⟩ else codeO 1 from rfl)
  generalize newO r b t = O at *
  generalize purB ⟨r, b, b, t⟩ = T at *
  obtain ⟨hr1, hr2⟩ := hr; obtain ⟨hb1, hb2⟩ := hb; obtain ⟨ht1, ht2⟩ := ht
  have HA : Hid (∀ o1 o2, Below w.heap.size w ((w.alloc o1).alloc o2)) := Lib.hid fun o1 o2 => ((Below.refl _ _).alloc (Nat.le_refl _) o1).alloc (by simp) o2
  go_enter Tryd.func11, Tryd.ntmps11
  go_wp2_with fail
  refine (C1.out _).mono ?_
  rintro e w1 ⟨rfl, hb1⟩
  have ⟨k1, k2⟩ := kept2 hb1
  have HB1 := Lib.hid ((HA.out _ _).trans (hb1.mono (HA.out _ _).size))
  have ⟨⟨c0, c1, c2, c3, c4, c5⟩, f0, f1, f2, f3, f4, f5⟩ := keep6 k1
  have ⟨⟨d0, d1, d2, d3⟩, _⟩ := keep4 k2
  clear hb1 k1 k2
  cases T
  · have HF : Hid (O = codeO 1) := Lib.hid (by rw [HO.out]; rfl)
    go_wp2_with fail
    rw [HF.out]
    exact bodyPost_ret (v := Pval 0 0 0 0 false 1) (by simp [results, Pval, Tryd.results11, go_sem, c0, c1, c2, c3, c4, c5]) rfl ⟨rfl, Below.put6 HB1.out (Nat.le_refl _) _ _ _ _ _ _⟩
  · have HF : Hid (O = ⟨⟨r, b, b, t⟩, false, 0⟩) := Lib.hid (by rw [HO.out]; rfl)
    go_wp2_with fail
    rw [HF.out]
    exact bodyPost_ret (v := Pval r b b t false 0) (by simp [results, Pval, Tryd.results11, go_sem, c0, c1, c2, c3, c4, c5]) rfl ⟨rfl, Below.put6 HB1.out (Nat.le_refl _) _ _ _ _ _ _⟩

set_option maxHeartbeats 4000000 in
theorem implPurseNew (w : World) (r b t : Int) (hr : OkI r) (hb : OkI b) (ht : OkI t) :
    Calls Tryd.prog 10 #[.int .i64 r, .int .i64 b, .int .i64 t] w fun e w' => e = .returned (newO r b t).val ∧ Below w.heap.size w w' := by
  have C1 : Hid (∀ w, Calls Tryd.prog 14 #[.agg #[.int .i64 r, .int .i64 b, .int .i64 b, .int .i64 t]] w fun e w' => e = .returned (.bool (purB ⟨r, b, b, t⟩)) ∧ Below w.heap.size w w') := Lib.hid fun w => implPurseRight w ⟨r, b, b, t⟩ ⟨hr, hb, hb, ht⟩
  have HO := Lib.hid (show newO r b t = if purB ⟨r, b, b, t⟩ = true then ⟨⟨r, b, b, t⟩, false, 0⟩ else codeO 1 from rfl)
  generalize newO r b t = O at *
  generalize purB ⟨r, b, b, t⟩ = T at *
  obtain ⟨hr1, hr2⟩ := hr; obtain ⟨hb1, hb2⟩ := hb; obtain ⟨ht1, ht2⟩ := ht
  have HA : Hid (∀ o1 o2, Below w.heap.size w ((w.alloc o1).alloc o2)) := Lib.hid fun o1 o2 => ((Below.refl _ _).alloc (Nat.le_refl _) o1).alloc (by simp) o2
  go_enter Tryd.func10, Tryd.ntmps10
  go_wp2_with fail
  refine (C1.out _).mono ?_
  rintro e w1 ⟨rfl, hb1⟩
  have ⟨k1, k2⟩ := kept2 hb1
  have HB1 := Lib.hid ((HA.out _ _).trans (hb1.mono (HA.out _ _).size))
  have ⟨⟨c0, c1, c2, c3, c4, c5⟩, f0, f1, f2, f3, f4, f5⟩ := keep6 k1
  have ⟨⟨d0, d1, d2, d3⟩, _⟩ := keep4 k2
  clear hb1 k1 k2
  cases T
  · have HF : Hid (O = codeO 1) := Lib.hid (by rw [HO.out]; rfl)
    go_wp2_with fail
    rw [HF.out]
    exact bodyPost_ret (v := Pval 0 0 0 0 false 1) (by simp [results, Pval, Tryd.results10, go_sem, c0, c1, c2, c3, c4, c5]) rfl ⟨rfl, Below.put6 HB1.out (Nat.le_refl _) _ _ _ _ _ _⟩
  · have HF : Hid (O = ⟨⟨r, b, b, t⟩, false, 0⟩) := Lib.hid (by rw [HO.out]; rfl)
    go_wp2_with fail
    rw [HF.out]
    exact bodyPost_ret (v := Pval r b b t false 0) (by simp [results, Pval, Tryd.results10, go_sem, c0, c1, c2, c3, c4, c5]) rfl ⟨rfl, Below.put6 HB1.out (Nat.le_refl _) _ _ _ _ _ _⟩

theorem eqPurse (w : World) (x : BP) :
    Calls Tryd.prog 32 #[x.val, x.val] w fun e w' => e = .returned (.bool true) ∧ Below w.heap.size w w' := by
  obtain ⟨r, b, l, t⟩ := x
  simp only [BP.val] at *
  go_enter Tryd.func32, Tryd.ntmps32
  go_wp2_with fail
  go_ret
  exact ⟨rfl, ((Below.refl _ _).alloc (Nat.le_refl _) _).alloc (by simp) _⟩
theorem eqPurseOut (w : World) (x : PO) :
    Calls Tryd.prog 18 #[x.val, x.val] w fun e w' => e = .returned (.bool true) ∧ Below w.heap.size w w' := by
  obtain ⟨⟨r, b, l, t⟩, y, k⟩ := x
  have C1 : Hid (∀ w, Calls Tryd.prog 32 #[.agg #[.int .i64 r, .int .i64 b, .int .i64 l, .int .i64 t], .agg #[.int .i64 r, .int .i64 b, .int .i64 l, .int .i64 t]] w fun e w' => e = .returned (.bool true) ∧ Below w.heap.size w w') := Lib.hid fun w => eqPurse w ⟨r, b, l, t⟩
  have HA : Hid (∀ o1 o2, Below w.heap.size w ((w.alloc o1).alloc o2)) := Lib.hid fun o1 o2 => ((Below.refl _ _).alloc (Nat.le_refl _) o1).alloc (by simp) o2
  simp only [PO.val] at *
  go_enter Tryd.func18, Tryd.ntmps18
  go_wp2_with fail
  refine (C1.out _).mono ?_
  rintro e w1 ⟨rfl, hb1⟩
  have ⟨k1, k2⟩ := kept2 hb1
  have HB1 := Lib.hid ((HA.out _ _).trans (hb1.mono (HA.out _ _).size))
  have ⟨⟨c0, c1, c2, c3, c4, c5⟩, _⟩ := keep6 k1
  have ⟨⟨d0, d1, d2, d3, d4, d5⟩, _⟩ := keep6 k2
  clear hb1 k1 k2
  go_wp2_with fail
  go_ret
  exact ⟨rfl, HB1.out⟩
end Go.Proofs.YtlbjnblbjbdaaaaDoor.Pur
