/-
  Bounds, plainly, and as an argument; contracts: laws.toBounds, impl.measuresOf; of what was there nothing is changed. Conditions: numbers of int64.
-/
import Derived.Test.YtaciekepbkoogaaRows
import Derived.Test.YtaciekepbkoogaaRow
import Derived.ChangeArms
import Derived.ChangeShapes
import Derived.WideShapes
import Derived.OpenShut
namespace Go.Proofs.Ytaciekepbkoogaa.Bnd
open Go.RowKit Go.ChangeShapes Go.WideShapes Rw
set_option linter.unusedVariables false
set_option maxRecDepth 100000

structure BP where
  d : Int
  c : Int
  n : Int
  b : Int
def BP.ok (x : BP) : Prop := OkI x.d ∧ OkI x.c ∧ OkI x.n ∧ OkI x.b
def BP.val (x : BP) : Value := .agg #[.int .i64 x.d, .int .i64 x.c, .int .i64 x.n, .int .i64 x.b]
theorem coI : Try.prog.cellsOf 2 = 1 := by kernel_rfl
theorem coB : Try.prog.cellsOf 23 = 4 := by kernel_rfl
section
variable {H : Type} {enc : TypeId × Value → H} {w : World} {sp : Nat → Bool} {hd : Bool}
theorem fldB {m off : Nat} {T : TypeId} {cs : List Value} {x : Option (DataW H × List MemPlace)} {v : Value} (h : DataW.trod enc Try.prog w 0 sp hd m T ((cs.drop off).take (Try.prog.cellsOf T)) = x) (h1 : Try.prog.cellsOf T = 1) (hv : (cs.drop off).take 1 = [v]) :
    DataW.trod enc Try.prog w 0 sp hd m T [v] = x := by rw [h1, hv] at h; exact h
theorem openB {n : Nat} {cs : List Value} {y : DataW H × List MemPlace} (h : DataW.trod enc Try.prog w 0 sp hd n 23 cs = some y) : ∃ x : BP, x.ok ∧ cs = [.int .i64 x.d, .int .i64 x.c, .int .i64 x.n, .int .i64 x.b] := by
  obtain ⟨xs, m, hn, _, hl, hxl, hf⟩ := DataW.trod_struct Try.underlying23 h
  rw [coB] at hl
  match cs, hl with
  | [c0, c1, c2, c3], _ =>
    match xs, hxl with
    | [x0, x1, x2, x3], _ =>
      have h0 := fldB (T := 2) (off := 0) (v := c0) (x := some x0) (hf 0 _ rfl) coI rfl
      have h1 := fldB (T := 2) (off := 1) (v := c1) (x := some x1) (hf 1 _ rfl) coI rfl
      have h2 := fldB (T := 2) (off := 2) (v := c2) (x := some x2) (hf 2 _ rfl) coI rfl
      have h3 := fldB (T := 2) (off := 3) (v := c3) (x := some x3) (hf 3 _ rfl) coI rfl
      obtain ⟨d, e0, _, w0⟩ := DataW.trod_int Try.underlying2 h0
      obtain ⟨c, e1, _, w1⟩ := DataW.trod_int Try.underlying2 h1
      obtain ⟨n, e2, _, w2⟩ := DataW.trod_int Try.underlying2 h2
      obtain ⟨b, e3, _, w3⟩ := DataW.trod_int Try.underlying2 h3
      cases e0; cases e1; cases e2; cases e3
      exact ⟨⟨d, c, n, b⟩, ⟨bounds_i64 w0, bounds_i64 w1, bounds_i64 w2, bounds_i64 w3⟩, rfl⟩
theorem openBounds {v : Value} {d : DataW H} {ps : List MemPlace} {r : Reach} {b0 : Nat} (hv : Value.okWide Try.prog w r b0 23 v) (h : DataW.Trod enc Try.prog w 0 sp hd 23 v d ps) : ∃ x : BP, v = x.val ∧ x.ok := by
  obtain ⟨cs, rfl, hsz⟩ := okWide_struct Try.underlying23 hv
  obtain ⟨l⟩ := cs
  match l, hsz.trans coB with
  | [c0, c1, c2, c3], _ =>
    obtain ⟨fuel, hf⟩ := h
    obtain ⟨x, hx, e⟩ := openB hf
    have e2 : [c0, c1, c2, c3] = [.int .i64 x.d, .int .i64 x.c, .int .i64 x.n, .int .i64 x.b] := e
    cases e2
    exact ⟨x, rfl, hx⟩
end

theorem toBounds (w : World) (x : BP) (hx : x.ok) :
    Calls Try.prog 5 #[x.val] w fun e w' => e = .returned x.val ∧ Below w.heap.size w w' := by
  obtain ⟨d, c, n, b⟩ := x
  obtain ⟨⟨h1, h2⟩, ⟨h3, h4⟩, ⟨h5, h6⟩, h7, h8⟩ := hx
  simp only [BP.val] at *
  have HA : Hid (∀ o1 o2 o3, Below w.heap.size w (((w.alloc o1).alloc o2).alloc o3)) := Lib.hid fun o1 o2 o3 => (((Below.refl _ _).alloc (Nat.le_refl _) o1).alloc (by simp) o2).alloc (by simp; omega) o3
  go_enter Try.func5, Try.ntmps5
  go_wp2_with fail
  exact bodyPost_ret (v := .agg #[.int .i64 d, .int .i64 c, .int .i64 n, .int .i64 b]) (by simp [results, Try.results5, go_sem]) rfl ⟨rfl, HA.out _ _ _⟩

theorem keep4 {w1 : World} {g : Nat} {v0 v1 v2 v3 : Value} {T : TypeId} (h1 : w1.heap[g]? = some (.cells #[v0, v1, v2, v3] T (0, 0))) :
    (w1.cell? ⟨g, 0, none⟩ = some v0 ∧ w1.cell? ⟨g, 1, none⟩ = some v1 ∧ w1.cell? ⟨g, 2, none⟩ = some v2 ∧ w1.cell? ⟨g, 3, none⟩ = some v3) ∧ (w1.frozen? ⟨g, 0, none⟩ = false ∧ w1.frozen? ⟨g, 1, none⟩ = false ∧ w1.frozen? ⟨g, 2, none⟩ = false ∧ w1.frozen? ⟨g, 3, none⟩ = false) := by
  simp [World.cell?, World.frozen?, h1]

theorem measuresOf (w : World) (x : BP) (hx : x.ok) :
    Calls Try.prog 8 #[x.val] w fun e w' => e = .returned x.val ∧ Below w.heap.size w w' := by
  obtain ⟨d, c, n, b⟩ := x
  obtain ⟨⟨h1, h2⟩, ⟨h3, h4⟩, ⟨h5, h6⟩, h7, h8⟩ := hx
  simp only [BP.val] at *
  have HA : Hid (∀ o1 o2, Below w.heap.size w ((w.alloc o1).alloc o2)) := Lib.hid fun o1 o2 => ((Below.refl _ _).alloc (Nat.le_refl _) o1).alloc (by simp) o2
  go_enter Try.func8, Try.ntmps8
  go_wp2_with fail
  exact bodyPost_ret (v := .agg #[.int .i64 d, .int .i64 c, .int .i64 n, .int .i64 b]) (by simp [results, Try.results8, go_sem]) rfl ⟨rfl, HA.out _ _⟩
end Go.Proofs.Ytaciekepbkoogaa.Bnd
