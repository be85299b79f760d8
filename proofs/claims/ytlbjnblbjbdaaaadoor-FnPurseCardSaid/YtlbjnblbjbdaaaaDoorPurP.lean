/-
  Purses, plainly, and as an argument; contracts: laws.toPurse, spec.PurseRight, impl.isTime, impl.PurseRight; of what was there nothing is changed. Conditions: numbers of int64.
-/
import Derived.Test.YtlbjnblbjbdaaaaDoorRows
import Derived.Test.YtlbjnblbjbdaaaaDoorInB
import Derived.ChangeArms
import Derived.ChangeShapes
import Derived.WideShapes
import Derived.OpenShut
namespace Go.Proofs.YtlbjnblbjbdaaaaDoor.Pur
open Go.RowKit Go.ChangeShapes Go.WideShapes Rw Bnd
set_option linter.unusedVariables false
set_option maxRecDepth 100000

theorem coI : Tryd.prog.cellsOf 2 = 1 := by kernel_rfl
theorem coB : Tryd.prog.cellsOf 39 = 4 := by kernel_rfl
section
variable {H : Type} {enc : TypeId × Value → H} {w : World} {sp : Nat → Bool} {hd : Bool}
theorem fldB {m off : Nat} {T : TypeId} {cs : List Value} {x : Option (DataW H × List MemPlace)} {v : Value} (h : DataW.trod enc Tryd.prog w 0 sp hd m T ((cs.drop off).take (Tryd.prog.cellsOf T)) = x) (h1 : Tryd.prog.cellsOf T = 1) (hv : (cs.drop off).take 1 = [v]) :
    DataW.trod enc Tryd.prog w 0 sp hd m T [v] = x := by rw [h1, hv] at h; exact h
theorem openB {n : Nat} {cs : List Value} {y : DataW H × List MemPlace} (h : DataW.trod enc Tryd.prog w 0 sp hd n 39 cs = some y) : ∃ x : BP, x.ok ∧ cs = [.int .i64 x.d, .int .i64 x.c, .int .i64 x.n, .int .i64 x.b] := by
  obtain ⟨xs, m, hn, _, hl, hxl, hf⟩ := DataW.trod_struct Tryd.underlying39 h
  rw [coB] at hl
  match cs, hl with
  | [c0, c1, c2, c3], _ =>
    match xs, hxl with
    | [x0, x1, x2, x3], _ =>
      have h0 := fldB (T := 2) (off := 0) (v := c0) (x := some x0) (hf 0 _ rfl) coI rfl
      have h1 := fldB (T := 2) (off := 1) (v := c1) (x := some x1) (hf 1 _ rfl) coI rfl
      have h2 := fldB (T := 2) (off := 2) (v := c2) (x := some x2) (hf 2 _ rfl) coI rfl
      have h3 := fldB (T := 2) (off := 3) (v := c3) (x := some x3) (hf 3 _ rfl) coI rfl
      obtain ⟨d, e0, _, w0⟩ := DataW.trod_int Tryd.underlying2 h0
      obtain ⟨c, e1, _, w1⟩ := DataW.trod_int Tryd.underlying2 h1
      obtain ⟨n, e2, _, w2⟩ := DataW.trod_int Tryd.underlying2 h2
      obtain ⟨b, e3, _, w3⟩ := DataW.trod_int Tryd.underlying2 h3
      cases e0; cases e1; cases e2; cases e3
      exact ⟨⟨d, c, n, b⟩, ⟨bounds_i64 w0, bounds_i64 w1, bounds_i64 w2, bounds_i64 w3⟩, rfl⟩
theorem openPurse {v : Value} {d : DataW H} {ps : List MemPlace} {r : Reach} {b0 : Nat} (hv : Value.okWide Tryd.prog w r b0 39 v) (h : DataW.Trod enc Tryd.prog w 0 sp hd 39 v d ps) : ∃ x : BP, v = x.val ∧ x.ok := by
  obtain ⟨cs, rfl, hsz⟩ := okWide_struct Tryd.underlying39 hv
  obtain ⟨l⟩ := cs
  match l, hsz.trans coB with
  | [c0, c1, c2, c3], _ =>
    obtain ⟨fuel, hf⟩ := h
    obtain ⟨x, hx, e⟩ := openB hf
    have e2 : [c0, c1, c2, c3] = [.int .i64 x.d, .int .i64 x.c, .int .i64 x.n, .int .i64 x.b] := e
    cases e2
    exact ⟨x, rfl, hx⟩
end

theorem toPurse (w : World) (x : BP) (hx : x.ok) :
    Calls Tryd.prog 17 #[x.val] w fun e w' => e = .returned x.val ∧ Below w.heap.size w w' := by
  obtain ⟨d, c, n, b⟩ := x
  obtain ⟨⟨h1, h2⟩, ⟨h3, h4⟩, ⟨h5, h6⟩, h7, h8⟩ := hx
  simp only [BP.val] at *
  have HA : Hid (∀ o1 o2 o3, Below w.heap.size w (((w.alloc o1).alloc o2).alloc o3)) := Lib.hid fun o1 o2 o3 => (((Below.refl _ _).alloc (Nat.le_refl _) o1).alloc (by simp) o2).alloc (by simp; omega) o3
  go_enter Tryd.func17, Tryd.ntmps17
  go_wp2_with fail
  exact bodyPost_ret (v := .agg #[.int .i64 d, .int .i64 c, .int .i64 n, .int .i64 b]) (by simp [results, Tryd.results17, go_sem]) rfl ⟨rfl, HA.out _ _ _⟩

/-- Is this purse right? -/
def purB (x : BP) : Bool := inB x.d 0 1000 && (inB x.c 0 10000 && (inB x.n 0 x.c && inB x.b 0 1000000))
theorem purB_bounds {x : BP} (h : purB x = true) : (0 ≤ x.d ∧ x.d ≤ 1000) ∧ (0 ≤ x.c ∧ x.c ≤ 10000) ∧ (0 ≤ x.n ∧ x.n ≤ x.c) ∧ 0 ≤ x.b ∧ x.b ≤ 1000000 := by
  simp only [purB, inB, Bool.and_eq_true, decide_eq_true_eq] at h
  obtain ⟨⟨a1, a2⟩, ⟨b1, b2⟩, ⟨c1, c2⟩, d1, d2⟩ := h
  exact ⟨⟨a1, a2⟩, ⟨b1, b2⟩, ⟨c1, c2⟩, d1, d2⟩

set_option maxHeartbeats 4000000 in
theorem specPurseRight (w : World) (x : BP) (hx : x.ok) :
    Calls Tryd.prog 15 #[x.val] w fun e w' => e = .returned (.bool (purB x)) ∧ Below w.heap.size w w' := by
  obtain ⟨d, c, n, b⟩ := x
  have HT := Lib.hid (show purB ⟨d, c, n, b⟩ = (inB d 0 1000 && (inB c 0 10000 && (inB n 0 c && inB b 0 1000000))) from rfl)
  generalize purB ⟨d, c, n, b⟩ = T at *
  have C1 : Hid (∀ w, Calls Tryd.prog 28 #[.int .i64 d, .int .i64 0, .int .i64 1000] w fun e w' => e = .returned (.bool (inB d 0 1000)) ∧ w = w') := Lib.hid fun w => specIn _ _ _ hx.1 (by unfold OkI; omega) (by unfold OkI; omega) _
  have C2 : Hid (∀ w, Calls Tryd.prog 28 #[.int .i64 c, .int .i64 0, .int .i64 10000] w fun e w' => e = .returned (.bool (inB c 0 10000)) ∧ w = w') := Lib.hid fun w => specIn _ _ _ hx.2.1 (by unfold OkI; omega) (by unfold OkI; omega) _
  have C3 : Hid (∀ w, Calls Tryd.prog 28 #[.int .i64 n, .int .i64 0, .int .i64 c] w fun e w' => e = .returned (.bool (inB n 0 c)) ∧ w = w') := Lib.hid fun w => specIn _ _ _ hx.2.2.1 (by unfold OkI; omega) hx.2.1 _
  have C4 : Hid (∀ w, Calls Tryd.prog 28 #[.int .i64 b, .int .i64 0, .int .i64 1000000] w fun e w' => e = .returned (.bool (inB b 0 1000000)) ∧ w = w') := Lib.hid fun w => specIn _ _ _ hx.2.2.2 (by unfold OkI; omega) (by unfold OkI; omega) _
  clear hx
  simp only [BP.val] at *
  have HA : Hid (∀ o1, Below w.heap.size w (w.alloc o1)) := Lib.hid fun o1 => (Below.refl _ _).alloc (Nat.le_refl _) o1
  generalize inB d 0 1000 = B1 at *
  generalize inB c 0 10000 = B2 at *
  generalize inB n 0 c = B3 at *
  generalize inB b 0 1000000 = B4 at *
  go_enter Tryd.func15, Tryd.ntmps15
  cases B1
  case' true => cases B2
  case' true.true => cases B3
  all_goals
    go_wp2_with (first
      | (go_at_call 28; with_reducible refine (C1.out _).mono ?_; rintro e w' ⟨rfl, rfl⟩)
      | (go_at_call 28; with_reducible refine (C2.out _).mono ?_; rintro e w' ⟨rfl, rfl⟩)
      | (go_at_call 28; with_reducible refine (C3.out _).mono ?_; rintro e w' ⟨rfl, rfl⟩)
      | (go_at_call 28; with_reducible refine (C4.out _).mono ?_; rintro e w' ⟨rfl, rfl⟩))
    go_ret
    exact ⟨ret_b (by rw [HT.out]; simp), HA.out _⟩

theorem implIsTime (n : Int) (hn : OkI n) (w : World) :
    Calls Tryd.prog 31 #[.int .i64 n] w fun e w' => e = .returned (.bool (inB n 0 1000000)) ∧ w = w' := by
  obtain ⟨hn1, hn2⟩ := hn
  unfold inB
  go_enter Tryd.func31, Tryd.ntmps31
  by_cases h1 : 0 ≤ n
  · by_cases h2 : n ≤ 1000000
    · go_wp2_with fail
      go_ret
      exact ⟨by simp [h1, h2], by trivial⟩
    · have h2' : 1000000 < n := by omega
      go_wp2_with fail
      go_ret
      exact ⟨by simp [h2], by trivial⟩
  · have h1' : n < 0 := by omega
    have h2 : decide (0 ≤ n) = false := by simp [h1]
    go_wp2_with fail
    go_ret
    exact ⟨rfl, by trivial⟩

set_option maxHeartbeats 4000000 in
theorem implPurseRight (w : World) (x : BP) (hx : x.ok) :
    Calls Tryd.prog 14 #[x.val] w fun e w' => e = .returned (.bool (purB x)) ∧ Below w.heap.size w w' := by
  obtain ⟨d, c, n, b⟩ := x
  have HT := Lib.hid (show purB ⟨d, c, n, b⟩ = (inB d 0 1000 && (inB c 0 10000 && (inB n 0 c && inB b 0 1000000))) from rfl)
  generalize purB ⟨d, c, n, b⟩ = T at *
  have C4 : Hid (∀ w, Calls Tryd.prog 31 #[.int .i64 b] w fun e w' => e = .returned (.bool (inB b 0 1000000)) ∧ w = w') := Lib.hid fun w => implIsTime _ hx.2.2.2 _
  obtain ⟨⟨h1, h2⟩, ⟨h3, h4⟩, ⟨h5, h6⟩, h7, h8⟩ := hx
  simp only [BP.val] at *
  have HA : Hid (∀ o1, Below w.heap.size w (w.alloc o1)) := Lib.hid fun o1 => (Below.refl _ _).alloc (Nat.le_refl _) o1
  generalize inB b 0 1000000 = B4 at *
  go_enter Tryd.func14, Tryd.ntmps14
  rcases in_part d 0 1000 with ⟨p1, q1⟩ | ⟨p1, p1', q1⟩ | ⟨p1, p1', q1⟩
  all_goals
    rw [q1] at HT
    clear q1
    rcases in_part c 0 10000 with ⟨p2, q2⟩ | ⟨p2, p2', q2⟩ | ⟨p2, p2', q2⟩
  all_goals
    rw [q2] at HT
    clear q2
    rcases in_part n 0 c with ⟨p3, q3⟩ | ⟨p3, p3', q3⟩ | ⟨p3, p3', q3⟩
  all_goals
    rw [q3] at HT
    clear q3
    first
      | (exfalso; omega)
      | (go_wp2_with (go_at_call 31; with_reducible refine (C4.out _).mono ?_; rintro e w' ⟨rfl, rfl⟩)
         go_ret
         exact ⟨ret_b (by rw [HT.out]; simp), HA.out _⟩)
end Go.Proofs.YtlbjnblbjbdaaaaDoor.Pur
