/-
  What a purse has at a time, plainly; contracts: spec.l01Min, spec.l12At, spec.PurseAt, impl.stopped, impl.refilled, impl.PurseAt; of what was there nothing is changed. Conditions: numbers of int64.
-/
import Derived.Test.YtlbjnblbjbdaaaaDoorRows
import Derived.Test.YtlbjnblbjbdaaaaDoorPurN
import Derived.Lib.MinMax
namespace Go.Proofs.YtlbjnblbjbdaaaaDoor.Pur
open Go.RowKit Rw Bnd
set_option linter.unusedVariables false
set_option maxRecDepth 100000

/-- What a right purse has at a time. -/
def atN (x : BP) (t : Int) : Int := min x.c (x.n + x.d * (t - x.b))
def timeB (x : BP) (t : Int) : Bool := purB x && inB t x.b 1000000
def atT (x : BP) (t : Int) : Int := if timeB x t = true then atN x t else -1
theorem back_bounds {d u : Int} (h1 : 0 ≤ d) (h2 : d ≤ 1000) (h3 : 0 ≤ u) (h4 : u ≤ 1000000) : 0 ≤ d * u ∧ d * u ≤ 1000000000 :=
  ⟨Int.mul_nonneg h1 h3, by have := Int.mul_le_mul h2 h4 h3 (by omega : (0 : Int) ≤ 1000); omega⟩
theorem timeB_bounds {x : BP} {t : Int} (h : timeB x t = true) : purB x = true ∧ x.b ≤ t ∧ t ≤ 1000000 := by
  simp only [timeB, inB, Bool.and_eq_true, decide_eq_true_eq] at h
  exact ⟨h.1, h.2.1, h.2.2⟩
theorem atN_bounds {x : BP} {t : Int} (h : timeB x t = true) : 0 ≤ atN x t ∧ atN x t ≤ x.c := by
  obtain ⟨h1, h2, h3⟩ := timeB_bounds h
  obtain ⟨⟨a1, a2⟩, ⟨b1, b2⟩, ⟨c1, c2⟩, d1, d2⟩ := purB_bounds h1
  have ⟨m1, m2⟩ := back_bounds a1 a2 (by omega : 0 ≤ t - x.b) (by omega)
  unfold atN
  generalize x.d * (t - x.b) = m at *
  omega

theorem specMin (a b : Int) (ha : OkI a) (hb : OkI b) (w : World) :
    Calls Tryd.prog 38 #[.int .i64 a, .int .i64 b] w fun e w' => e = .returned (.int .i64 (min a b)) ∧ w = w' := by
  obtain ⟨h1, h2⟩ := ha; obtain ⟨h3, h4⟩ := hb
  by_cases h : a < b
  · have HM := Lib.hid (show min a b = a by omega)
    go_enter Tryd.func38, Tryd.ntmps38
    go_wp2_with fail
    go_ret
    exact ⟨by rw [HM.out]; rfl, by trivial⟩
  · have hge : b ≤ a := by omega
    have HM := Lib.hid (show min a b = b by omega)
    go_enter Tryd.func38, Tryd.ntmps38
    go_wp2_with fail
    go_ret
    exact ⟨by rw [HM.out]; rfl, by trivial⟩

set_option maxHeartbeats 4000000 in
theorem specL12At (w : World) (x : BP) (t : Int) (h : timeB x t = true) :
    Calls Tryd.prog 29 #[x.val, .int .i64 t] w fun e w' => e = .returned (.int .i64 (atN x t)) ∧ Below w.heap.size w w' := by
  obtain ⟨h1, h2, h3⟩ := timeB_bounds h
  obtain ⟨⟨a1, a2⟩, ⟨b1, b2⟩, ⟨c1, c2⟩, d1, d2⟩ := purB_bounds h1
  have ⟨m1, m2⟩ := back_bounds a1 a2 (by omega : 0 ≤ t - x.b) (by omega)
  obtain ⟨m, hm⟩ : ∃ m, x.d * (t - x.b) = m := ⟨_, rfl⟩
  have HN := Lib.hid (show atN x t = min x.c (x.n + m) by rw [← hm]; rfl)
  rw [hm] at m1 m2
  generalize atN x t = O at *
  obtain ⟨r, b, l, s⟩ := x
  simp only [BP.val] at *
  have CM : Hid (∀ w, Calls Tryd.prog 38 #[.int .i64 b, .int .i64 (l + m)] w fun e w' => e = .returned (.int .i64 (min b (l + m))) ∧ w = w') := Lib.hid fun w => specMin _ _ (by unfold OkI; omega) (by unfold OkI; omega) w
  have HA : Hid (∀ o1, Below w.heap.size w (w.alloc o1)) := Lib.hid fun o1 => (Below.refl _ _).alloc (Nat.le_refl _) o1
  generalize min b (l + m) = O2 at *
  clear h h1
  go_enter Tryd.func29, Tryd.ntmps29
  go_wp2_with fail
  refine (CM.out _).mono ?_
  rintro e w1 ⟨rfl, rfl⟩
  go_wp2_with fail
  go_ret
  exact ⟨by rw [HN.out]; rfl, HA.out _⟩

set_option maxHeartbeats 4000000 in
theorem specPurseAt (w : World) (x : BP) (hx : x.ok) (t : Int) (ht : OkI t) :
    Calls Tryd.prog 13 #[x.val, .int .i64 t] w fun e w' => e = .returned (.int .i64 (atT x t)) ∧ Below w.heap.size w w' := by
  have C1 : Hid (∀ w, Calls Tryd.prog 15 #[x.val] w fun e w' => e = .returned (.bool (purB x)) ∧ Below w.heap.size w w') := Lib.hid fun w => specPurseRight w x hx
  have C2 : Hid (∀ w, Calls Tryd.prog 28 #[.int .i64 t, .int .i64 x.b, .int .i64 1000000] w fun e w' => e = .returned (.bool (inB t x.b 1000000)) ∧ w = w') := Lib.hid fun w => specIn _ _ _ ht hx.2.2.2 (by unfold OkI; omega) _
  have HT := Lib.hid (show atT x t = if (purB x && inB t x.b 1000000) = true then atN x t else -1 from rfl)
  have C3 : (purB x && inB t x.b 1000000) = true → Hid (∀ w, Calls Tryd.prog 29 #[x.val, .int .i64 t] w fun e w' => e = .returned (.int .i64 (atN x t)) ∧ Below w.heap.size w w') := fun h => Lib.hid fun w => specL12At w x t h
  generalize atT x t = O at *
  generalize atN x t = N at *
  generalize purB x = P at *
  obtain ⟨r, b, l, s⟩ := x
  simp only [BP.val] at *
  generalize inB t s 1000000 = Q at *
  have HA : Hid (∀ o1, Below w.heap.size w (w.alloc o1)) := Lib.hid fun o1 => (Below.refl _ _).alloc (Nat.le_refl _) o1
  clear hx ht
  go_enter Tryd.func13, Tryd.ntmps13
  go_wp2_with fail
  refine (C1.out _).mono ?_
  rintro e w1 ⟨rfl, hb1⟩
  have k1 := (hb1.block w.heap.size (by simp)).trans (heap_alloc_new w _)
  have HB1 := Lib.hid ((HA.out _).trans (hb1.mono (HA.out _).size))
  have ⟨⟨c0, c1, c2, c3⟩, _⟩ := keep4 k1
  clear hb1 k1
  cases P
  · go_wp2_with fail
    go_ret
    exact ⟨by rw [HT.out]; rfl, HB1.out⟩
  cases Q
  · go_wp2_with fail
    refine (C2.out _).mono ?_
    rintro e w2 ⟨rfl, rfl⟩
    go_wp2_with fail
    go_ret
    exact ⟨by rw [HT.out]; rfl, HB1.out⟩
  · have C4 := C3 rfl
    clear C3
    go_wp2_with fail
    refine (C2.out _).mono ?_
    rintro e w2 ⟨rfl, rfl⟩
    go_wp2_with fail
    refine (C4.out _).mono ?_
    rintro e w3 ⟨rfl, hb3⟩
    have HB3 := Lib.hid (HB1.out.trans (hb3.mono HB1.out.size))
    clear hb3
    go_wp2_with fail
    go_ret
    exact ⟨by rw [HT.out]; rfl, HB3.out⟩

theorem implStopped (t : Int) (w : World) :
    Calls Tryd.prog 25 #[.int .i64 t] w fun e w' => e = .returned (.func (.func 33) #[] #[.pointer (some ⟨w.heap.size, 0, none⟩)]) ∧ w' = w.alloc (.cells #[.int .i64 t] 2) := by
  go_enter Tryd.func25, Tryd.ntmps25
  go_wp2_with fail
  go_ret
  exact ⟨rfl, rfl⟩
end Go.Proofs.YtlbjnblbjbdaaaaDoor.Pur
