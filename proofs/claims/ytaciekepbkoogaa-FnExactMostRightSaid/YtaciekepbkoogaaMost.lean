/-
  Limits that are right, plainly; contracts: spec.MostRight and impl.MostRight tell so; of what was there nothing is changed. Conditions: numbers of int64.
-/
import Derived.Test.YtaciekepbkoogaaRows
import Derived.Test.YtaciekepbkoogaaBndP
namespace Go.Proofs.Ytaciekepbkoogaa.Bnd
open Go.RowKit Rw
set_option linter.unusedVariables false
set_option maxRecDepth 100000

def inB (n lo hi : Int) : Bool := decide (lo ≤ n) && decide (n ≤ hi)
/-- Are these limits right? -/
def mostB (x : BP) : Bool := inB x.d 0 1000000000 && (inB x.c 0 1000000000 && (inB x.n 0 2000 && inB x.b 4 8000))
theorem specIn (n lo hi : Int) (hn : OkI n) (hl : OkI lo) (hh : OkI hi) (w : World) :
    Calls Try.prog 7 #[.int .i64 n, .int .i64 lo, .int .i64 hi] w fun e w' => e = .returned (.bool (inB n lo hi)) ∧ w = w' := by
  obtain ⟨hn1, hn2⟩ := hn; obtain ⟨hl1, hl2⟩ := hl; obtain ⟨hh1, hh2⟩ := hh
  unfold inB
  go_enter Try.func7, Try.ntmps7
  by_cases h1 : lo ≤ n
  · by_cases h2 : n ≤ hi
    · go_wp2_with fail
      go_ret
      exact ⟨by simp [h1, h2], by trivial⟩
    · have h2' : hi < n := by omega
      go_wp2_with fail
      go_ret
      exact ⟨by simp [h2], by trivial⟩
  · have h1' : n < lo := by omega
    have h2 : decide (lo ≤ n) = false := by simp [h1]
    go_wp2_with fail
    go_ret
    exact ⟨rfl, by trivial⟩
theorem in_part (n lo hi : Int) : (n < lo ∧ inB n lo hi = false) ∨ (lo ≤ n ∧ hi < n ∧ inB n lo hi = false) ∨ (lo ≤ n ∧ n ≤ hi ∧ inB n lo hi = true) := by
  unfold inB
  by_cases h1 : lo ≤ n
  · by_cases h2 : n ≤ hi
    · exact .inr (.inr ⟨h1, h2, by rw [decide_eq_true h1, decide_eq_true h2]; rfl⟩)
    · exact .inr (.inl ⟨h1, by omega, by rw [decide_eq_true h1, decide_eq_false h2]; rfl⟩)
  · exact .inl ⟨by omega, by rw [decide_eq_false h1, Bool.false_and]⟩
theorem ret_b {a b : Bool} (h : a = b) : Ending.returned (.bool a) = .returned (.bool b) := by rw [h]

set_option maxHeartbeats 4000000 in
theorem specMostRight (w : World) (x : BP) (hx : x.ok) :
    Calls Try.prog 4 #[x.val] w fun e w' => e = .returned (.bool (mostB x)) ∧ Below w.heap.size w w' := by
  obtain ⟨d, c, n, b⟩ := x
  have HT := Lib.hid (show mostB ⟨d, c, n, b⟩ = (inB d 0 1000000000 && (inB c 0 1000000000 && (inB n 0 2000 && inB b 4 8000))) from rfl)
  generalize mostB ⟨d, c, n, b⟩ = T at *
  have C1 : Hid (∀ w, Calls Try.prog 7 #[.int .i64 d, .int .i64 0, .int .i64 1000000000] w fun e w' => e = .returned (.bool (inB d 0 1000000000)) ∧ w = w') := Lib.hid fun w => specIn _ _ _ hx.1 (by unfold OkI; omega) (by unfold OkI; omega) _
  have C2 : Hid (∀ w, Calls Try.prog 7 #[.int .i64 c, .int .i64 0, .int .i64 1000000000] w fun e w' => e = .returned (.bool (inB c 0 1000000000)) ∧ w = w') := Lib.hid fun w => specIn _ _ _ hx.2.1 (by unfold OkI; omega) (by unfold OkI; omega) _
  have C3 : Hid (∀ w, Calls Try.prog 7 #[.int .i64 n, .int .i64 0, .int .i64 2000] w fun e w' => e = .returned (.bool (inB n 0 2000)) ∧ w = w') := Lib.hid fun w => specIn _ _ _ hx.2.2.1 (by unfold OkI; omega) (by unfold OkI; omega) _
  have C4 : Hid (∀ w, Calls Try.prog 7 #[.int .i64 b, .int .i64 4, .int .i64 8000] w fun e w' => e = .returned (.bool (inB b 4 8000)) ∧ w = w') := Lib.hid fun w => specIn _ _ _ hx.2.2.2 (by unfold OkI; omega) (by unfold OkI; omega) _
  clear hx
  simp only [BP.val] at *
  have HA : Hid (∀ o1, Below w.heap.size w (w.alloc o1)) := Lib.hid fun o1 => (Below.refl _ _).alloc (Nat.le_refl _) o1
  generalize inB d 0 1000000000 = B1 at *
  generalize inB c 0 1000000000 = B2 at *
  generalize inB n 0 2000 = B3 at *
  generalize inB b 4 8000 = B4 at *
  go_enter Try.func4, Try.ntmps4
  cases B1
  case' true => cases B2
  case' true.true => cases B3
  all_goals
    go_wp2_with (first
      | (go_at_call 7; with_reducible refine (C1.out _).mono ?_; rintro e w' ⟨rfl, rfl⟩)
      | (go_at_call 7; with_reducible refine (C2.out _).mono ?_; rintro e w' ⟨rfl, rfl⟩)
      | (go_at_call 7; with_reducible refine (C3.out _).mono ?_; rintro e w' ⟨rfl, rfl⟩)
      | (go_at_call 7; with_reducible refine (C4.out _).mono ?_; rintro e w' ⟨rfl, rfl⟩))
    go_ret
    exact ⟨ret_b (by rw [HT.out]; simp), HA.out _⟩

/-- What is within the limit at a place. -/
def MostTo (i : Int) (d c n b : Int) : Prop := (0 < i → inB d 0 1000000000 = true) ∧ (1 < i → inB c 0 1000000000 = true) ∧ (2 < i → inB n 0 2000 = true) ∧ (3 < i → inB b 4 8000 = true)

set_option maxHeartbeats 4000000 in
theorem implMostRight (w : World) (x : BP) (hx : x.ok) :
    Calls Try.prog 6 #[x.val] w fun e w' => e = .returned (.bool (mostB x)) ∧ Below w.heap.size w w' := by
  have CX : Hid (∀ w, Calls Try.prog 8 #[x.val] w fun e w' => e = .returned x.val ∧ Below w.heap.size w w') := Lib.hid fun w => measuresOf w x hx
  obtain ⟨d, c, n, b⟩ := x
  have HT := Lib.hid (show mostB ⟨d, c, n, b⟩ = (inB d 0 1000000000 && (inB c 0 1000000000 && (inB n 0 2000 && inB b 4 8000))) from rfl)
  generalize mostB ⟨d, c, n, b⟩ = T at *
  obtain ⟨⟨h1, h2⟩, ⟨h3, h4⟩, ⟨h5, h6⟩, h7, h8⟩ := hx
  simp only [BP.val] at *
  have HA : Hid (∀ o1 o2 o3, Below w.heap.size w (((w.alloc o1).alloc o2).alloc o3)) := Lib.hid fun o1 o2 o3 => (((Below.refl _ _).alloc (Nat.le_refl _) o1).alloc (by simp) o2).alloc (by simp; omega) o3
  go_enter Try.func6, Try.ntmps6
  go_wp2_with fail
  refine (CX.out _).mono ?_
  rintro e w1 ⟨rfl, hb1⟩
  have HB1 : Hid (Below w.heap.size w w1) := Lib.hid ((HA.out _ _ _).trans (hb1.mono (HA.out _ _ _).size))
  have hbl : w1.heap[w.heap.size + 1]? = some (.cells #[.int .i64 0, .int .i64 0, .int .i64 0, .int .i64 4] 30 (0, 0)) := by
    rw [hb1.block _ (by simp), Go.Deep.blk_alloc_lt _ _ _ (by simp)]
    have := Go.Deep.blk_alloc_new (w.alloc (.cells #[.int .i64 d, .int .i64 c, .int .i64 n, .int .i64 b] 25)) (.cells #[.int .i64 0, .int .i64 0, .int .i64 0, .int .i64 4] 30)
    simpa using this
  have hbg : w1.heap[w.heap.size + 1 + 1]? = some (.cells #[.int .i64 1000000000, .int .i64 1000000000, .int .i64 2000, .int .i64 8000] 30 (0, 0)) := by
    rw [hb1.block _ (by simp)]
    have := Go.Deep.blk_alloc_new ((w.alloc (.cells #[.int .i64 d, .int .i64 c, .int .i64 n, .int .i64 b] 25)).alloc (.cells #[.int .i64 0, .int .i64 0, .int .i64 0, .int .i64 4] 30)) (.cells #[.int .i64 1000000000, .int .i64 1000000000, .int .i64 2000, .int .i64 8000] 30)
    simpa using this
  have ⟨⟨l0, l1, l2, l3⟩, _⟩ := keep4 hbl
  have ⟨⟨n0, n1, n2, n3⟩, _⟩ := keep4 hbg
  clear hb1 hbl hbg HA
  obtain ⟨g, hg⟩ : ∃ g, w.heap.size + 1 = g := ⟨_, rfl⟩
  rw [hg] at l0 l1 l2 l3 n0 n1 n2 n3 ⊢
  clear hg
  have i0 : ∀ w, (Instr.index 30 (.agg #[.int .i64 d, .int .i64 c, .int .i64 n, .int .i64 b]) (.int .i64 0)).run Try.prog w = .ok (.int .i64 d) w := fun _ => rfl
  have i1 : ∀ w, (Instr.index 30 (.agg #[.int .i64 d, .int .i64 c, .int .i64 n, .int .i64 b]) (.int .i64 1)).run Try.prog w = .ok (.int .i64 c) w := fun _ => rfl
  have i2 : ∀ w, (Instr.index 30 (.agg #[.int .i64 d, .int .i64 c, .int .i64 n, .int .i64 b]) (.int .i64 2)).run Try.prog w = .ok (.int .i64 n) w := fun _ => rfl
  have i3 : ∀ w, (Instr.index 30 (.agg #[.int .i64 d, .int .i64 c, .int .i64 n, .int .i64 b]) (.int .i64 3)).run Try.prog w = .ok (.int .i64 b) w := fun _ => rfl
  go_wp2_with fail
  go_loopw [11] (fun v wr => ∃ i : Int, (i = 0 ∨ i = 1 ∨ i = 2 ∨ i = 3 ∨ i = 4) ∧ v = .int .i64 i ∧ Hid (MostTo i d c n b) ∧ w1 = wr) (fun v _ => 4 - (intOf v).toNat)
  case atStart => exact ⟨0, by omega, rfl, Lib.hid ⟨by omega, by omega, by omega, by omega⟩, rfl⟩
  case round =>
    obtain ⟨i, hi, rfl, HH, rfl⟩ := hrel
    rcases hi with rfl | rfl | rfl | rfl | rfl
    · rcases in_part d 0 1000000000 with ⟨p1, q1⟩ | ⟨p1, p1', q1⟩ | ⟨p1, p1', q1⟩
      case inl =>
        have HF := Lib.hid (show false = T by rw [HT.out, q1]; simp)
        clear q1
        go_wp2_with fail
        go_ret
        exact ⟨ret_b HF.out, HB1.out⟩
      case inr.inl =>
        have HF := Lib.hid (show false = T by rw [HT.out, q1]; simp)
        clear q1
        go_wp2_with fail
        go_ret
        exact ⟨ret_b HF.out, HB1.out⟩
      have HQ := Lib.hid q1
      clear q1
      go_wp2_with fail
      go_roundw
      case rel => exact ⟨1, by omega, rfl, Lib.hid ⟨fun _ => HQ.out, by omega, by omega, by omega⟩, by trivial⟩
      case measure => simp [intOf]
    · rcases in_part c 0 1000000000 with ⟨p1, q1⟩ | ⟨p1, p1', q1⟩ | ⟨p1, p1', q1⟩
      case inl =>
        have HF := Lib.hid (show false = T by rw [HT.out, HH.out.1 (by omega), q1]; simp)
        clear q1
        go_wp2_with fail
        go_ret
        exact ⟨ret_b HF.out, HB1.out⟩
      case inr.inl =>
        have HF := Lib.hid (show false = T by rw [HT.out, HH.out.1 (by omega), q1]; simp)
        clear q1
        go_wp2_with fail
        go_ret
        exact ⟨ret_b HF.out, HB1.out⟩
      have HQ := Lib.hid q1
      clear q1
      go_wp2_with fail
      go_roundw
      case rel => exact ⟨2, by omega, rfl, Lib.hid ⟨fun _ => HH.out.1 (by omega), fun _ => HQ.out, by omega, by omega⟩, by trivial⟩
      case measure => simp [intOf]
    · rcases in_part n 0 2000 with ⟨p1, q1⟩ | ⟨p1, p1', q1⟩ | ⟨p1, p1', q1⟩
      case inl =>
        have HF := Lib.hid (show false = T by rw [HT.out, HH.out.1 (by omega), HH.out.2.1 (by omega), q1]; simp)
        clear q1
        go_wp2_with fail
        go_ret
        exact ⟨ret_b HF.out, HB1.out⟩
      case inr.inl =>
        have HF := Lib.hid (show false = T by rw [HT.out, HH.out.1 (by omega), HH.out.2.1 (by omega), q1]; simp)
        clear q1
        go_wp2_with fail
        go_ret
        exact ⟨ret_b HF.out, HB1.out⟩
      have HQ := Lib.hid q1
      clear q1
      go_wp2_with fail
      go_roundw
      case rel => exact ⟨3, by omega, rfl, Lib.hid ⟨fun _ => HH.out.1 (by omega), fun _ => HH.out.2.1 (by omega), fun _ => HQ.out, by omega⟩, by trivial⟩
      case measure => simp [intOf]
    · rcases in_part b 4 8000 with ⟨p1, q1⟩ | ⟨p1, p1', q1⟩ | ⟨p1, p1', q1⟩
      case inl =>
        have HF := Lib.hid (show false = T by rw [HT.out, HH.out.1 (by omega), HH.out.2.1 (by omega), HH.out.2.2.1 (by omega), q1]; simp)
        clear q1
        go_wp2_with fail
        go_ret
        exact ⟨ret_b HF.out, HB1.out⟩
      case inr.inl =>
        have HF := Lib.hid (show false = T by rw [HT.out, HH.out.1 (by omega), HH.out.2.1 (by omega), HH.out.2.2.1 (by omega), q1]; simp)
        clear q1
        go_wp2_with fail
        go_ret
        exact ⟨ret_b HF.out, HB1.out⟩
      have HQ := Lib.hid q1
      clear q1
      go_wp2_with fail
      go_roundw
      case rel => exact ⟨4, by omega, rfl, Lib.hid ⟨fun _ => HH.out.1 (by omega), fun _ => HH.out.2.1 (by omega), fun _ => HH.out.2.2.1 (by omega), fun _ => HQ.out⟩, by trivial⟩
      case measure => simp [intOf]
    · have HF := Lib.hid (show true = T by rw [HT.out, HH.out.1 (by omega), HH.out.2.1 (by omega), HH.out.2.2.1 (by omega), HH.out.2.2.2 (by omega)]; rfl)
      go_wp2_with fail
      go_ret
      exact ⟨ret_b HF.out, HB1.out⟩
end Go.Proofs.Ytaciekepbkoogaa.Bnd
