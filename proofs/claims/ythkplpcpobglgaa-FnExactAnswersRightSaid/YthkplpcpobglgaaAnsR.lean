/-
  Contracts: spec.AnswersRight, impl.answersRight (of Kinds from 1 on), impl.AnswersRight answer the plain function answersB; of what was there nothing is changed. Conditions: in memory.
-/
import Derived.Test.YthkplpcpobglgaaRows
import Derived.Test.YthkplpcpobglgaaAns
import Derived.Test.YthkplpcpobglgaaPlain
namespace Go.Proofs.Ythkplpcpobglgaa.Rw
open Go.RowKit Words
set_option linter.unusedVariables false
set_option maxRecDepth 100000

theorem specIs' (n lo hi : Int) (hn : OkI n) (hlo : OkI lo) (hhi : OkI hi) (w : World) :
    Calls Try.prog 16 #[.int .i64 n, .int .i64 lo, .int .i64 hi] w fun e w' => e = .returned (.bool (decide (lo ≤ n) && decide (n ≤ hi))) ∧ w = w' := by
  unfold OkI at hn hlo hhi
  go_enter Try.func16, Try.ntmps16
  go_wp2_with fail
  all_goals go_ret
  all_goals exact ⟨ret_bool (by simp_all <;> omega), rfl⟩

/-- One answer that is right. -/
structure AnsOk (x : AnswerP) : Prop where
  k1 : 1 ≤ x.kind
  k2 : x.kind ≤ 5
  p : x.path.size ≤ 100
  n1 : 0 ≤ x.n
  n2 : x.n ≤ 1000
  t : plainB x.text = true
/-- Answers that are right. -/
structure AnswersOk (l : List AnswerP) : Prop where
  few : l.length ≤ 40
  each : ∀ x ∈ l, AnsOk x
noncomputable def answersB (l : List AnswerP) : Bool := @decide (AnswersOk l) (Classical.propDecidable _)
theorem answersB_yes {l : List AnswerP} (h : AnswersOk l) : answersB l = true := by simp [answersB, h]
theorem answersB_no {l : List AnswerP} (h : ¬ AnswersOk l) : answersB l = false := by simp [answersB, h]
theorem ans_one {l : List AnswerP} {i : Nat} {x : AnswerP} (hd : l[i]? = some x) (h : ¬ AnsOk x) : answersB l = false := answersB_no fun g => h (g.each x (List.mem_of_getElem? hd))
theorem ans_all {l : List AnswerP} (hf : l.length ≤ 40) (h : ∀ j x, j < l.length → l[j]? = some x → AnsOk x) : answersB l = true := answersB_yes ⟨hf, fun x hx => by
  obtain ⟨j, hj, rfl⟩ := List.getElem_of_mem hx
  exact h j _ hj (List.getElem?_eq_getElem hj)⟩
theorem ans_next {l : List AnswerP} {i : Nat} {x : AnswerP} (h : ∀ j y, j < i → l[j]? = some y → AnsOk y) (hd : l[i]? = some x) (hx : AnsOk x) : ∀ j y, j < i + 1 → l[j]? = some y → AnsOk y := fun j y hj hy => by
  by_cases e : j = i
  · subst e; rw [hd] at hy; cases hy; exact hx
  · exact h j y (by omega) hy

theorem specAnswersRight (w : World) (A B : Nat) (a : Option Addr) (len cap : Nat) (l : List AnswerP) (hs : AnswersAt w A B a len l) (hB : B ≤ w.heap.size) :
    Calls Try.prog 6 #[.slice a len cap] w fun e w' => e = .returned (.bool (answersB l)) ∧ Below w.heap.size w w' := by
  have hlen := hs.2.1
  have HS := Lib.hid hs
  have hll := Lib.hid hs.1
  clear hs
  go_enter Try.func6, Try.ntmps6
  go_wp2_with fail
  go_loopw [3] (fun i wr => ∃ k : Nat, k ≤ len ∧ k ≤ 41 ∧ i = .int .i64 k ∧ Hid (∀ j y, j < k → l[j]? = some y → AnsOk y) ∧ Below w.heap.size w wr) (fun i _ => len - (intOf i).toNat)
  case atStart => exact ⟨0, by omega, by omega, rfl, Lib.hid (by omega), Below.refl _ _⟩
  case round =>
    obtain ⟨i, hi, hi2, rfl, hall, hb⟩ := hrel
    have HB := Lib.hid hb
    by_cases hlt : i < len
    · have hli : (i : Int) < (len : Int) := by omega
      by_cases hle : i ≤ 40
      · have hlei : (i : Int) ≤ 40 := by omega
        obtain ⟨x, b, off, hd, rfl, hA, hbb, hok, hc⟩ := (HS.out.below answerLies (Nat.le_refl _) (hb.mono hB)).at hlt
        obtain ⟨c0, c1, c2, c3⟩ := row4 hc
        have HD := Lib.hid hd
        obtain ⟨xp, xk, xn, xt⟩ := x
        obtain ⟨okp, okk, okn, okt⟩ := hok
        simp only at c0 c1 c2 c3 okp okk okn okt
        have HA : Hid (∀ o, Below w.heap.size w (wr.alloc o)) := Lib.hid fun o => HB.out.alloc HB.out.size o
        have C1 : Hid (∀ w, Calls Try.prog 16 #[.int .i64 xk, .int .i64 1, .int .i64 5] w fun e w' => e = .returned (.bool (decide (1 ≤ xk) && decide (xk ≤ 5))) ∧ w = w') := Lib.hid fun w => specIs' _ _ _ okk (by unfold OkI; omega) (by unfold OkI; omega) _
        have C2 : Hid (∀ w, Calls Try.prog 16 #[.int .i64 xn, .int .i64 0, .int .i64 1000] w fun e w' => e = .returned (.bool (decide (0 ≤ xn) && decide (xn ≤ 1000))) ∧ w = w') := Lib.hid fun w => specIs' _ _ _ okn (by unfold OkI; omega) (by unfold OkI; omega) _
        have C3 : Hid (∀ w, Calls Try.prog 17 #[.string xt, .int .i64 120] w fun e w' => e = .returned (.bool (plainB xt)) ∧ w = w') := Lib.hid fun w => specPlain _ (by unfold OkS at okt; unfold maxLen; omega) _
        unfold OkS at okp okt
        have hp1 : (decide (1 ≤ xk) && decide (xk ≤ 5)) = true → 1 ≤ xk ∧ xk ≤ 5 := by simp
        have hp2 : (decide (0 ≤ xn) && decide (xn ≤ 1000)) = true → 0 ≤ xn ∧ xn ≤ 1000 := by simp
        have hp1' : 1 ≤ xk → xk ≤ 5 → (decide (1 ≤ xk) && decide (xk ≤ 5)) = true := by simp <;> omega
        have hp2' : 0 ≤ xn → xn ≤ 1000 → (decide (0 ≤ xn) && decide (xn ≤ 1000)) = true := by simp <;> omega
        generalize hg1 : (decide (1 ≤ xk) && decide (xk ≤ 5)) = p1 at *
        generalize hg2 : (decide (0 ≤ xn) && decide (xn ≤ 1000)) = p2 at *
        generalize hg3 : plainB xt = p3 at *
        have HP := Lib.hid (And.intro hp1 (And.intro hp2 (And.intro hp1' hp2')))
        have HG3 := Lib.hid hg3
        clear hlt hd hb hc okk okn hp1 hp2 hp1' hp2' hg1 hg2 hg3
        cases p1
        · have ho := Lib.hid (ans_one HD.out fun g => by have := HP.out.2.2.1 g.k1 g.k2; cases this)
          go_wp2_with (first | (go_at_call 16; with_reducible refine (C1.out _).mono ?_; rintro e w' ⟨rfl, rfl⟩) | (go_at_call 16; with_reducible refine (C2.out _).mono ?_; rintro e w' ⟨rfl, rfl⟩) | (go_at_call 17; refine (C3.out _).mono ?_; rintro e w' ⟨rfl, rfl⟩))
          go_ret
          exact ⟨ret_bool ho.out.symm, HA.out _⟩
        by_cases hpl : 100 < xp.size
        · have hpi : (100 : Int) < (xp.size : Int) := by omega
          have ho := Lib.hid (ans_one HD.out fun g => by have := g.p; simp only at this; omega)
          clear hpl
          go_wp2_with (first | (go_at_call 16; with_reducible refine (C1.out _).mono ?_; rintro e w' ⟨rfl, rfl⟩) | (go_at_call 16; with_reducible refine (C2.out _).mono ?_; rintro e w' ⟨rfl, rfl⟩) | (go_at_call 17; refine (C3.out _).mono ?_; rintro e w' ⟨rfl, rfl⟩))
          go_ret
          exact ⟨ret_bool ho.out.symm, HA.out _⟩
        have hpi : (xp.size : Int) ≤ 100 := by omega
        clear hpl
        cases p2
        · have ho := Lib.hid (ans_one HD.out fun g => by have := HP.out.2.2.2 g.n1 g.n2; cases this)
          go_wp2_with (first | (go_at_call 16; with_reducible refine (C1.out _).mono ?_; rintro e w' ⟨rfl, rfl⟩) | (go_at_call 16; with_reducible refine (C2.out _).mono ?_; rintro e w' ⟨rfl, rfl⟩) | (go_at_call 17; refine (C3.out _).mono ?_; rintro e w' ⟨rfl, rfl⟩))
          go_ret
          exact ⟨ret_bool ho.out.symm, HA.out _⟩
        cases p3
        · have ho := Lib.hid (ans_one HD.out fun g => by have := g.t; simp only [HG3.out] at this; cases this)
          go_wp2_with (first | (go_at_call 16; with_reducible refine (C1.out _).mono ?_; rintro e w' ⟨rfl, rfl⟩) | (go_at_call 16; with_reducible refine (C2.out _).mono ?_; rintro e w' ⟨rfl, rfl⟩) | (go_at_call 17; refine (C3.out _).mono ?_; rintro e w' ⟨rfl, rfl⟩))
          go_ret
          exact ⟨ret_bool ho.out.symm, HA.out _⟩
        have hrel := Lib.hid (ans_next hall.out HD.out ⟨(HP.out.1 rfl).1, (HP.out.1 rfl).2, by simp only; omega, (HP.out.2.1 rfl).1, (HP.out.2.1 rfl).2, HG3.out⟩)
        go_wp2_with (first | (go_at_call 16; with_reducible refine (C1.out _).mono ?_; rintro e w' ⟨rfl, rfl⟩) | (go_at_call 16; with_reducible refine (C2.out _).mono ?_; rintro e w' ⟨rfl, rfl⟩) | (go_at_call 17; refine (C3.out _).mono ?_; rintro e w' ⟨rfl, rfl⟩))
        go_roundw
        case rel => exact ⟨i + 1, by omega, by omega, by go_num, hrel, HA.out _⟩
        case measure => simp [intOf]; omega
      · have hgt : (40 : Int) < (i : Int) := by omega
        have hbig : (40 : Int) < (len : Int) := by omega
        have hf := Lib.hid (answersB_no (l := l) fun h => by have := h.few; have := hll.out; omega)
        clear hle hlt hb
        go_wp2_with fail
        go_ret
        exact ⟨ret_bool (by rw [hf.out]; exact decide_eq_false (by omega)), HB.out⟩
    · obtain rfl : i = len := by omega
      clear hlt hb
      by_cases h2 : 40 < i
      · have hf := Lib.hid (answersB_no (l := l) fun h => by have := h.few; have := hll.out; omega)
        have h2i : (40 : Int) < (i : Int) := by omega
        clear h2
        go_wp2_with fail
        go_ret
        exact ⟨ret_bool (by rw [hf.out]; exact decide_eq_false (by omega)), HB.out⟩
      have h2i : (i : Int) ≤ 40 := by omega
      have hf := Lib.hid (ans_all (l := l) (by have := hll.out; omega) (by rw [hll.out]; exact hall.out))
      clear h2
      go_wp2_with fail
      go_ret
      exact ⟨ret_bool (by rw [hf.out]), HB.out⟩
end Go.Proofs.Ythkplpcpobglgaa.Rw
