/-
  Contracts: impl.answersRight (of Kinds from 1 on), impl.AnswersRight answer the plain function answersB; of what was there nothing is changed. Conditions: in memory.
-/
import Derived.Test.YthkplpcpobglgaaRows
import Derived.Test.YthkplpcpobglgaaAnsR
namespace Go.Proofs.Ythkplpcpobglgaa.Rw
open Go.RowKit Words
set_option linter.unusedVariables false
set_option maxRecDepth 100000

theorem implAnswersOf (w : World) (A B : Nat) (a : Option Addr) (len cap : Nat) (l : List AnswerP) (hs : AnswersAt w A B a len l) (hB : B ≤ w.heap.size) :
    Calls Try.prog 19 #[.slice a len cap, .int .i64 1] w fun e w' => e = .returned (.bool (answersB l)) ∧ Below w.heap.size w w' := by
  have hlen := hs.2.1
  have HS := Lib.hid hs
  have hll := Lib.hid hs.1
  clear hs
  by_cases h40 : 40 < len
  · have h40i : (40 : Int) < (len : Int) := by omega
    have hf := Lib.hid (answersB_no (l := l) fun h => by have := h.few; have := hll.out; omega)
    clear h40
    go_enter Try.func19, Try.ntmps19
    go_wp2_with fail
    go_ret
    exact ⟨ret_bool hf.out.symm, Below.refl _ _⟩
  have h40i : (len : Int) ≤ 40 := by omega
  have hfew : Hid (l.length ≤ 40) := Lib.hid (by have := hll.out; omega)
  clear h40
  go_enter Try.func19, Try.ntmps19
  go_wp2_with fail
  go_loopw [13] (fun i wr => ∃ k : Nat, k ≤ len ∧ i = .int .i64 k ∧ Hid (∀ j y, j < k → l[j]? = some y → AnsOk y) ∧ Below w.heap.size w wr) (fun i _ => len - (intOf i).toNat)
  case atStart => exact ⟨0, by omega, rfl, Lib.hid (by omega), Below.refl _ _⟩
  case round =>
    obtain ⟨i, hi, rfl, hall, hb⟩ := hrel
    have HB := Lib.hid hb
    by_cases hlt : i < len
    · have hli : (i : Int) < (len : Int) := by omega
      obtain ⟨x, b, off, hd, rfl, hA, hbb, hok, hc⟩ := (HS.out.below answerLies (Nat.le_refl _) (hb.mono hB)).at hlt
      obtain ⟨c0, c1, c2, c3⟩ := row4 hc
      have HD := Lib.hid hd
      obtain ⟨xp, xk, xn, xt⟩ := x
      obtain ⟨okp, ⟨okk, okk'⟩, ⟨okn, okn'⟩, okt⟩ := hok
      simp only at c0 c1 c2 c3 okp okk okn okt okk' okn'
      have HA : Hid (∀ o, Below w.heap.size w (wr.alloc o)) := Lib.hid fun o => HB.out.alloc HB.out.size o
      have C3 : Hid (∀ w, Calls Try.prog 30 #[.string xt] w fun e w' => e = .returned (.bool (plainB xt)) ∧ w = w') := Lib.hid fun w => implPlain _ (by unfold OkS at okt; unfold maxLen; omega) _
      unfold OkS at okp okt
      generalize hg3 : plainB xt = p3 at *
      have HG3 := Lib.hid hg3
      clear hlt hd hb hc hg3
      by_cases k1 : xk < 1
      · have ho := Lib.hid (ans_one HD.out fun g => by have := g.k1; simp only at this; omega)
        go_wp2_with (go_at_call 30; refine (C3.out _).mono ?_; rintro e w' ⟨rfl, rfl⟩)
        go_ret
        exact ⟨ret_bool ho.out.symm, HA.out _⟩
      have k1' : 1 ≤ xk := by omega
      clear k1
      by_cases k2 : 5 < xk
      · have ho := Lib.hid (ans_one HD.out fun g => by have := g.k2; simp only at this; omega)
        go_wp2_with (go_at_call 30; refine (C3.out _).mono ?_; rintro e w' ⟨rfl, rfl⟩)
        go_ret
        exact ⟨ret_bool ho.out.symm, HA.out _⟩
      have k2' : xk ≤ 5 := by omega
      clear k2
      by_cases hpl : 100 < xp.size
      · have hpi : (100 : Int) < (xp.size : Int) := by omega
        have ho := Lib.hid (ans_one HD.out fun g => by have := g.p; simp only at this; omega)
        clear hpl
        go_wp2_with (go_at_call 30; refine (C3.out _).mono ?_; rintro e w' ⟨rfl, rfl⟩)
        go_ret
        exact ⟨ret_bool ho.out.symm, HA.out _⟩
      have hpi : (xp.size : Int) ≤ 100 := by omega
      clear hpl
      by_cases n1 : xn < 0
      · have ho := Lib.hid (ans_one HD.out fun g => by have := g.n1; simp only at this; omega)
        go_wp2_with (go_at_call 30; refine (C3.out _).mono ?_; rintro e w' ⟨rfl, rfl⟩)
        go_ret
        exact ⟨ret_bool ho.out.symm, HA.out _⟩
      have n1' : 0 ≤ xn := by omega
      clear n1
      by_cases n2 : 1000 < xn
      · have ho := Lib.hid (ans_one HD.out fun g => by have := g.n2; simp only at this; omega)
        go_wp2_with (go_at_call 30; refine (C3.out _).mono ?_; rintro e w' ⟨rfl, rfl⟩)
        go_ret
        exact ⟨ret_bool ho.out.symm, HA.out _⟩
      have n2' : xn ≤ 1000 := by omega
      clear n2
      cases p3
      · have ho := Lib.hid (ans_one HD.out fun g => by have := g.t; simp only [HG3.out] at this; cases this)
        go_wp2_with (go_at_call 30; refine (C3.out _).mono ?_; rintro e w' ⟨rfl, rfl⟩)
        go_ret
        exact ⟨ret_bool ho.out.symm, HA.out _⟩
      have hrel := Lib.hid (ans_next hall.out HD.out ⟨k1', k2', by simp only; omega, n1', n2', HG3.out⟩)
      go_wp2_with (go_at_call 30; refine (C3.out _).mono ?_; rintro e w' ⟨rfl, rfl⟩)
      go_roundw
      case rel => exact ⟨i + 1, by omega, by go_num, hrel, HA.out _⟩
      case measure => simp [intOf]; omega
    · obtain rfl : i = len := by omega
      clear hlt hb
      have hf := Lib.hid (ans_all (l := l) hfew.out (by rw [hll.out]; exact hall.out))
      go_wp2_with fail
      go_ret
      exact ⟨ret_bool hf.out.symm, HB.out⟩

theorem implAnswersRight (w : World) (A B : Nat) (a : Option Addr) (len cap : Nat) (l : List AnswerP) (hs : AnswersAt w A B a len l) (hB : B ≤ w.heap.size) :
    Calls Try.prog 8 #[.slice a len cap] w fun e w' => e = .returned (.bool (answersB l)) ∧ Below w.heap.size w w' := by
  have HS := Lib.hid hs
  clear hs
  go_enter Try.func8, Try.ntmps8
  go_wp2_with (go_at_call 19; refine (implAnswersOf _ A B a len cap l HS.out hB).mono ?_; rintro e w1 ⟨rfl, hb1⟩)
  go_ret
  exact ⟨rfl, hb1⟩
end Go.Proofs.Ythkplpcpobglgaa.Rw
