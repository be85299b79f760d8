/-
  The walk of laws.FnPurse: it answers true, and of what was there nothing is changed. Conditions: in memory; the library's variable errors.errorType holds the handle of the type error.
-/
import Derived.Test.YtlbjnblbjbdaaaaDoorRows
import Derived.Test.YtlbjnblbjbdaaaaDoorPurQ
import Derived.Test.YtlbjnblbjbdaaaaDoorPurK
import Derived.Test.YtlbjnblbjbdaaaaDoorPurL
import Derived.Test.YtlbjnblbjbdaaaaDoorPurG
import Derived.Test.YtlbjnblbjbdaaaaDoorLwAt
import Derived.Test.YtlbjnblbjbdaaaaDoorDrawn
namespace Go.Proofs.YtlbjnblbjbdaaaaDoor.Pur
open Go.RowKit Rw Bnd
open Drawn
set_option linter.unusedVariables false
set_option maxRecDepth 100000

theorem newO_right {r b : Int} (h1 : 0 ≤ r) (h2 : r ≤ 1000) (h3 : 0 ≤ b) (h4 : b ≤ 10000) : newO r b 0 = ⟨⟨r, b, b, 0⟩, false, 0⟩ := by
  unfold newO
  rw [if_pos (by simp [purB, inB]; omega)]
/-- What is handed back of a purse that is asked at a time is right. -/
theorem ask_right {x : BP} {c t : Int} (h : (askT x c t).k = 0) : purB (askT x c t).p = true := by
  rw [askT_spec] at h ⊢
  by_cases h1 : (purB x && (decide (0 ≤ c) && inB t 0 1000000)) = true
  · rw [if_pos h1] at h ⊢
    have hp : purB x = true := by cases hh : purB x <;> simp_all
    have hq : inB t 0 1000000 = true := by cases hh : inB t 0 1000000 <;> simp_all
    have hc : 0 ≤ c := by
      by_cases hc : 0 ≤ c
      · exact hc
      · simp [hc] at h1
    by_cases h2 : t < x.b
    · rw [if_pos h2] at h; simp [codeO] at h
    · rw [if_neg h2] at h ⊢
      have htb : timeB x t = true := fault_time.1 (by unfold faultT; rw [hp, hq]; simp; omega)
      have hn := atN_bounds htb
      have hb := purB_bounds hp
      have ht := timeB_bounds htb
      simp only [purB, inB, Bool.and_eq_true, decide_eq_true_eq]
      by_cases h3 : atN x t < c
      · rw [if_pos h3]; dsimp only; omega
      · rw [if_neg h3]; dsimp only; omega
  · rw [if_neg h1] at h; simp [codeO] at h
/-- An ask of a right purse, no earlier, within time. -/
theorem ask_ok {r b l s c t : Int} (hp : purB ⟨r, b, l, s⟩ = true) (hc : 0 ≤ c) (h1 : s ≤ t) (h2 : t ≤ 1000000) : ∃ (l' : Int) (y : Bool), askT ⟨r, b, l, s⟩ c t = ⟨⟨r, b, l', t⟩, y, 0⟩ ∧ purB ⟨r, b, l', t⟩ = true ∧ 0 ≤ l' ∧ l' ≤ l + r * (t - s) - (if y = true then c else 0) := by
  have hb := purB_bounds hp
  have hq : inB t 0 1000000 = true := by simp [inB]; dsimp only at hb; omega
  have htb : timeB ⟨r, b, l, s⟩ t = true := fault_time.1 (by unfold faultT; rw [hp, hq]; simp; omega)
  have hn := atN_bounds htb
  have hr := ask_right (x := ⟨r, b, l, s⟩) (c := c) (t := t)
  have hle : atN ⟨r, b, l, s⟩ t ≤ l + r * (t - s) := Int.min_le_right _ _
  rw [askT_spec, hp, hq, if_pos (by simp; exact hc), if_neg (by dsimp only; omega)] at hr ⊢
  by_cases h3 : atN ⟨r, b, l, s⟩ t < c
  · rw [if_pos h3] at hr ⊢
    exact ⟨_, false, rfl, hr rfl, hn.1, by rw [if_neg (by decide)]; omega⟩
  · rw [if_neg h3] at hr ⊢
    exact ⟨_, true, rfl, hr rfl, by omega, by rw [if_pos rfl]; omega⟩
theorem fieldP (r b l t : Int) (y : Bool) (k : Int) (W : World) : Sem.run Tryd.prog (Instr.field 28 (.agg #[.int .i64 r, .int .i64 b, .int .i64 l, .int .i64 t, .bool y, .int .i64 k]) 0) W = .ok (.agg #[.int .i64 r, .int .i64 b, .int .i64 l, .int .i64 t]) W := by rfl
theorem okP {x : BP} (h : purB x = true) : x.ok := by
  have := purB_bounds h
  unfold BP.ok OkI
  omega
set_option maxHeartbeats 16000000 in
theorem purseWalk (w : World) (a0 : Option Addr) (len0 cap0 : Nat) (a1 : Option Addr) (len1 cap1 : Nat) (b0 : Draws.BytesAt w w.heap.size a0 len0) (b1 : Draws.BytesAt w w.heap.size a1 len1) (hv : ErrVar w) :
    Calls Tryd.prog 3 #[.slice a0 len0 cap0, .slice a1 len1 cap1] w fun e w' => e = .returned (.bool true) ∧ Below w.heap.size w w' := by
  have B0 := Lib.hid b0
  have B1 := Lib.hid b1
  have HV := Lib.hid hv
  clear b0 b1 hv
  by_cases hbig : 1048576 < len0
  · have hbi : (1048576 : Int) < (len0 : Int) := by omega
    go_enter Tryd.func3, Tryd.ntmps3
    go_wp2_with fail
    go_ret
    exact ⟨rfl, Below.refl _ _⟩
  have hbi : (len0 : Int) ≤ 1048576 := by omega
  by_cases hbig1 : 1048576 < len1
  · have hbi1 : (1048576 : Int) < (len1 : Int) := by omega
    clear hbig
    go_enter Tryd.func3, Tryd.ntmps3
    go_wp2_with fail
    go_ret
    exact ⟨rfl, Below.refl _ _⟩
  have hbi1 : (len1 : Int) ≤ 1048576 := by omega
  clear hbig hbig1
  have HL0 : Hid (len0 ≤ 140737488351232 ∧ len1 ≤ 140737488351232) := Lib.hid (by omega)
  have HAT : Hid (∀ (W : World), Below w.heap.size w W → ∀ (k : Nat), k ≤ 100 → ∀ most : Int, most ≤ 1000000 → (Calls Tryd.prog 16 #[.slice a0 len0 cap0, .int .i64 k, .int .i64 most] W fun e w' => (∃ r : Int, e = .returned (.int .i64 r) ∧ 0 ≤ r ∧ (r < most ∨ r = 0)) ∧ W = w') ∧ (Calls Tryd.prog 16 #[.slice a1 len1 cap1, .int .i64 k, .int .i64 most] W fun e w' => (∃ r : Int, e = .returned (.int .i64 r) ∧ 0 ≤ r ∧ (r < most ∨ r = 0)) ∧ W = w')) := Lib.hid fun W hW k hk most hm =>
    ⟨Draws.lwAt W w.heap.size len0 cap0 a0 (B0.out.below hW) HL0.out.1 k hk most hm, Draws.lwAt W w.heap.size len1 cap1 a1 (B1.out.below hW) HL0.out.2 k hk most hm⟩
  go_enter Tryd.func3, Tryd.ntmps3
  go_wp2_with fail
  refine (Draws.drawAsk _ len0 cap0 a0 B0.out HL0.out.1).mono ?_
  rintro e w1 ⟨⟨⟨x0, x1, x2, x3⟩, c, t, hx, rfl⟩, hb⟩
  have HX := Lib.hid hx
  have HB1 : Hid (Below w.heap.size w (w1.alloc (.cells #[.int .i64 x0, .int .i64 x1, .int .i64 x2, .int .i64 x3] 24))) := Lib.hid (hb.alloc hb.size _)
  have HK1 : Hid ((w1.alloc (.cells #[.int .i64 x0, .int .i64 x1, .int .i64 x2, .int .i64 x3] 24)).heap[w1.heap.size]? = some (.cells #[.int .i64 x0, .int .i64 x1, .int .i64 x2, .int .i64 x3] 24 (0, 0))) := Lib.hid (heap_alloc_new w1 _)
  clear hb hx
  have CI : Hid (∀ W, Below w.heap.size w W → Calls Tryd.prog 6 #[.agg #[.int .i64 x0, .int .i64 x1, .int .i64 x2, .int .i64 x3], .int .i64 c, .int .i64 t] W fun e w' => e = .returned (askT ⟨x0, x1, x2, x3⟩ c t).val ∧ Below W.heap.size W w') := Lib.hid fun W h => implPurseAsk W ⟨x0, x1, x2, x3⟩ HX.out.1 c HX.out.2.1 t HX.out.2.2 (HV.out.below h)
  have CS : Hid (∀ W, Calls Tryd.prog 9 #[.agg #[.int .i64 x0, .int .i64 x1, .int .i64 x2, .int .i64 x3], .int .i64 c, .int .i64 t] W fun e w' => e = .returned (askT ⟨x0, x1, x2, x3⟩ c t).val ∧ Below W.heap.size W w') := Lib.hid fun W => specPurseAsk W ⟨x0, x1, x2, x3⟩ HX.out.1 c HX.out.2.1 t HX.out.2.2
  have HR := Lib.hid (ask_right (x := ⟨x0, x1, x2, x3⟩) (c := c) (t := t))
  generalize askT ⟨x0, x1, x2, x3⟩ c t = O at *
  obtain ⟨⟨y0, y1, y2, y3⟩, yy, yk⟩ := O
  simp only [PO.val, BP.val] at *
  go_wp2_with fail
  refine (CI.out _ HB1.out).mono ?_
  rintro e w2 ⟨rfl, hb⟩
  have HB2 : Hid (Below w.heap.size w (w2.alloc (.cells #[.int .i64 y0, .int .i64 y1, .int .i64 y2, .int .i64 y3, .bool yy, .int .i64 yk] 28))) := Lib.hid (by have h := HB1.out.trans (hb.mono HB1.out.size); exact h.alloc h.size _)
  have hk2 := (hb.block _ (lt_of_get HK1.out)).trans HK1.out
  have HK2 : Hid ((w2.alloc (.cells #[.int .i64 y0, .int .i64 y1, .int .i64 y2, .int .i64 y3, .bool yy, .int .i64 yk] 28)).heap[w1.heap.size]? = some (.cells #[.int .i64 x0, .int .i64 x1, .int .i64 x2, .int .i64 x3] 24 (0, 0)) ∧ (w2.alloc (.cells #[.int .i64 y0, .int .i64 y1, .int .i64 y2, .int .i64 y3, .bool yy, .int .i64 yk] 28)).heap[w2.heap.size]? = some (.cells #[.int .i64 y0, .int .i64 y1, .int .i64 y2, .int .i64 y3, .bool yy, .int .i64 yk] 28 (0, 0))) := Lib.hid ⟨(Go.Deep.blk_alloc_lt w2 _ _ (lt_of_get hk2)).trans hk2, heap_alloc_new w2 _⟩
  clear hb hk2 HK1 HB1 CI
  go_wp2_with fail
  refine (Draws.drawNew _ len1 cap1 a1 ((B1.out.below HB2.out).mono HB2.out.size) HL0.out.2).mono ?_
  rintro e w3 ⟨⟨r, b, at_, hn, rfl⟩, hb⟩
  have HN := Lib.hid hn
  have HB3 := Lib.hid (HB2.out.trans (hb.mono HB2.out.size))
  have HK3 := Lib.hid (And.intro ((hb.block _ (lt_of_get HK2.out.1)).trans HK2.out.1) ((hb.block _ (lt_of_get HK2.out.2)).trans HK2.out.2))
  clear hb hn HK2 HB2
  go_wp2_with fail
  refine (Draws.drawAt _ len1 cap1 a1 ((B1.out.below HB3.out).mono HB3.out.size) HL0.out.2).mono ?_
  rintro e w4 ⟨⟨⟨z0, z1, z2, z3⟩, then_, hz, rfl⟩, hb⟩
  have HZ := Lib.hid hz
  have HB4 : Hid (Below w.heap.size w (w4.alloc (.cells #[.int .i64 z0, .int .i64 z1, .int .i64 z2, .int .i64 z3] 24))) := Lib.hid (by have h := HB3.out.trans (hb.mono HB3.out.size); exact h.alloc h.size _)
  have hk4 := And.intro ((hb.block _ (lt_of_get HK3.out.1)).trans HK3.out.1) ((hb.block _ (lt_of_get HK3.out.2)).trans HK3.out.2)
  obtain ⟨W0, hW0⟩ : ∃ x, w4.alloc (.cells #[.int .i64 z0, .int .i64 z1, .int .i64 z2, .int .i64 z3] 24) = x := ⟨_, rfl⟩
  have HK4 : Hid (W0.heap[w1.heap.size]? = some (.cells #[.int .i64 x0, .int .i64 x1, .int .i64 x2, .int .i64 x3] 24 (0, 0)) ∧ W0.heap[w2.heap.size]? = some (.cells #[.int .i64 y0, .int .i64 y1, .int .i64 y2, .int .i64 y3, .bool yy, .int .i64 yk] 28 (0, 0)) ∧ W0.heap[w4.heap.size]? = some (.cells #[.int .i64 z0, .int .i64 z1, .int .i64 z2, .int .i64 z3] 24 (0, 0))) := Lib.hid (by rw [← hW0]; exact ⟨(Go.Deep.blk_alloc_lt w4 _ _ (lt_of_get hk4.1)).trans hk4.1, (Go.Deep.blk_alloc_lt w4 _ _ (lt_of_get hk4.2)).trans hk4.2, heap_alloc_new w4 _⟩)
  have CN : Hid (∀ W, Calls Tryd.prog 10 #[.int .i64 r, .int .i64 b, .int .i64 at_] W fun e w' => e = .returned (newO r b at_).val ∧ Below W.heap.size W w') := Lib.hid fun W => implPurseNew W r b at_ HN.out.1 HN.out.2.1 HN.out.2.2
  have CM : Hid (∀ W, Calls Tryd.prog 11 #[.int .i64 r, .int .i64 b, .int .i64 at_] W fun e w' => e = .returned (newO r b at_).val ∧ Below W.heap.size W w') := Lib.hid fun W => specPurseNew W r b at_ HN.out.1 HN.out.2.1 HN.out.2.2
  have CA : Hid (∀ W, Calls Tryd.prog 12 #[.agg #[.int .i64 z0, .int .i64 z1, .int .i64 z2, .int .i64 z3], .int .i64 then_] W fun e w' => e = .returned (.int .i64 (atT ⟨z0, z1, z2, z3⟩ then_)) ∧ Below W.heap.size W w') := Lib.hid fun W => implPurseAt W ⟨z0, z1, z2, z3⟩ HZ.out.1 then_ HZ.out.2
  have CB : Hid (∀ W, Calls Tryd.prog 13 #[.agg #[.int .i64 z0, .int .i64 z1, .int .i64 z2, .int .i64 z3], .int .i64 then_] W fun e w' => e = .returned (.int .i64 (atT ⟨z0, z1, z2, z3⟩ then_)) ∧ Below W.heap.size W w') := Lib.hid fun W => specPurseAt W ⟨z0, z1, z2, z3⟩ HZ.out.1 then_ HZ.out.2
  have CP : Hid (∀ W, Calls Tryd.prog 14 #[.agg #[.int .i64 x0, .int .i64 x1, .int .i64 x2, .int .i64 x3]] W fun e w' => e = .returned (.bool (purB ⟨x0, x1, x2, x3⟩)) ∧ Below W.heap.size W w') := Lib.hid fun W => implPurseRight W ⟨x0, x1, x2, x3⟩ HX.out.1
  have CQ : Hid (∀ W, Calls Tryd.prog 15 #[.agg #[.int .i64 x0, .int .i64 x1, .int .i64 x2, .int .i64 x3]] W fun e w' => e = .returned (.bool (purB ⟨x0, x1, x2, x3⟩)) ∧ Below W.heap.size W w') := Lib.hid fun W => specPurseRight W ⟨x0, x1, x2, x3⟩ HX.out.1
  generalize newO r b at_ = NO at *
  obtain ⟨⟨o0, o1, o2, o3⟩, oy, ok⟩ := NO
  generalize atT ⟨z0, z1, z2, z3⟩ then_ = AT at *
  generalize purB ⟨x0, x1, x2, x3⟩ = PB at *
  simp only [PO.val, BP.val] at *
  have HB5 := HB4
  rw [hW0] at HB5
  clear hb hk4 hz HK3 HB3 HB4
  go_upto_region 7 with fail
  first | rw [hW0] | skip
  clear hW0
  have HSS : Hid (∀ X, Below W0.heap.size W0 X → X.heap[w1.heap.size]? = some (.cells #[.int .i64 x0, .int .i64 x1, .int .i64 x2, .int .i64 x3] 24 (0, 0)) ∧ X.heap[w2.heap.size]? = some (.cells #[.int .i64 y0, .int .i64 y1, .int .i64 y2, .int .i64 y3, .bool yy, .int .i64 yk] 28 (0, 0)) ∧ X.heap[w4.heap.size]? = some (.cells #[.int .i64 z0, .int .i64 z1, .int .i64 z2, .int .i64 z3] 24 (0, 0))) := Lib.hid fun X h => ⟨(h.block _ (lt_of_get HK4.out.1)).trans HK4.out.1, (h.block _ (lt_of_get HK4.out.2.1)).trans HK4.out.2.1, (h.block _ (lt_of_get HK4.out.2.2)).trans HK4.out.2.2⟩
  have bneg : ∀ n : Bool, (!(n == n)) = false := fun n => by cases n <;> rfl
  go_cut [92] from 49 to 91 (fun v wx => v = .bool false ∧ Hid (Below w.heap.size w wx))
  case first => as_aux_lemma =>
    refine region_of (S := fun X => Below W0.heap.size W0 X) (by kernel_rfl) ?_
    have HM := Lib.hid (show (fun X => Below W0.heap.size W0 X) W0.drew from (Below.refl _ _).drew)
    refine tU 0 ?v1 HM.out ?y1 ?_
    case y1 => intro W hSw; have ⟨⟨p0, p1, p2, p3, p4, p5⟩, _⟩ := keep6 (HSS.out W hSw).2.1; go_simp; try with_reducible rfl
    try simp only [Act.put, p1, p2, p3]
    refine tU 1 ?v2 HM.out ?y2 ?_
    case y2 => intro W hSw; have ⟨⟨p0, p1, p2, p3⟩, _⟩ := keep4 (HSS.out W hSw).1; go_simp; try with_reducible rfl
    try simp only [Act.put, p1, p2, p3]
    refine tU 2 ?v3 HM.out ?y3 ?_
    case y3 => intro W hSw; go_simp; try with_reducible rfl
    try simp only [Act.put, p1, p2, p3]
    refine tU 3 ?v4 HM.out ?y4 ?_
    case y4 => intro W hSw; go_simp; try with_reducible rfl
    try simp only [Act.put, p1, p2, p3]
    refine dO 4 (by kernel_rfl) rfl fun K hK => ?_
    go_simp
    refine (CS.out _).mono ?_
    rintro e wn ⟨rfl, hb⟩
    have HM2 := Lib.hid (HM.out.trans (hb.mono HM.out.size))
    go_wp2_with fail
    refine hK.out _ _ HM2.out ?_
    clear hK K HM hb
    have HM := HM2
    clear HM2
    try simp only [Act.put, p1, p2, p3]
    refine tU 5 (.bool false) HM.out ?y5 ?_
    case y5 => intro W hSw; go_simp; try simp
    try simp only [Act.put, p1, p2, p3]
    refine tU 6 ?v6 HM.out ?y6 ?_
    case y6 => intro W hSw; go_simp; try with_reducible rfl
    try simp only [Act.put, p1, p2, p3]
    refine tU 7 ?v7 HM.out ?y7 ?_
    case y7 => intro W hSw; go_simp; try with_reducible rfl
    try simp only [Act.put, p1, p2, p3]
    refine tU 8 ?v8 HM.out ?y8 ?_
    case y8 => intro W hSw; go_simp; try with_reducible rfl
    try simp only [Act.put, p1, p2, p3]
    refine tU 9 ?v9 HM.out ?y9 ?_
    case y9 => intro W hSw; go_simp; try with_reducible rfl
    try simp only [Act.put, p1, p2, p3]
    refine tU 11 ?v10 HM.out ?y10 ?_
    case y10 => intro W hSw; go_simp; try with_reducible rfl
    try simp only [Act.put, p1, p2, p3]
    refine tU 12 ?v11 HM.out ?y11 ?_
    case y11 => intro W hSw; go_simp; try with_reducible rfl
    try simp only [Act.put, p1, p2, p3]
    refine tU 13 ?v12 HM.out ?y12 ?_
    case y12 => intro W hSw; go_simp; try with_reducible rfl
    try simp only [Act.put, p1, p2, p3]
    refine dO 10 (by kernel_rfl) rfl fun K hK => ?_
    go_simp
    refine (CN.out _).mono ?_
    rintro e wn ⟨rfl, hb⟩
    have HM2 := Lib.hid (HM.out.trans (hb.mono HM.out.size))
    go_wp2_with fail
    refine hK.out _ _ HM2.out ?_
    clear hK K HM hb
    have HM := HM2
    clear HM2
    try simp only [Act.put, p1, p2, p3]
    refine dO 14 (by kernel_rfl) rfl fun K hK => ?_
    go_simp
    refine (CM.out _).mono ?_
    rintro e wn ⟨rfl, hb⟩
    have HM2 := Lib.hid (HM.out.trans (hb.mono HM.out.size))
    go_wp2_with fail
    refine hK.out _ _ HM2.out ?_
    clear hK K HM hb
    have HM := HM2
    clear HM2
    try simp only [Act.put, p1, p2, p3]
    refine tU 15 (.bool false) HM.out ?y13 ?_
    case y13 => intro W hSw; go_simp; try simp
    try simp only [Act.put, p1, p2, p3]
    refine tU 16 ?v14 HM.out ?y14 ?_
    case y14 => intro W hSw; go_simp; try with_reducible rfl
    try simp only [Act.put, p1, p2, p3]
    refine tU 17 ?v15 HM.out ?y15 ?_
    case y15 => intro W hSw; go_simp; try with_reducible rfl
    try simp only [Act.put, p1, p2, p3]
    refine tU 18 ?v16 HM.out ?y16 ?_
    case y16 => intro W hSw; have ⟨⟨p0, p1, p2, p3⟩, _⟩ := keep4 (HSS.out W hSw).2.2; go_simp; try with_reducible rfl
    try simp only [Act.put, p1, p2, p3]
    refine tU 19 ?v17 HM.out ?y17 ?_
    case y17 => intro W hSw; go_simp; try with_reducible rfl
    try simp only [Act.put, p1, p2, p3]
    refine tU 21 ?v18 HM.out ?y18 ?_
    case y18 => intro W hSw; have ⟨⟨p0, p1, p2, p3⟩, _⟩ := keep4 (HSS.out W hSw).2.2; go_simp; try with_reducible rfl
    try simp only [Act.put, p1, p2, p3]
    refine tU 22 ?v19 HM.out ?y19 ?_
    case y19 => intro W hSw; go_simp; try with_reducible rfl
    try simp only [Act.put, p1, p2, p3]
    refine dO 20 (by kernel_rfl) rfl fun K hK => ?_
    go_simp
    refine (CA.out _).mono ?_
    rintro e wn ⟨rfl, hb⟩
    have HM2 := Lib.hid (HM.out.trans (hb.mono HM.out.size))
    go_wp2_with fail
    refine hK.out _ _ HM2.out ?_
    clear hK K HM hb
    have HM := HM2
    clear HM2
    try simp only [Act.put, p1, p2, p3]
    refine dO 23 (by kernel_rfl) rfl fun K hK => ?_
    go_simp
    refine (CB.out _).mono ?_
    rintro e wn ⟨rfl, hb⟩
    have HM2 := Lib.hid (HM.out.trans (hb.mono HM.out.size))
    go_wp2_with fail
    refine hK.out _ _ HM2.out ?_
    clear hK K HM hb
    have HM := HM2
    clear HM2
    try simp only [Act.put, p1, p2, p3]
    refine tU 24 (.bool false) HM.out ?y20 ?_
    case y20 => intro W hSw; go_simp; try simp
    try simp only [Act.put, p1, p2, p3]
    refine tU 25 ?v21 HM.out ?y21 ?_
    case y21 => intro W hSw; go_simp; try with_reducible rfl
    try simp only [Act.put, p1, p2, p3]
    refine tU 26 ?v22 HM.out ?y22 ?_
    case y22 => intro W hSw; go_simp; try with_reducible rfl
    try simp only [Act.put, p1, p2, p3]
    refine tU 27 ?v23 HM.out ?y23 ?_
    case y23 => intro W hSw; have ⟨⟨p0, p1, p2, p3⟩, _⟩ := keep4 (HSS.out W hSw).1; go_simp; try with_reducible rfl
    try simp only [Act.put, p1, p2, p3]
    refine tU 29 ?v24 HM.out ?y24 ?_
    case y24 => intro W hSw; have ⟨⟨p0, p1, p2, p3⟩, _⟩ := keep4 (HSS.out W hSw).1; go_simp; try with_reducible rfl
    try simp only [Act.put, p1, p2, p3]
    refine dO 28 (by kernel_rfl) rfl fun K hK => ?_
    go_simp
    refine (CP.out _).mono ?_
    rintro e wn ⟨rfl, hb⟩
    have HM2 := Lib.hid (HM.out.trans (hb.mono HM.out.size))
    go_wp2_with fail
    refine hK.out _ _ HM2.out ?_
    clear hK K HM hb
    have HM := HM2
    clear HM2
    try simp only [Act.put, p1, p2, p3]
    refine dO 30 (by kernel_rfl) rfl fun K hK => ?_
    go_simp
    refine (CQ.out _).mono ?_
    rintro e wn ⟨rfl, hb⟩
    have HM2 := Lib.hid (HM.out.trans (hb.mono HM.out.size))
    go_wp2_with fail
    refine hK.out _ _ HM2.out ?_
    clear hK K HM hb
    have HM := HM2
    clear HM2
    try simp only [Act.put, p1, p2, p3]
    refine tU 31 (.bool false) HM.out ?y25 ?_
    case y25 => intro W hSw; go_simp; try simp
    try simp only [Act.put, p1, p2, p3]
    refine tU 32 ?v26 HM.out ?y26 ?_
    case y26 => intro W hSw; go_simp; try with_reducible rfl
    try simp only [Act.put, p1, p2, p3]
    refine tU 33 ?v27 HM.out ?y27 ?_
    case y27 => intro W hSw; go_simp; try with_reducible rfl
    try simp only [Act.put, p1, p2, p3]
    refine tU 34 ?v28 HM.out ?y28 ?_
    case y28 => intro W hSw; go_simp; try with_reducible rfl
    try simp only [Act.put, p1, p2, p3]
    refine tU 35 ?v29 HM.out ?y29 ?_
    case y29 => intro W hSw; have ⟨⟨p0, p1, p2, p3, p4, p5⟩, _⟩ := keep6 (HSS.out W hSw).2.1; go_simp; try with_reducible rfl
    try simp only [Act.put, p1, p2, p3]
    by_cases hk : yk = 0
    · subst hk
      have CY : Hid (∀ W, Calls Tryd.prog 15 #[.agg #[.int .i64 y0, .int .i64 y1, .int .i64 y2, .int .i64 y3]] W fun e w' => e = .returned (.bool true) ∧ Below W.heap.size W w') := Lib.hid fun W => (specPurseRight W ⟨y0, y1, y2, y3⟩ (okP (HR.out rfl))).mono fun e w' h => ⟨by rw [h.1, HR.out rfl], h.2⟩
      refine tU 36 ?v30 HM.out ?y30 ?_
      case y30 => intro W hSw; go_simp; try with_reducible rfl
      try simp only [Act.put, p1, p2, p3]
      refine tU 37 ?v31 HM.out ?y31 ?_
      case y31 => intro W hSw; go_simp; try with_reducible rfl
      try simp only [Act.put, p1, p2, p3]
      refine tU 38 ?v32 HM.out ?y32 ?_
      case y32 => intro W hSw; go_simp; try with_reducible rfl
      try simp only [Act.put, p1, p2, p3]
      refine tU 39 ?v33 HM.out ?y33 ?_
      case y33 => intro W hSw; have ⟨⟨p0, p1, p2, p3, p4, p5⟩, _⟩ := keep6 (HSS.out W hSw).2.1; go_simp; try with_reducible rfl
      try simp only [Act.put, p1, p2, p3]
      refine dO 40 (by kernel_rfl) rfl fun K hK => ?_
      go_simp
      refine (CY.out _).mono ?_
      rintro e wn ⟨rfl, hb⟩
      have HM2 := Lib.hid (HM.out.trans (hb.mono HM.out.size))
      go_wp2_with fail
      refine hK.out _ _ HM2.out ?_
      clear hK K HM hb
      have HM := HM2
      clear HM2
      try simp only [Act.put, p1, p2, p3]
      refine tU 41 ?v34 HM.out ?y34 ?_
      case y34 => intro W hSw; go_simp; try with_reducible rfl
      try simp only [Act.put, p1, p2, p3]
      refine tU 42 ?v35 HM.out ?y35 ?_
      case y35 => intro W hSw; go_simp; try with_reducible rfl
      try simp only [Act.put, p1, p2, p3]
      refine tU 43 ?v36 HM.out ?y36 ?_
      case y36 => intro W hSw; go_simp; try with_reducible rfl
      try simp only [Act.put, p1, p2, p3]
      refine Due.anyD_done (by kernel_rfl) ?_ _
      go_wp2_with fail
      go_meet
      exact ⟨rfl, Lib.hid (HB5.out.trans (HM.out.mono HB5.out.size))⟩
    · have hkb : (yk == 0) = false := by simp [hk]
      refine tU 36 ?v37 HM.out ?y37 ?_
      case y37 => intro W hSw; go_simp; try with_reducible rfl
      try simp only [Act.put, p1, p2, p3]
      refine tU 37 ?v38 HM.out ?y38 ?_
      case y38 => intro W hSw; go_simp; try with_reducible rfl
      try simp only [Act.put, p1, p2, p3]
      refine tX 38 HM.out ?_
      try simp only [Act.put, p1, p2, p3]
      refine tX 39 HM.out ?_
      try simp only [Act.put, p1, p2, p3]
      refine tX 40 HM.out ?_
      try simp only [Act.put, p1, p2, p3]
      refine tX 41 HM.out ?_
      try simp only [Act.put, p1, p2, p3]
      refine tU 42 ?v43 HM.out ?y43 ?_
      case y43 => intro W hSw; go_simp; try with_reducible rfl
      try simp only [Act.put, p1, p2, p3]
      refine tU 43 ?v44 HM.out ?y44 ?_
      case y44 => intro W hSw; go_simp; try with_reducible rfl
      try simp only [Act.put, p1, p2, p3]
      refine Due.anyD_done (by kernel_rfl) ?_ _
      go_wp2_with fail
      go_meet
      exact ⟨rfl, Lib.hid (HB5.out.trans (HM.out.mono HB5.out.size))⟩
  case rest => as_aux_lemma =>
    obtain ⟨rfl, HBC⟩ := hcut
    clear CS CN CM CA CB CP CQ HR HX HN HZ HSS HK4 HB5 bneg
    go_wp2_with fail
    refine ((HAT.out _ HBC.out 0 (by omega) 4 (by omega)).1).mono ?_
    rintro e wa ⟨⟨r0, rfl, a2, a3⟩, rfl⟩
    go_wp2_with fail
    refine ((HAT.out _ HBC.out 0 (by omega) 20 (by omega)).2).mono ?_
    rintro e wb ⟨⟨q0, rfl, c2, c3⟩, rfl⟩
    have hr4 : r0 ≤ 3 := by omega
    have hq4 : q0 ≤ 19 := by omega
    have CW : Hid (∀ W, Calls Tryd.prog 10 #[.int .i64 r0, .int .i64 q0, .int .i64 0] W fun e w' => e = .returned (.agg #[.int .i64 r0, .int .i64 q0, .int .i64 q0, .int .i64 0, .bool false, .int .i64 0]) ∧ Below W.heap.size W w') := Lib.hid fun W => by
      have h := implPurseNew W r0 q0 0 (by unfold OkI; omega) (by unfold OkI; omega) (by unfold OkI; omega)
      rw [newO_right a2 (by omega) c2 (by omega)] at h
      exact h
    clear a3 c3
    go_wp2_with fail
    refine (CW.out _).mono ?_
    rintro e wd ⟨rfl, hb⟩
    have HBD : Hid (Below w.heap.size w (wd.alloc (.cells #[.int .i64 r0, .int .i64 q0, .int .i64 q0, .int .i64 0] 24))) := Lib.hid (by have h := HBC.out.trans (hb.mono HBC.out.size); exact h.alloc h.size _)
    have hwd : w.heap.size ≤ wd.heap.size := Nat.le_trans HBC.out.size hb.size
    have HWD := Lib.hid hwd
    have HKD : Hid ((wd.alloc (.cells #[.int .i64 r0, .int .i64 q0, .int .i64 q0, .int .i64 0] 24)).heap[wd.heap.size]? = some (.cells #[.int .i64 r0, .int .i64 q0, .int .i64 q0, .int .i64 0] 24 (0, 0))) := Lib.hid (heap_alloc_new wd _)
    have hfl := fieldP r0 q0 q0 0 false 0
    clear hb CW HBC hwd
    go_wp2_with fail
    first | rw [hfl] | skip
    clear hfl
    go_wp2_with fail
    obtain ⟨W1, hW1⟩ : ∃ x, wd.alloc (.cells #[.int .i64 r0, .int .i64 q0, .int .i64 q0, .int .i64 0] 24) = x := ⟨_, rfl⟩
    obtain ⟨gy, hgy⟩ : ∃ x, wd.heap.size = x := ⟨_, rfl⟩
    rw [hW1, hgy] at HKD
    rw [hW1] at HBD
    rw [hgy] at HWD
    first | rw [hW1] | skip
    first | rw [hgy] | skip
    clear hW1 hgy
    go_loopw [15, 16, 17] (fun gv tv iv wr => ∃ (i : Nat) (gn t l : Int), i ≤ 40 ∧ gv = .int .i64 gn ∧ tv = .int .i64 t ∧ iv = .int .i64 i ∧ Hid (purB ⟨r0, q0, l, t⟩ = true ∧ 0 ≤ gn ∧ gn + l ≤ q0 + r0 * t ∧ 0 ≤ t ∧ t ≤ 2 * i) ∧ Hid (wr.heap[gy]? = some (.cells #[.int .i64 r0, .int .i64 q0, .int .i64 l, .int .i64 t] 24 (0, 0)) ∧ Below w.heap.size w wr)) (fun _ _ iv _ => 40 - (intOf iv).toNat)
    case atStart => exact ⟨0, 0, 0, q0, by omega, rfl, rfl, rfl, Lib.hid ⟨by simp [purB, inB]; omega, by omega, by simp, by omega, by omega⟩, Lib.hid ⟨HKD.out, HBD.out⟩⟩
    case round =>
      obtain ⟨i, gn, t, l, hi, rfl, rfl, rfl, HI, HW⟩ := hrel
      by_cases hlt : i < 40
      · have hli : (i : Int) < 40 := by omega
        obtain ⟨i1, i2, i3, i4, i5⟩ := HI.out
        have hb := purB_bounds i1
        dsimp only at hb
        obtain ⟨_, _, ⟨l1, l2⟩, _⟩ := hb
        have hgn : gn ≤ q0 + r0 * t := by omega
        have ⟨m1, m2⟩ := back_bounds a2 (by omega : r0 ≤ 1000) i4 (by omega : t ≤ 1000000)
        generalize r0 * t = M at hgn m1 m2
        clear i3
        go_wp2_with fail
        refine ((HAT.out _ HW.out.2 i (by omega) 3 (by omega)).1).mono ?_
        rintro e wa ⟨⟨d, rfl, d1, d2⟩, rfl⟩
        have hd2 : d ≤ 2 := by omega
        clear d2
        go_wp2_with fail
        refine ((HAT.out _ HW.out.2 i (by omega) 9 (by omega)).2).mono ?_
        rintro e wb ⟨⟨c, rfl, e1, e2⟩, rfl⟩
        have he2 : c ≤ 8 := by omega
        clear e2
        obtain ⟨l', y, ha, hp', hl0, hl'⟩ := ask_ok (c := c) i1 e1 (by omega : t ≤ t + d) (by omega : t + d ≤ 1000000)
        have HNX : Hid (purB ⟨r0, q0, l', t + d⟩ = true ∧ 0 ≤ l' ∧ (gn + (if y = true then c else 0)) + l' ≤ q0 + r0 * (t + d)) := Lib.hid ⟨hp', hl0, by
          have h3 := HI.out.2.2.1
          have h4 : r0 * (t + d - t) = r0 * (t + d) - r0 * t := Int.mul_sub _ _ _
          omega⟩
        have CK : Hid (∀ W, Below w.heap.size w W → Calls Tryd.prog 6 #[.agg #[.int .i64 r0, .int .i64 q0, .int .i64 l, .int .i64 t], .int .i64 c, .int .i64 (t + d)] W fun e w' => e = .returned (.agg #[.int .i64 r0, .int .i64 q0, .int .i64 l', .int .i64 (t + d), .bool y, .int .i64 0]) ∧ Below W.heap.size W w') := Lib.hid fun W h => by
          have h2 := implPurseAsk W ⟨r0, q0, l, t⟩ (okP HI.out.1) c (by unfold OkI; omega) (t + d) (by unfold OkI; omega) (HV.out.below h)
          rw [ha] at h2
          exact h2
        have ⟨⟨p0, p1, p2, p3⟩, f0, f1, f2, f3⟩ := keep4 HW.out.1
        have hgl : gy < wr.heap.size := lt_of_get HW.out.1
        clear i1 ha hp' hl'
        go_wp2_with fail
        refine (CK.out _ HW.out.2).mono ?_
        rintro e w5 ⟨rfl, hb5⟩
        have hk5 := (hb5.block _ hgl).trans HW.out.1
        have hgl5 : gy < w5.heap.size := lt_of_get hk5
        have HB5 := Lib.hid (HW.out.2.trans (hb5.mono HW.out.2.size))
        have ⟨⟨s0, s1, s2, s3⟩, f4, f5, f6, f7⟩ := keep4 hk5
        have HK5 := Lib.hid hk5
        obtain ⟨n, hn⟩ : ∃ n, r0 * (t + d) = n := ⟨_, rfl⟩
        rw [hn] at HNX
        have ⟨n1, n2⟩ := back_bounds a2 (by omega : r0 ≤ 1000) (by omega : 0 ≤ t + d) (by omega : t + d ≤ 1000000)
        rw [hn] at n1 n2
        have HRN := Lib.hid hn
        clear hk5 hb5 CK p0 p1 p2 p3 f0 f1 f2 f3
        cases y
        · have hfin : gn ≤ q0 + n := by have := HNX.out; simp at this; omega
          go_wp2_with fail
          go_roundw
          case rel => exact ⟨i + 1, gn, t + d, l', by omega, rfl, rfl, by go_num, Lib.hid ⟨HNX.out.1, by omega, by have h9 := HNX.out.2.2; rw [HRN.out]; simp at h9; omega, by omega, by omega⟩, Lib.hid ⟨(Go.Deep.blk_alloc_lt _ _ _ (by simpa using hgl5)).trans (put4_row HK5.out _ _ _ _), (Below.put4 HB5.out HWD.out _ _ _ _).alloc (by simpa using HB5.out.size) _⟩⟩
          case measure => simp [intOf]; omega
        · have hfin : gn + c ≤ q0 + n := by have := HNX.out; simp at this; omega
          go_wp2_with fail
          go_roundw
          case rel => exact ⟨i + 1, gn + c, t + d, l', by omega, rfl, rfl, by go_num, Lib.hid ⟨HNX.out.1, by omega, by have h9 := HNX.out.2.2; rw [HRN.out]; simp at h9; omega, by omega, by omega⟩, Lib.hid ⟨(Go.Deep.blk_alloc_lt _ _ _ (by simpa using hgl5)).trans (put4_row HK5.out _ _ _ _), (Below.put4 HB5.out HWD.out _ _ _ _).alloc (by simpa using HB5.out.size) _⟩⟩
          case measure => simp [intOf]; omega
      · obtain rfl : i = 40 := by omega
        go_wp2_with fail
        go_ret
        exact ⟨rfl, HW.out.2⟩
end Go.Proofs.YtlbjnblbjbdaaaaDoor.Pur
