/-
  Contract: spec.PurseAsk. Conditions: numbers of int64.
-/
import Derived.Test.YtlbjnblbjbdaaaaDoorRows
import Derived.Test.YtlbjnblbjbdaaaaDoorPurJ
namespace Go.Proofs.YtlbjnblbjbdaaaaDoor.Pur
open Go.RowKit Rw Bnd
set_option linter.unusedVariables false
set_option maxRecDepth 100000

theorem askT_spec (x : BP) (c t : Int) : askT x c t = if (purB x && (decide (0 ≤ c) && inB t 0 1000000)) = true then (if t < x.b then codeO 8 else if atN x t < c then ⟨⟨x.d, x.c, atN x t, t⟩, false, 0⟩ else ⟨⟨x.d, x.c, atN x t - c, t⟩, true, 0⟩) else codeO 1 := by
  unfold askT givO faultT
  generalize purB x = P
  generalize inB t 0 1000000 = Q
  generalize atN x t = N
  by_cases h1 : c < 0
  · rw [if_pos h1, if_neg (by simp; intro _ h; omega)]; rfl
  · have h1' : decide (0 ≤ c) = true := by simp; omega
    rw [if_neg h1, h1']
    cases P <;> cases Q
    · rfl
    · rfl
    · rfl
    · by_cases h2 : t < x.b
      · simp only [Bool.and_self, if_true, if_pos h2]; rfl
      · simp only [Bool.and_self, if_true, if_neg h2]
        by_cases h3 : N < c
        · rw [if_pos h3, if_pos h3]; rfl
        · rw [if_neg h3, if_neg h3]; rfl

set_option maxHeartbeats 4000000 in
theorem specPurseAsk (w : World) (x : BP) (hx : x.ok) (c : Int) (hc : OkI c) (t : Int) (ht : OkI t) :
    Calls Tryd.prog 9 #[x.val, .int .i64 c, .int .i64 t] w fun e w' => e = .returned (askT x c t).val ∧ Below w.heap.size w w' := by
  have HA : Hid (∀ o1 o2, Below w.heap.size w ((w.alloc o1).alloc o2)) := Lib.hid fun o1 o2 => ((Below.refl _ _).alloc (Nat.le_refl _) o1).alloc (by simp) o2
  have C1 : Hid (∀ w, Calls Tryd.prog 15 #[x.val] w fun e w' => e = .returned (.bool (purB x)) ∧ Below w.heap.size w w') := Lib.hid fun w => specPurseRight w x hx
  have C2 : Hid (∀ w, Calls Tryd.prog 28 #[.int .i64 t, .int .i64 0, .int .i64 1000000] w fun e w' => e = .returned (.bool (inB t 0 1000000)) ∧ w = w') := Lib.hid fun w => specIn _ _ _ ht (by unfold OkI; omega) (by unfold OkI; omega) _
  have HTB := Lib.hid (fun (h : purB x = true) (h2 : inB t 0 1000000 = true) (h3 : ¬ t < x.b) => show timeB x t = true from fault_time.1 (by unfold faultT; rw [h, h2]; simp; omega))
  have CA : Hid (timeB x t = true → ∀ w, Calls Tryd.prog 29 #[x.val, .int .i64 t] w fun e w' => e = .returned (.int .i64 (atN x t)) ∧ Below w.heap.size w w') := Lib.hid fun h w => specL12At w x t h
  have HN := Lib.hid (fun (h : timeB x t = true) => atN_bounds h)
  have HC := Lib.hid (fun (h : timeB x t = true) => purB_bounds (timeB_bounds h).1)
  have HO := Lib.hid (askT_spec x c t)
  generalize askT x c t = O at *
  generalize timeB x t = TB at *
  generalize purB x = P at *
  generalize inB t 0 1000000 = Q at *
  generalize atN x t = N at *
  obtain ⟨⟨h1, h2⟩, ⟨h3, h4⟩, ⟨h5, h6⟩, h7, h8⟩ := hx
  obtain ⟨hc1, hc2⟩ := hc
  obtain ⟨ht1, ht2⟩ := ht
  obtain ⟨r, b, l, s⟩ := x
  simp only [BP.val] at *
  go_enter Tryd.func9, Tryd.ntmps9
  go_wp2_with fail
  refine (C1.out _).mono ?_
  rintro e w1 ⟨rfl, hb1⟩
  have ⟨k1, k2⟩ := kept2 hb1
  have HB1 := Lib.hid ((HA.out _ _).trans (hb1.mono (HA.out _ _).size))
  have ⟨⟨c0, c1, c2, c3⟩, f0, f1, f2, f3⟩ := keep4 k1
  have ⟨⟨d0, d1, d2, d3, d4, d5⟩, g0, g1, g2, g3, g4, g5⟩ := keep6 k2
  have hl1 : w.heap.size + 1 < w1.heap.size := lt_of_get k2
  have hl0 : w.heap.size < w1.heap.size := lt_of_get k1
  have HK1 := Lib.hid k1
  have HK2 := Lib.hid k2
  clear hb1 k1 k2
  cases P
  · have HZ : Hid (O = codeO 1) := Lib.hid (by rw [HO.out]; rfl)
    go_wp2_with fail
    rw [HZ.out]
    exact bodyPost_ret (v := Pval 0 0 0 0 false 1) (by simp [results, Pval, Tryd.results9, go_sem, d0, d1, d2, d3, d4, d5]) rfl ⟨rfl, Below.put6 HB1.out (by omega) _ _ _ _ _ _⟩
  by_cases hneg : c < 0
  · have HZ : Hid (O = codeO 1) := Lib.hid (by rw [HO.out, if_neg (by simp; intro h; omega)])
    go_wp2_with fail
    rw [HZ.out]
    exact bodyPost_ret (v := Pval 0 0 0 0 false 1) (by simp [results, Pval, Tryd.results9, go_sem, d0, d1, d2, d3, d4, d5]) rfl ⟨rfl, Below.put6 HB1.out (by omega) _ _ _ _ _ _⟩
  have hnn : 0 ≤ c := by omega
  rw [show decide (0 ≤ c) = true by simp; omega] at HO
  clear hneg
  cases Q
  · have HZ : Hid (O = codeO 1) := Lib.hid (by rw [HO.out]; rfl)
    go_wp2_with fail
    refine (C2.out _).mono ?_
    rintro e w2 ⟨rfl, rfl⟩
    go_wp2_with fail
    rw [HZ.out]
    exact bodyPost_ret (v := Pval 0 0 0 0 false 1) (by simp [results, Pval, Tryd.results9, go_sem, d0, d1, d2, d3, d4, d5]) rfl ⟨rfl, Below.put6 HB1.out (by omega) _ _ _ _ _ _⟩
  by_cases hlt : t < s
  · have HZ : Hid (O = codeO 8) := Lib.hid (by rw [HO.out]; simp [hlt])
    go_wp2_with fail
    refine (C2.out _).mono ?_
    rintro e w2 ⟨rfl, rfl⟩
    go_wp2_with fail
    rw [HZ.out]
    exact bodyPost_ret (v := Pval 0 0 0 0 false 8) (by simp [results, Pval, Tryd.results9, go_sem, d0, d1, d2, d3, d4, d5]) rfl ⟨rfl, Below.put6 HB1.out (by omega) _ _ _ _ _ _⟩
  have htb := HTB.out rfl rfl (show s ≤ t by omega)
  have CA2 := Lib.hid (CA.out htb)
  obtain ⟨n0, n1⟩ := HN.out htb
  obtain ⟨_, ⟨b1, b2⟩, _⟩ := HC.out htb
  have hge : s ≤ t := by omega
  have HO2 : Hid (O = if N < c then ⟨⟨r, b, N, t⟩, false, 0⟩ else ⟨⟨r, b, N - c, t⟩, true, 0⟩) := Lib.hid (by rw [HO.out]; simp [hlt])
  clear HO HTB CA HN HC htb hlt
  go_wp2_with fail
  refine (C2.out _).mono ?_
  rintro e w2 ⟨rfl, rfl⟩
  have HA2 : Hid (Below w.heap.size w (w1.alloc (.cells #[.int .i64 r, .int .i64 b, .int .i64 l, .int .i64 s, .bool false, .int .i64 0] 28))) := Lib.hid (HB1.out.alloc HB1.out.size _)
  go_wp2_with fail
  refine (CA2.out _).mono ?_
  rintro e w3 ⟨rfl, hb3⟩
  have HB3 := Lib.hid (HA2.out.trans (hb3.mono HA2.out.size))
  have k3 := (hb3.block w1.heap.size (by simp)).trans (heap_alloc_new w1 _)
  have k4 := ((hb3.block _ (by simp; omega)).trans (Go.Deep.blk_alloc_lt w1 _ _ hl1)).trans HK2.out
  have hl3 : w1.heap.size < w3.heap.size := lt_of_get k3
  have ⟨⟨e0, e1, e2, e3, e4, e5⟩, i0, i1, i2, i3, i4, i5⟩ := keep6 k3
  have ⟨⟨m0, m1, m2, m3, m4, m5⟩, q0, q1, q2, q3, q4, q5⟩ := keep6 k4
  clear hb3 k3 k4 c0 c1 c2 c3 f0 f1 f2 f3 d0 d1 d2 d3 d4 d5 g0 g1 g2 g3 g4 g5
  by_cases hlt : N < c
  · have HZ : Hid (O = ⟨⟨r, b, N, t⟩, false, 0⟩) := Lib.hid (by rw [HO2.out, if_pos hlt])
    go_wp2_with fail
    rw [HZ.out]
    exact bodyPost_ret (v := Pval r b N t false 0) (by simp [results, Pval, Tryd.results9, go_sem, m0, m1, m2, m3, m4, m5]) rfl ⟨rfl, Below.put6 ((HB3.out.setCell (Nat.le_of_lt hl0) _).setCell (Nat.le_of_lt hl0) _) (by omega) _ _ _ _ _ _⟩
  · have hge2 : c ≤ N := by omega
    have HZ : Hid (O = ⟨⟨r, b, N - c, t⟩, true, 0⟩) := Lib.hid (by rw [HO2.out, if_neg hlt])
    clear hlt
    go_wp2_with fail
    rw [HZ.out]
    exact bodyPost_ret (v := Pval r b (N - c) t true 0) (by simp [results, Pval, Tryd.results9, go_sem, m0, m1, m2, m3, m4, m5]) rfl ⟨rfl, Below.put6 ((((HB3.out.setCell (Nat.le_of_lt hl0) _).setCell (Nat.le_of_lt hl0) _).setCell (Nat.le_of_lt hl0) _).setCell (Nat.le_of_lt hl0) _) (by omega) _ _ _ _ _ _⟩
end Go.Proofs.YtlbjnblbjbdaaaaDoor.Pur
