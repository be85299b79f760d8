/-
  What a purse has at a time by the program; contracts: impl.refilled, impl.PurseAt; of what was there nothing is changed. Conditions: numbers of int64.
-/
import Derived.Test.YtlbjnblbjbdaaaaDoorRows
import Derived.Test.YtlbjnblbjbdaaaaDoorPurA
namespace Go.Proofs.YtlbjnblbjbdaaaaDoor.Pur
open Go.RowKit Rw Bnd
set_option linter.unusedVariables false
set_option maxRecDepth 100000

/-- A clock that stands: the function and what it holds. -/
def clockV (g : Nat) : Value := .func (.func 33) #[] #[.pointer (some ⟨g, 0, none⟩)]
/-- The fault's code of what is asked too early or not right; 0: none. -/
def faultT (x : BP) (t : Int) : Int := if (purB x && inB t 0 1000000) = true then (if t < x.b then 8 else 0) else 1
def errV (k : Int) : Value := if k = 0 then .nilIface else .iface 68 (.agg #[.int .i64 k])
def fillP (x : BP) (t : Int) : BP := if faultT x t = 0 then ⟨x.d, x.c, atN x t, t⟩ else ⟨0, 0, 0, 0⟩
theorem fault_time {x : BP} {t : Int} : faultT x t = 0 ↔ timeB x t = true := by
  unfold faultT timeB
  constructor
  · intro h
    split at h
    · next h1 =>
      split at h
      · simp at h
      · next h2 =>
        simp only [inB, Bool.and_eq_true, decide_eq_true_eq] at h1 ⊢
        exact ⟨h1.1, by omega, h1.2.2⟩
    · simp at h
  · intro h
    have hb := timeB_bounds h
    have hp := purB_bounds hb.1
    rw [if_pos (by rw [hb.1]; simp [inB]; omega), if_neg (by omega)]
def tup (x : BP) (k : Int) : Value := .tuple #[x.val, errV k]

theorem Below.put4 {w W : World} {B g : Nat} (h : Below B w W) (hg : B ≤ g) (v0 v1 v2 v3 : Value) : Below B w ((((W.setCell ⟨g, 0, none⟩ v0).setCell ⟨g, 1, none⟩ v1).setCell ⟨g, 2, none⟩ v2).setCell ⟨g, 3, none⟩ v3) :=
  (((h.setCell hg v0).setCell hg v1).setCell hg v2).setCell hg v3
theorem implTell (g : Nat) (t : Int) (w : World) (hg : w.cell? ⟨g, 0, none⟩ = some (.int .i64 t)) :
    Calls Tryd.prog 33 #[.pointer (some ⟨g, 0, none⟩)] w fun e w' => e = .returned (.int .i64 t) ∧ w = w' := by
  go_enter Tryd.func33, Tryd.ntmps33
  go_wp2_with fail
  go_ret
  exact ⟨rfl, by trivial⟩

set_option maxHeartbeats 4000000 in
theorem implRefilled (w : World) (x : BP) (hx : x.ok) (t : Int) (ht : OkI t) (g : Nat) (hg : w.cell? ⟨g, 0, none⟩ = some (.int .i64 t)) :
    Calls Tryd.prog 30 #[x.val, clockV g] w fun e w' => e = .returned (tup (fillP x t) (faultT x t)) ∧ Below w.heap.size w w' := by
  have hgl := lt_of_cell hg
  have HA : Hid (∀ o1 o2, Below w.heap.size w ((w.alloc o1).alloc o2)) := Lib.hid fun o1 o2 => ((Below.refl _ _).alloc (Nat.le_refl _) o1).alloc (by simp) o2
  have CT : Hid (∀ w', Below w.heap.size w w' → Calls Tryd.prog 33 #[.pointer (some ⟨g, 0, none⟩)] w' fun e w'' => e = .returned (.int .i64 t) ∧ w' = w'') := Lib.hid fun w' h => implTell g t w' ((h.cell (p := ⟨g, 0, none⟩) hgl).trans hg)
  have C1 : Hid (∀ w, Calls Tryd.prog 14 #[x.val] w fun e w' => e = .returned (.bool (purB x)) ∧ Below w.heap.size w w') := Lib.hid fun w => implPurseRight w x hx
  have C2 : Hid (∀ w, Calls Tryd.prog 31 #[.int .i64 t] w fun e w' => e = .returned (.bool (inB t 0 1000000)) ∧ w = w') := Lib.hid fun w => implIsTime _ ht _
  have HP := Lib.hid (fun (h : purB x = true) (h2 : inB t 0 1000000 = true) (h3 : x.b ≤ t) => show timeB x t = true from fault_time.1 (by unfold faultT; rw [h, h2]; simp; omega))
  have HF := Lib.hid (show fillP x t = if faultT x t = 0 then ⟨x.d, x.c, atN x t, t⟩ else ⟨0, 0, 0, 0⟩ from rfl)
  have HG := Lib.hid (show faultT x t = (if (purB x && inB t 0 1000000) = true then (if t < x.b then 8 else 0) else 1) from rfl)
  have HN := Lib.hid (show atN x t = min x.c (x.n + x.d * (t - x.b)) from rfl)
  have HB := Lib.hid (fun (h : purB x = true) => purB_bounds h)
  obtain ⟨O, hO⟩ : ∃ O, tup (fillP x t) (faultT x t) = O := ⟨_, rfl⟩
  have HO := Lib.hid hO.symm
  rw [hO]
  clear hO
  generalize fillP x t = FP at *
  generalize faultT x t = K at *
  generalize atN x t = N at *
  have HTB := Lib.hid (fun (h : timeB x t = true) => timeB_bounds h)
  obtain ⟨r, b, l, s⟩ := x
  generalize timeB ⟨r, b, l, s⟩ t = TB at *
  obtain ⟨P, hP⟩ : ∃ P, purB ⟨r, b, l, s⟩ = P := ⟨_, rfl⟩
  rw [hP] at C1 HP HG HB
  obtain ⟨Q, hQ⟩ : ∃ Q, inB t 0 1000000 = Q := ⟨_, rfl⟩
  rw [hQ] at C2 HP HG
  have HQ := Lib.hid (fun (h : Q = true) => (show 0 ≤ t ∧ t ≤ 1000000 by rw [← hQ] at h; simpa [inB] using h))
  obtain ⟨⟨h1, h2⟩, ⟨h3, h4⟩, ⟨h5, h6⟩, h7, h8⟩ := hx
  obtain ⟨ht1, ht2⟩ := ht
  simp only [BP.val, clockV] at *
  clear hP hQ hg
  go_enter Tryd.func30, Tryd.ntmps30
  go_wp2_with fail
  refine (CT.out _ (HA.out _ _)).mono ?_
  rintro e w0 ⟨rfl, rfl⟩
  go_wp2_with fail
  refine (C1.out _).mono ?_
  rintro e w1 ⟨rfl, hb1⟩
  have ⟨k1, k2⟩ := kept2 hb1
  have HB1 := Lib.hid ((HA.out _ _).trans (hb1.mono (HA.out _ _).size))
  have ⟨⟨c0, c1, c2, c3⟩, f0, f1, f2, f3⟩ := keep4 k1
  have ⟨⟨d0, d1, d2, d3⟩, g0, g1, g2, g3⟩ := keep4 k2
  clear hb1 k1 k2
  cases P
  · have HK : Hid (O = .tuple #[.agg #[.int .i64 0, .int .i64 0, .int .i64 0, .int .i64 0], .iface 68 (.agg #[.int .i64 1])]) := Lib.hid (by
      have e : K = 1 := by rw [HG.out]; simp <;> omega
      have e2 : FP = ⟨0, 0, 0, 0⟩ := by rw [HF.out, e]; rfl
      rw [HO.out, e, e2]; rfl)
    go_wp2_with fail
    rw [HK.out]
    exact bodyPost_ret (v := .tuple #[.agg #[.int .i64 0, .int .i64 0, .int .i64 0, .int .i64 0], .iface 68 (.agg #[.int .i64 1])]) (by simp [results, Tryd.results30, go_sem, d0, d1, d2, d3]) rfl ⟨rfl, Below.put4 HB1.out (by omega) _ _ _ _⟩
  cases Q
  · go_wp2_with fail
    refine (C2.out _).mono ?_
    rintro e w2 ⟨rfl, rfl⟩
    have HK : Hid (O = .tuple #[.agg #[.int .i64 0, .int .i64 0, .int .i64 0, .int .i64 0], .iface 68 (.agg #[.int .i64 1])]) := Lib.hid (by
      have e : K = 1 := by rw [HG.out]; simp <;> omega
      have e2 : FP = ⟨0, 0, 0, 0⟩ := by rw [HF.out, e]; rfl
      rw [HO.out, e, e2]; rfl)
    go_wp2_with fail
    rw [HK.out]
    exact bodyPost_ret (v := .tuple #[.agg #[.int .i64 0, .int .i64 0, .int .i64 0, .int .i64 0], .iface 68 (.agg #[.int .i64 1])]) (by simp [results, Tryd.results30, go_sem, d0, d1, d2, d3]) rfl ⟨rfl, Below.put4 HB1.out (by omega) _ _ _ _⟩
  obtain ⟨⟨a1, a2⟩, ⟨b1, b2⟩, ⟨l1, l2⟩, s1, s2⟩ := HB.out rfl
  obtain ⟨t1, t2⟩ := HQ.out rfl
  by_cases hlt : t < s
  · go_wp2_with fail
    refine (C2.out _).mono ?_
    rintro e w2 ⟨rfl, rfl⟩
    have HK : Hid (O = .tuple #[.agg #[.int .i64 0, .int .i64 0, .int .i64 0, .int .i64 0], .iface 68 (.agg #[.int .i64 8])]) := Lib.hid (by
      have e : K = 8 := by rw [HG.out]; simp <;> omega
      have e2 : FP = ⟨0, 0, 0, 0⟩ := by rw [HF.out, e]; rfl
      rw [HO.out, e, e2]; rfl)
    go_wp2_with fail
    rw [HK.out]
    exact bodyPost_ret (v := .tuple #[.agg #[.int .i64 0, .int .i64 0, .int .i64 0, .int .i64 0], .iface 68 (.agg #[.int .i64 8])]) (by simp [results, Tryd.results30, go_sem, d0, d1, d2, d3]) rfl ⟨rfl, Below.put4 HB1.out (by omega) _ _ _ _⟩
  · have hle : s ≤ t := by omega
    have ⟨m1, m2⟩ := back_bounds a1 a2 (by omega : 0 ≤ t - s) (by omega)
    obtain ⟨m, hm⟩ : ∃ m, r * (t - s) = m := ⟨_, rfl⟩
    rw [hm] at m1 m2 HN
    have HK : Hid (O = .tuple #[.agg #[.int .i64 r, .int .i64 b, .int .i64 (min (l + m) b), .int .i64 t], .nilIface]) := Lib.hid (by
      have e : K = 0 := by rw [HG.out]; simp; omega
      have e2 : FP = ⟨r, b, N, t⟩ := by rw [HF.out, e]; rfl
      have e3 : N = min (l + m) b := by rw [HN.out]; omega
      rw [HO.out, e, e2, e3]; rfl)
    clear HF HG HP HTB HB HN
    go_wp2_with fail
    refine (C2.out _).mono ?_
    rintro e w2 ⟨rfl, rfl⟩
    go_wp2_with fail
    rw [HK.out]
    exact bodyPost_ret (v := .tuple #[.agg #[.int .i64 r, .int .i64 b, .int .i64 (min (l + m) b), .int .i64 t], .nilIface]) (by simp [results, Tryd.results30, go_sem, d0, d1, d2, d3]) rfl ⟨rfl, Below.put4 (((HB1.out.setCell (Nat.le_refl _) _)).setCell (Nat.le_refl _) _) (by omega) _ _ _ _⟩
end Go.Proofs.YtlbjnblbjbdaaaaDoor.Pur
