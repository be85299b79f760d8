/-
  Contracts: impl.given, spec.PurseAsk, what a purse gives plainly. Conditions: numbers of int64.
-/
import Derived.Test.YtlbjnblbjbdaaaaDoorRows
import Derived.Test.YtlbjnblbjbdaaaaDoorPurI
import Derived.BigRegion
namespace Go.Proofs.YtlbjnblbjbdaaaaDoor.Pur
open Go.RowKit Rw Bnd
set_option linter.unusedVariables false
set_option maxRecDepth 100000

/-- What is handed back of a purse that is asked for so much: the purse, and what is wrong. -/
def givO (x : BP) (c t : Int) : BP × Option PErr :=
  if c < 0 then (⟨0, 0, 0, 0⟩, some (.fault 1))
  else if faultT x t = 0 then (if atN x t < c then (⟨0, 0, 0, 0⟩, some (.refused c ⟨x.d, x.c, atN x t, t⟩)) else (⟨x.d, x.c, atN x t - c, t⟩, none))
  else (⟨0, 0, 0, 0⟩, some (.fault (faultT x t)))
def eVal : Option PErr → Value
  | none => .nilIface
  | some e => e.val
def askO (y : BP × Option PErr) : PO :=
  match y with
  | (p, none) => ⟨p, true, 0⟩
  | (_, some (.fault k)) => codeO k
  | (_, some e) => ⟨e.rem, false, 0⟩
def askT (x : BP) (c t : Int) : PO := askO (givO x c t)

set_option maxHeartbeats 4000000 in
theorem implGiven (w : World) (x : BP) (hx : x.ok) (c : Int) (hc : OkI c) (t : Int) (ht : OkI t) (g : Nat) (hg : w.cell? ⟨g, 0, none⟩ = some (.int .i64 t)) :
    Calls Tryd.prog 24 #[x.val, .int .i64 c, clockV g] w fun e w' => e = .returned (.tuple #[(givO x c t).1.val, eVal (givO x c t).2]) ∧ Below w.heap.size w w' := by
  have hgl := lt_of_cell hg
  have HA : Hid (∀ o1 o2, Below w.heap.size w ((w.alloc o1).alloc o2)) := Lib.hid fun o1 o2 => ((Below.refl _ _).alloc (Nat.le_refl _) o1).alloc (by simp) o2
  have CR : Hid (∀ W, Below w.heap.size w W → Calls Tryd.prog 30 #[x.val, clockV g] W fun e w' => e = .returned (tup (fillP x t) (faultT x t)) ∧ Below W.heap.size W w') := Lib.hid fun W h => implRefilled W x hx t ht g ((h.cell (p := ⟨g, 0, none⟩) hgl).trans hg)
  have HN := Lib.hid (fun (h : faultT x t = 0) => atN_bounds (fault_time.1 h))
  have HC := Lib.hid (fun (h : faultT x t = 0) => purB_bounds (timeB_bounds (fault_time.1 h)).1)
  have HF := Lib.hid (show fillP x t = if faultT x t = 0 then ⟨x.d, x.c, atN x t, t⟩ else ⟨0, 0, 0, 0⟩ from rfl)
  have HO := Lib.hid (show givO x c t = if c < 0 then (⟨0, 0, 0, 0⟩, some (.fault 1))
    else if faultT x t = 0 then (if atN x t < c then (⟨0, 0, 0, 0⟩, some (.refused c ⟨x.d, x.c, atN x t, t⟩)) else (⟨x.d, x.c, atN x t - c, t⟩, none))
    else (⟨0, 0, 0, 0⟩, some (.fault (faultT x t))) from rfl)
  generalize givO x c t = O at *
  generalize fillP x t = FP at *
  generalize faultT x t = K at *
  generalize atN x t = N at *
  clear hx ht hg
  obtain ⟨hc1, hc2⟩ := hc
  obtain ⟨r, b, l, s⟩ := x
  simp only [BP.val, clockV] at *
  by_cases hneg : c < 0
  · have HZ : Hid (O = (⟨0, 0, 0, 0⟩, some (.fault 1))) := Lib.hid (by rw [HO.out, if_pos hneg])
    go_enter Tryd.func24, Tryd.ntmps24
    go_wp2_with fail
    rw [HZ.out]
    exact bodyPost_ret (v := .tuple #[.agg #[.int .i64 0, .int .i64 0, .int .i64 0, .int .i64 0], .iface 68 (.agg #[.int .i64 1])]) (by simp [results, Tryd.results24, go_sem]) rfl ⟨rfl, by first | exact HA.out _ _ | exact Below.put4 (HA.out _ _) (by omega) _ _ _ _⟩
  rw [if_neg hneg] at HO
  have hnn : 0 ≤ c := by omega
  clear hneg
  obtain ⟨q0, q1, q2, q3⟩ := FP
  by_cases hK : K = 0
  · subst hK
    obtain ⟨n0, n1⟩ := HN.out rfl
    obtain ⟨_, ⟨b1, b2⟩, _⟩ := HC.out rfl
    rw [if_pos rfl] at HO
    have hfp := HF.out
    rw [if_pos rfl] at hfp
    cases hfp
    simp only [tup, errV, BP.val, if_true] at CR n1 b1 b2
    clear HF HN HC
    go_enter Tryd.func24, Tryd.ntmps24
    go_wp2_with fail
    refine (CR.out _ (HA.out _ _)).mono ?_
    rintro e w1 ⟨rfl, hb1⟩
    have ⟨k1, k2⟩ := kept2 hb1
    have HB1 := Lib.hid ((HA.out _ _).trans (hb1.mono (HA.out _ _).size))
    have ⟨⟨d0, d1, d2, d3⟩, g0, g1, g2, g3⟩ := keep4 k2
    have hl1 : w.heap.size + 1 < w1.heap.size := lt_of_get k2
    clear hb1 k1 k2
    by_cases hlt : N < c
    · have HZ : Hid (O = (⟨0, 0, 0, 0⟩, some (.refused c ⟨r, b, N, t⟩))) := Lib.hid (by rw [HO.out, if_pos hlt])
      go_wp2_with fail
      go_region
      go_wp2_with fail
      rw [HZ.out]
      exact bodyPost_ret (v := .tuple #[.agg #[.int .i64 0, .int .i64 0, .int .i64 0, .int .i64 0], .iface 70 (.agg #[.int .i64 c, .int .i64 r, .int .i64 b, .int .i64 N, .int .i64 t])]) (by simp [results, Tryd.results24, go_sem, d0, d1, d2, d3, hl1]) rfl ⟨rfl, (((Below.put4 HB1.out (by omega) _ _ _ _)).alloc (by simp; omega) _).drew⟩
    · have hle : c ≤ N := by omega
      have HZ : Hid (O = (⟨r, b, N - c, t⟩, none)) := Lib.hid (by rw [HO.out, if_neg hlt])
      clear hlt
      go_wp2_with fail
      rw [HZ.out]
      exact bodyPost_ret (v := .tuple #[.agg #[.int .i64 r, .int .i64 b, .int .i64 (N - c), .int .i64 t], .nilIface]) (by simp [results, Tryd.results24, go_sem, d0, d1, d2, d3, hl1]) rfl ⟨rfl, (Below.put4 HB1.out (by omega) _ _ _ _).alloc (by simp; omega) _⟩
  · have HZ : Hid (O = (⟨0, 0, 0, 0⟩, some (.fault K))) := Lib.hid (by rw [HO.out, if_neg hK])
    have hfp := HF.out
    rw [if_neg hK] at hfp
    cases hfp
    simp only [tup, errV, BP.val, if_neg hK] at CR
    clear HF HN HC hK
    go_enter Tryd.func24, Tryd.ntmps24
    go_wp2_with fail
    refine (CR.out _ (HA.out _ _)).mono ?_
    rintro e w1 ⟨rfl, hb1⟩
    have ⟨k1, k2⟩ := kept2 hb1
    have HB1 := Lib.hid ((HA.out _ _).trans (hb1.mono (HA.out _ _).size))
    have ⟨⟨d0, d1, d2, d3⟩, g0, g1, g2, g3⟩ := keep4 k2
    have hl1 : w.heap.size + 1 < w1.heap.size := lt_of_get k2
    clear hb1 k1 k2
    go_wp2_with fail
    rw [HZ.out]
    exact bodyPost_ret (v := .tuple #[.agg #[.int .i64 0, .int .i64 0, .int .i64 0, .int .i64 0], .iface 68 (.agg #[.int .i64 K])]) (by simp [results, Tryd.results24, go_sem, d0, d1, d2, d3, hl1]) rfl ⟨rfl, (Below.put4 HB1.out (by omega) _ _ _ _).alloc (by simp; omega) _⟩
end Go.Proofs.YtlbjnblbjbdaaaaDoor.Pur
