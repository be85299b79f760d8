/-
  Contracts: spec.JsonLen and impl.JsonLen answer how long a right node's text is, 0 of what is not right; of what was there nothing is changed. Conditions: in memory.
-/
import Derived.Test.YtffcfjjlieogkaaRows
import Derived.Test.YtffcfjjlieogkaaJsK
namespace Go.Proofs.Ytffcfjjlieogkaa.Rw
open Go.RowKit Words Texts Bytes
set_option linter.unusedVariables false
set_option maxRecDepth 100000

theorem node_agg {n : Nat} {w : World} {A B : Nat} {v : Value} {x : NodeP} (hs : NodeV n w A B v x) : ∃ u0 u1 u2 u3, v = .agg #[u0, u1, u2, u3] := by
  cases n with
  | zero => exact hs.elim
  | succ n => obtain ⟨a, ca, c, cc, hv, _⟩ := hs; exact ⟨_, _, _, _, hv⟩
theorem specJsonLen {n : Nat} (w : World) (A B : Nat) (v : Value) (x : NodeP) (hs : NodeV n w A B v x) (hB : B ≤ w.heap.size) :
    Calls Try.prog 10 #[v] w fun e w' => e = .returned (.int .i64 (jsT n x).size) ∧ Below w.heap.size w w' := by
  obtain ⟨u0, u1, u2, u3, rfl⟩ := node_agg hs
  have HA : Hid (∀ o, Below w.heap.size w (w.alloc o)) := Lib.hid fun o => (Below.refl _ _).alloc (Nat.le_refl _) o
  have HC := Lib.hid fun o => specJson (w.alloc o) A B _ x (hs.below hB (HA.out o)) (Nat.le_trans hB (HA.out o).size)
  have hsz := jsT_size n x
  clear hs
  generalize jsT n x = t at *
  go_enter Try.func10, Try.ntmps10
  go_wp2_with fail
  refine (HC.out _).mono ?_
  rintro e w1 ⟨rfl, hb1⟩
  have HB1 := Lib.hid ((HA.out _).trans (hb1.mono (HA.out _).size))
  clear hb1
  go_wp2_with fail
  go_ret
  exact ⟨rfl, HB1.out⟩
theorem run_store1 {P : Program} {w : World} {a : Addr} {u v : Value} (hc : w.cell? a = some u) (hf : w.frozen? a = false) (hv : v.oneCell' = true) : Sem.run P (store a v) w = .ok () (w.setCell a v) := by
  rw [run_store P w a v .plain hv, hc, hf]; rfl
theorem measWorld (w1 : World) (Z : Array Value) (hZ : Z.toList = wrL zbuf 0 .nilFunc [.int .i64 0]) :
    (w1.alloc (.cells Z 59)).cell? ⟨w1.heap.size, 65, none⟩ = some .nilFunc ∧ (w1.alloc (.cells Z 59)).frozen? ⟨w1.heap.size, 65, none⟩ = false ∧
    ∃ w3 : World, (w1.alloc (.cells Z 59)).setCell ⟨w1.heap.size, 65, none⟩ (.func (.func 25) #[.pointer (some ⟨w1.heap.size, 0, none⟩)] #[]) = w3 ∧
      Hid (w3.heap[w1.heap.size]? = some (.cells (wrL zbuf 0 (wkM w1.heap.size).pv [.int .i64 0]).toArray 59 (0, 0))) ∧ Hid (Below w1.heap.size w1 w3) := by
  have hZ2 : Z = (wrL zbuf 0 .nilFunc [.int .i64 0]).toArray := by rw [← hZ]
  subst hZ2
  have ha := heap_alloc_new w1 (.cells (wrL zbuf 0 .nilFunc [.int .i64 0]).toArray 59)
  have hc := cellL ha (wrL_65 zbuf_len)
  refine ⟨hc.1, hc.2, _, rfl, Lib.hid ?_, Lib.hid ?_⟩
  · have := setL (k := 65) ha (.func (.func 25) #[.pointer (some ⟨w1.heap.size, 0, none⟩)] #[])
    rw [this]
    congr 2
  · exact ((Below.refl _ w1).alloc (Nat.le_refl _) _).setCell (p := ⟨w1.heap.size, 65, none⟩) (Nat.le_refl _) _
set_option maxHeartbeats 1000000 in
theorem implJsonLen {n : Nat} (w : World) (A B : Nat) (v : Value) (x : NodeP) (hs : NodeV n w A B v x) (hB : B ≤ w.heap.size) :
    Calls Try.prog 11 #[v] w fun e w' => e = .returned (.int .i64 (jsT n x).size) ∧ Below w.heap.size w w' := by
  obtain ⟨u0, u1, u2, u3, rfl⟩ := node_agg hs
  have HS := Lib.hid hs
  clear hs
  have HA : Hid (∀ o, Below w.heap.size w (w.alloc o)) := Lib.hid fun o => (Below.refl _ _).alloc (Nat.le_refl _) o
  by_cases hr : RightN n x
  · have hf : Hid (((jsB n x).length : Int) = ((jsT n x).size : Int)) := Lib.hid (by rw [jsT_yes hr]; rfl)
    have C1 : Hid (∀ w', Below w.heap.size w w' → Calls Try.prog 18 #[.agg #[u0, u1, u2, u3]] w' fun e w2 => e = .returned (.bool true) ∧ Below w'.heap.size w' w2) := Lib.hid fun w' hb => by
      have := implNodeRight w' A B _ x (HS.out.below hB hb) (Nat.le_trans hB hb.size)
      rwa [decB_yes hr] at this
    have HR := Lib.hid hr
    obtain ⟨Z, hZ⟩ : ∃ Z : Array Value, Z = (wrL zbuf 0 .nilFunc [.int .i64 0]).toArray := ⟨_, rfl⟩
    have hz : ∀ W, Sem.run Try.prog (zeroValue 59) W = .ok (.agg Z) W := fun W => by rw [hZ]; exact zero_of infoMe W
    have hZs : Z.size = 67 := by rw [hZ]; rfl
    have HZ : Hid (Z.toList = wrL zbuf 0 .nilFunc [.int .i64 0]) := Lib.hid (by rw [hZ])
    clear hr hZ
    go_enter Try.func11, Try.ntmps11
    go_wp2_with (go_at_call 18; refine (C1.out _ (HA.out _)).mono ?_; rintro e w1 ⟨rfl, hb1⟩; have HB1 := Lib.hid ((HA.out _).trans (hb1.mono (HA.out _).size)); have K1 := (hb1.block w.heap.size (by simp)).trans (Go.Deep.blk_alloc_new _ _); have ⟨⟨k0, k1, k2, k3⟩, _⟩ := keep4 K1; obtain ⟨hc65, hf65, w3, hw3, HH3, HB3⟩ := measWorld w1 Z HZ.out; have hst := run_store1 (P := Try.prog) (v := .func (.func 25) #[.pointer (some ⟨w1.heap.size, 0, none⟩)] #[]) hc65 hf65 rfl; rw [hw3] at hst; clear hc65 hf65 hw3)
    have K3 := (HB3.out.block w.heap.size (lt_of_get K1)).trans K1
    have ⟨⟨m0, m1, m2, m3⟩, _⟩ := keep4 K3
    have HBW := Lib.hid (HB1.out.trans (HB3.out.mono HB1.out.size)).drew
    have HKO := Lib.hid (okM w1.heap.size w1.heap.size (Nat.le_refl _))
    have HBR := Lib.hid (HB3.out.drew)
    have HX := Lib.hid (whole HKO.out w3.drew A B _ x 100 (HS.out.below hB HBW.out) (Nat.le_trans hB HB1.out.size) HBR.out.size HR.out.2 (J_new HH3.out trivial) (Nat.le_trans (js_right HR.out) (by omega)))
    clear hst
    go_region_with (refine HX.out.mono ?_; rintro e w4 ⟨rfl, hs4, hb4⟩)
    all_goals
      have c66 : w4.cell? ⟨w1.heap.size, 66, none⟩ = some (.int .i64 ((jsB n x).length : Int)) := by
        obtain ⟨buf, hh, hbuf, _⟩ := hs4
        exact (cellL hh (wrL_66 hbuf)).1
      have HB5 := Lib.hid (HB1.out.trans ((HBR.out.trans hb4).mono HB1.out.size))
      clear hs4 hb4
      go_wp2_with fail
      go_ret
      exact ⟨congrArg (fun k => Ending.returned (Value.int .i64 k)) hf.out, HB5.out⟩
  · have hf : Hid ((0 : Int) = ((jsT n x).size : Int)) := Lib.hid (by rw [jsT_no hr]; rfl)
    have C1 : Hid (∀ w', Below w.heap.size w w' → Calls Try.prog 18 #[.agg #[u0, u1, u2, u3]] w' fun e w2 => e = .returned (.bool false) ∧ Below w'.heap.size w' w2) := Lib.hid fun w' hb => by
      have := implNodeRight w' A B _ x (HS.out.below hB hb) (Nat.le_trans hB hb.size)
      rwa [decB_no hr] at this
    clear hr
    go_enter Try.func11, Try.ntmps11
    go_wp2_with (go_at_call 18; refine (C1.out _ (HA.out _)).mono ?_; rintro e w1 ⟨rfl, hb1⟩; have HB1 := Lib.hid ((HA.out _).trans (hb1.mono (HA.out _).size)))
    go_ret
    exact ⟨congrArg (fun k => Ending.returned (Value.int .i64 k)) hf.out, HB1.out⟩
end Go.Proofs.Ytffcfjjlieogkaa.Rw
