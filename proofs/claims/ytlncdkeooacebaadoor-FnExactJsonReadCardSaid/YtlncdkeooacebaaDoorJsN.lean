/-
  Contract: the model's reader of a node reads as it does plainly, in memory of its own; of what was there the reader's own place alone is changed. Conditions: in memory, a text of at most 8000 bytes.
-/
import Derived.Test.YtlncdkeooacebaaDoorRows
import Derived.Test.YtlncdkeooacebaaDoorJsV
import Derived.Test.YtlncdkeooacebaaDoorNdS
import Derived.Deep.LoopGhost
namespace Go.Proofs.YtlncdkeooacebaaDoor.Rw
open Go.RowKit Words
open Nm (OwnTs)
set_option linter.unusedVariables false
set_option linter.unusedSimpArgs false
set_option maxRecDepth 100000

theorem StN.rowE {d nb base p : Nat} {kd : Int} {w : World} {ka na : Option Addr} {kc nc : Nat} {ks : List ByteArray} {L : List RowD} (h : StN d nb base p kd w (.slice ka ks.length kc) (.slice na L.length nc) ks L) (hkd : OkI kd) (hk : ks.length ≤ 1048576) (hL : L.length ≤ 1048576) :
    ∃ Fs, OkD (d + 1) w ⟨⟨kd, tB [], ks, L.map RowD.x⟩, ka, kc, na, nc, Fs, base, w.heap.size⟩ := by
  obtain ⟨⟨x, a, ca, c, cc, Fs, lo, hi⟩, h1, h2, h3, h4, h5, h6⟩ := h.row hkd hk hL
  simp only [Value.slice.injEq] at h1 h2 h3 h5 h6
  obtain ⟨rfl, -, rfl⟩ := h2
  obtain ⟨rfl, -, rfl⟩ := h3
  subst h1 h5 h6
  exact ⟨Fs, h4⟩
theorem okLeaf {d : Nat} {w : World} {k : Int} {tx : ByteArray} {lo : Nat} (hk : OkI k) (ht : OkS tx) : OkD d w ⟨⟨k, tx, [], []⟩, none, 0, none, 0, [], lo, lo⟩ :=
  ⟨⟨⟨hk, ht⟩, Nat.le_refl _, Nat.le_refl _, Nat.zero_le _, Nat.zero_le _, [], [], rfl, .inl ⟨rfl, rfl⟩, .inl ⟨rfl, rfl⟩⟩, List.nodup_nil, Nat.le_refl _, fun b hb => by cases hb⟩
theorem onl_step {p nb j : Nat} {w w2 w3 : World} {row : Option Nat} (h : Onl p w w2) (hg : w2.grownBy w3 row) (hrow : ∀ k, row = some k → w.heap.size ≤ k) (hnb : w.heap.size ≤ nb) (v : Value) : Onl p w (w3.setCell ⟨nb, j, none⟩ v) :=
  ⟨hg.os.trans h.os, hg.tape.trans h.tape, hg.output.trans h.output, Nat.le_trans h.size (by simpa [World.setCell] using hg.size), fun k hk hp => by
    rw [Below.heap_setCell _ _ _ _ (by simp only; omega), hg.block k (Nat.lt_of_lt_of_le hk h.size) (fun e => by have := hrow k e.symm; omega)]
    exact h.block k hk hp⟩
theorem finN {d p : Nat} {w w1 : World} {t : ByteArray} {s1 : Bs} {x0 x1 x2 x3 : Value} (hp : p < w.heap.size) (K : w1.heap[w.heap.size]? = some (.cells #[x0, x1, x2, x3] 53 (0, 0))) (hR : RdS w1 p t s1) (ho : Onl p w w1) (r : RowD) (hr : OkD d w1 r) (hlo : w.heap.size + 1 ≤ r.lo) (hhi : r.hi ≤ w1.heap.size) (v0 v1 v2 v3 : Value) :
    ∃ W, putL w1 w.heap.size 0 [v0, v1, v2, v3] = W ∧ (W.cell? ⟨w.heap.size, 0, none⟩ = some v0 ∧ W.cell? ⟨w.heap.size, 1, none⟩ = some v1 ∧ W.cell? ⟨w.heap.size, 2, none⟩ = some v2 ∧ W.cell? ⟨w.heap.size, 3, none⟩ = some v3) ∧
      Hid (OkD d W r ∧ w.heap.size ≤ r.lo ∧ r.hi ≤ W.heap.size ∧ RdS W p t s1 ∧ Onl p w W) := by
  obtain ⟨hr4, _, _⟩ := putL_cells (w := w1) (g := w.heap.size) (o := 0) (l := [v0, v1, v2, v3]) K (by simp)
  have hoth := putL_other [v0, v1, v2, v3] w1 w.heap.size 0
  have hsz := putL_size [v0, v1, v2, v3] w1 w.heap.size 0
  refine ⟨_, rfl, nrow4z hr4, Lib.hid ⟨hr.block fun c c1 c2 => hoth c (by omega), by omega, by omega, hR.keep (hoth p (by omega)), ⟨ho.os, ho.tape, ho.output, by rw [hsz]; exact ho.size, fun k hk hp2 => (hoth k (by omega)).trans (ho.block k hk hp2)⟩⟩⟩
def SpLaw (d : Nat) : Prop := ∀ (w : World) (p : Nat) (t : ByteArray) (s : Bs), RdS w p t s → t.size ≤ 8000 →
    Calls Tryd.prog 50 #[.pointer (some ⟨p, 0, none⟩), .int .i64 d] w fun e w' => ∃ r : RowD, e = .returned (.agg #[.int .i64 r.x.kind, .string r.x.text, .slice r.a r.x.keys.length r.ca, .slice r.c r.x.kids.length r.cc]) ∧ Hid (r.x = (spN d s).1) ∧ (OkD d w' r ∧ w.heap.size ≤ r.lo ∧ r.hi ≤ w'.heap.size) ∧ RdS w' p t (spN d s).2 ∧ Onl p w w'
theorem quo_len (s : Bs) : (quoQ s).1.length ≤ s.length := by
  unfold quoQ
  split
  · exact Nat.zero_le _
  · rename_i r h
    have := congrArg List.length (took_some h)
    have h2 : (r.takeWhile (· != 34)).length ≤ r.length := (List.takeWhile_sublist _).length_le
    simp only [List.length_append] at this
    split <;> (simp only; omega)
set_option maxHeartbeats 1000000 in
def ZN : Obj := .cells #[.int .i64 0, .string ⟨#[]⟩, .slice none 0 0, .slice none 0 0] 53
set_option maxHeartbeats 1000000 in
theorem spNode0 : SpLaw 0 := by
  intro w p t s hR ht
  have hpw := hR.lt
  have HO : Hid (Onl p w ((w.alloc (.cells #[.int .i64 0, .string ⟨#[]⟩, .slice none 0 0, .slice none 0 0] 53)).alloc (.cells #[.int .i64 0, .string ⟨#[]⟩, .slice none 0 0, .slice none 0 0] 53))) := Lib.hid (((Onl.refl p w).alloc _).alloc _)
  have HR0 := Lib.hid (hR.keep (w' := (w.alloc (.cells #[.int .i64 0, .string ⟨#[]⟩, .slice none 0 0, .slice none 0 0] 53)).alloc (.cells #[.int .i64 0, .string ⟨#[]⟩, .slice none 0 0, .slice none 0 0] 53)) ((Go.Deep.blk_alloc_lt _ _ _ (by simp; omega)).trans (Go.Deep.blk_alloc_lt _ _ _ hpw)))
  have K0 := Lib.hid (show ((w.alloc (.cells #[.int .i64 0, .string ⟨#[]⟩, .slice none 0 0, .slice none 0 0] 53)).alloc (.cells #[.int .i64 0, .string ⟨#[]⟩, .slice none 0 0, .slice none 0 0] 53)).heap[w.heap.size]? = some (.cells #[.int .i64 0, .string ⟨#[]⟩, .slice none 0 0, .slice none 0 0] 53 (0, 0)) from (Go.Deep.blk_alloc_lt _ _ _ (by simp)).trans (heap_alloc_new w _))
  have hz : ((w.alloc (.cells #[.int .i64 0, .string ⟨#[]⟩, .slice none 0 0, .slice none 0 0] 53)).alloc (.cells #[.int .i64 0, .string ⟨#[]⟩, .slice none 0 0, .slice none 0 0] 53)).heap.size = w.heap.size + 1 + 1 := by simp
  clear hR
  go_enter Tryd.func50, Tryd.ntmps50
  go_wp2_with fail
  refine bodyPost_ret (v := .agg #[.int .i64 0, .string ⟨#[]⟩, .slice none 0 0, .slice none 0 0]) (by simp [results, Tryd.results50, go_sem]) rfl ?_
  exact ⟨⟨⟨0, ⟨#[]⟩, [], []⟩, none, 0, none, 0, [], w.heap.size + 1, w.heap.size + 1⟩, rfl, Lib.hid rfl, ⟨(okLeaf (by unfold OkI; omega) (by unfold OkS; exact Nat.zero_le _)), by simp only; omega, by rw [hz]; simp only; omega⟩, HR0.out, HO.out⟩
set_option maxHeartbeats 2000000 in
theorem spNode_of (d : Nat) (hd : d ≤ 100) (IH : SpLaw d) : SpLaw (d + 1) := by
  intro w p t s hR ht
  have hpw := hR.lt
  have HO : Hid (Onl p w ((w.alloc (.cells #[.int .i64 0, .string ⟨#[]⟩, .slice none 0 0, .slice none 0 0] 53)).alloc (.cells #[.int .i64 0, .string ⟨#[]⟩, .slice none 0 0, .slice none 0 0] 53))) := Lib.hid (((Onl.refl p w).alloc _).alloc _)
  have HR0 := Lib.hid (hR.keep (w' := (w.alloc (.cells #[.int .i64 0, .string ⟨#[]⟩, .slice none 0 0, .slice none 0 0] 53)).alloc (.cells #[.int .i64 0, .string ⟨#[]⟩, .slice none 0 0, .slice none 0 0] 53)) ((Go.Deep.blk_alloc_lt _ _ _ (by simp; omega)).trans (Go.Deep.blk_alloc_lt _ _ _ hpw)))
  have K0 := Lib.hid (show ((w.alloc (.cells #[.int .i64 0, .string ⟨#[]⟩, .slice none 0 0, .slice none 0 0] 53)).alloc (.cells #[.int .i64 0, .string ⟨#[]⟩, .slice none 0 0, .slice none 0 0] 53)).heap[w.heap.size]? = some (.cells #[.int .i64 0, .string ⟨#[]⟩, .slice none 0 0, .slice none 0 0] 53 (0, 0)) from (Go.Deep.blk_alloc_lt _ _ _ (by simp)).trans (heap_alloc_new w _))
  have K1 := Lib.hid (show ((w.alloc (.cells #[.int .i64 0, .string ⟨#[]⟩, .slice none 0 0, .slice none 0 0] 53)).alloc (.cells #[.int .i64 0, .string ⟨#[]⟩, .slice none 0 0, .slice none 0 0] 53)).heap[w.heap.size + 1]? = some (.cells #[.int .i64 0, .string ⟨#[]⟩, .slice none 0 0, .slice none 0 0] 53 (0, 0)) from by
    have := heap_alloc_new (w.alloc (.cells #[.int .i64 0, .string ⟨#[]⟩, .slice none 0 0, .slice none 0 0] 53)) (.cells #[.int .i64 0, .string ⟨#[]⟩, .slice none 0 0, .slice none 0 0] 53)
    rwa [show (w.alloc (.cells #[.int .i64 0, .string ⟨#[]⟩, .slice none 0 0, .slice none 0 0] 53)).heap.size = w.heap.size + 1 by simp] at this)
  have hz : w.heap.size + 2 ≤ ((w.alloc (.cells #[.int .i64 0, .string ⟨#[]⟩, .slice none 0 0, .slice none 0 0] 53)).alloc (.cells #[.int .i64 0, .string ⟨#[]⟩, .slice none 0 0, .slice none 0 0] 53)).heap.size := by simp
  have CH : Hid (∀ W s1 (q : ByteArray), RdS W p t s1 → q.size ≤ 10 → Calls Tryd.prog 76 #[.pointer (some ⟨p, 0, none⟩), .string q] W fun e w' => e = .returned (.bool (tookQ (bl q) s1).isSome) ∧ RdS w' p t ((tookQ (bl q) s1).getD s1) ∧ Onl p W w') := Lib.hid fun W s1 q h1 h2 => specHas W p t s1 q h1 ht h2
  have CQ : Hid (∀ W s1, RdS W p t s1 → Calls Tryd.prog 77 #[.pointer (some ⟨p, 0, none⟩)] W fun e w' => e = .returned (.tuple #[.string (tB (quoQ s1).1), .bool (quoQ s1).2.1]) ∧ RdS w' p t (quoQ s1).2.2 ∧ Onl p W w') := Lib.hid fun W s1 h1 => specQuoted W p t s1 h1 ht
  have IHH := Lib.hid IH
  have HSZ : Hid (∀ W s1, RdS W p t s1 → s1.length ≤ 8000) := Lib.hid fun W s1 h => Nat.le_trans h.len ht
  obtain ⟨D, hD⟩ : ∃ D, d + 1 = D := ⟨_, rfl⟩
  have hD0 : 0 < (D : Int) := by omega
  have hDm : (D : Int) - 1 = (d : Int) := by omega
  have HDE := Lib.hid hD
  have HUN : Hid (∀ x, spN D x = spN (d + 1) x) := Lib.hid fun x => by rw [hD]
  have HOK : Hid (∀ w r, OkD (d + 1) w r → OkD D w r) := Lib.hid fun w r h => by rw [← hD]; exact h
  have HTT := Lib.hid ht
  clear hR IH ht
  rw [hD]
  clear hD
  cases h1 : tookQ [110, 117, 108, 108] s with
  | some r1 =>
    have HF : Hid (spN D s = (⟨1, tB [], [], []⟩, r1)) := Lib.hid (by rw [HUN.out]; unfold spN; rw [h1])
    have C1 := Lib.hid (CH.out _ s ⟨#[110, 117, 108, 108]⟩ HR0.out (by decide))
    rw [show bl ⟨#[110, 117, 108, 108]⟩ = [110, 117, 108, 108] from rfl, h1] at C1
    simp only [Option.isSome_some, Option.getD_some] at C1
    clear h1 hd
    go_enter Tryd.func50, Tryd.ntmps50
    go_wp2_with fail
    refine C1.out.mono ?_
    rintro e w1 ⟨rfl, hr1, ho1⟩
    have HR1 := Lib.hid hr1
    have HO1 := Lib.hid (HO.out.trans ho1)
    have KR1 := Lib.hid ((ho1.block w.heap.size (lt_of_get K0.out) (by omega)).trans K0.out)
    have hz1 := Nat.le_trans hz ho1.size
    have ⟨⟨c0, c1, c2, c3⟩, f0, f1, f2, f3⟩ := keep4 KR1.out
    clear hr1 ho1
    go_wp2_with fail
    obtain ⟨W, hW, ⟨y0, y1, y2, y3⟩, HFIN⟩ := finN hpw KR1.out HR1.out HO1.out ⟨⟨1, ⟨#[]⟩, [], []⟩, none, 0, none, 0, [], w.heap.size + 1, w.heap.size + 1⟩ (okLeaf (by unfold OkI; omega) (by unfold OkS; exact Nat.zero_le _)) (Nat.le_refl _) (by simp only; omega) (.int .i64 1) (.string ⟨#[]⟩) (.slice none 0 0) (.slice none 0 0)
    change bodyPost _ _ _ _ _ (putL w1 w.heap.size 0 [.int .i64 1, .string ⟨#[]⟩, .slice none 0 0, .slice none 0 0])
    rw [hW]
    refine bodyPost_ret (v := .agg #[.int .i64 1, .string ⟨#[]⟩, .slice none 0 0, .slice none 0 0]) (by simp [results, Tryd.results50, go_sem, y0, y1, y2, y3]) rfl ?_
    exact ⟨⟨⟨1, ⟨#[]⟩, [], []⟩, none, 0, none, 0, [], w.heap.size + 1, w.heap.size + 1⟩, rfl, Lib.hid (by rw [HF.out]; rfl), ⟨HFIN.out.1, HFIN.out.2.1, HFIN.out.2.2.1⟩, by rw [HF.out]; exact HFIN.out.2.2.2.1, HFIN.out.2.2.2.2⟩
  | none =>
    have C1 := Lib.hid (CH.out _ s ⟨#[110, 117, 108, 108]⟩ HR0.out (by decide))
    rw [show bl ⟨#[110, 117, 108, 108]⟩ = [110, 117, 108, 108] from rfl, h1] at C1
    simp only [Option.isSome_none, Option.getD_none] at C1
    cases h2 : tookQ [91] s with
    | some r2 =>
      have HF : Hid (spN D s = spK (spN d) 3 93 r2) := Lib.hid (by rw [HUN.out]; unfold spN; simp only [h1, h2])
      have C2 : Hid (∀ W, RdS W p t s → Calls Tryd.prog 76 #[.pointer (some ⟨p, 0, none⟩), .string ⟨#[91]⟩] W fun e w' => e = .returned (.bool true) ∧ RdS w' p t r2 ∧ Onl p W w') := Lib.hid fun W hW => by
        have := CH.out W s ⟨#[91]⟩ hW (by decide)
        rw [show bl ⟨#[91]⟩ = [91] from rfl, h2] at this
        simpa using this
      clear h1 h2
      go_enter Tryd.func50, Tryd.ntmps50
      go_wp2_with fail
      refine C1.out.mono ?_
      rintro e w1 ⟨rfl, hr1, ho1⟩
      have HR1 := Lib.hid hr1
      have HO1 := Lib.hid (HO.out.trans ho1)
      have KR1 := Lib.hid ((ho1.block w.heap.size (lt_of_get K0.out) (by omega)).trans K0.out)
      have KN1 := Lib.hid ((ho1.block (w.heap.size + 1) (lt_of_get K1.out) (by omega)).trans K1.out)
      have hz1 := Nat.le_trans hz ho1.size
      clear hr1 ho1
      go_wp2_with fail
      refine (C2.out _ HR1.out).mono ?_
      rintro e w2 ⟨rfl, hr2, ho2⟩
      have HR2 := Lib.hid hr2
      have HO2 := Lib.hid (HO1.out.trans ho2)
      have KR2 := Lib.hid ((ho2.block w.heap.size (lt_of_get KR1.out) (by omega)).trans KR1.out)
      have KN2 := Lib.hid ((ho2.block (w.heap.size + 1) (lt_of_get KN1.out) (by omega)).trans KN1.out)
      have hz2 := Nat.le_trans hz1 ho2.size
      clear hr2 ho2
      have ⟨⟨c0, c1, c2, c3⟩, f0, f1, f2, f3⟩ := keep4 KN2.out
      go_wp2_with fail
      obtain ⟨w4, hw4⟩ : ∃ q, w2.setCell ⟨w.heap.size + 1, 0, none⟩ (.int .i64 3) = q := ⟨_, rfl⟩
      have ho4 : ∀ c, c ≠ w.heap.size + 1 → w4.heap[c]? = w2.heap[c]? := fun c hc => by rw [← hw4]; exact Below.heap_setCell _ _ _ _ hc
      have hs4 : w4.heap.size = w2.heap.size := by rw [← hw4]; simp [World.setCell]
      have KN4 : w4.heap[w.heap.size + 1]? = some (.cells #[.int .i64 3, .string ⟨#[]⟩, .slice none 0 0, .slice none 0 0] 53 (0, 0)) := by rw [← hw4, heap_setCell_same _ _ 0 _ _ _ KN2.out]; simp
      have HR4 := Lib.hid (HR2.out.keep (ho4 p (by omega)))
      have KR4 := Lib.hid ((ho4 w.heap.size (by omega)).trans KR2.out)
      have HO4 : Hid (Onl p w w4) := Lib.hid (by rw [← hw4]; exact HO2.out.setNew (by omega) _)
      have HST4 : Hid (StN d (w.heap.size + 1) (w.heap.size + 2) p 3 w4 (.slice none 0 0) (.slice none 0 0) [] []) := Lib.hid (StN.new KN4 (by omega) (by omega) (by omega) (by omega))
      rw [hw4]
      clear hw4 c0 c1 c2 c3 f0 f1 f2 f3 ho4 hs4 KN4
      cases h5 : tookQ [93] r2 with
      | some q5 =>
        have HF5 : Hid (spN D s = (⟨3, tB [], [], []⟩, q5)) := Lib.hid (by rw [HF.out]; unfold spK; rw [h5])
        have C5 := Lib.hid (CH.out w4 r2 ⟨#[93]⟩ HR4.out (by decide))
        rw [show bl ⟨#[93]⟩ = [93] from rfl, h5] at C5
        simp only [Option.isSome_some, Option.getD_some] at C5
        clear h5
        refine C5.out.mono ?_
        rintro e w5 ⟨rfl, hr5, ho5⟩
        have HST5 := Lib.hid (HST4.out.only ho5)
        have KR5 := Lib.hid ((ho5.block w.heap.size (lt_of_get KR4.out) (by omega)).trans KR4.out)
        have HO5 := Lib.hid (HO4.out.trans ho5)
        have HR5 := Lib.hid hr5
        have ⟨⟨c0, c1, c2, c3⟩, f0, f1, f2, f3⟩ := keep4 HST5.out.node
        have ⟨⟨d0, d1, d2, d3⟩, g0, g1, g2, g3⟩ := keep4 KR5.out
        have hsz5 := HST5.out.size
        clear hr5 ho5
        go_wp2_with fail
        obtain ⟨W, hW, ⟨y0, y1, y2, y3⟩, HFIN⟩ := finN hpw KR5.out HR5.out HO5.out ⟨⟨3, ⟨#[]⟩, [], []⟩, none, 0, none, 0, [], w.heap.size + 1, w.heap.size + 1⟩ (okLeaf (by unfold OkI; omega) (by unfold OkS; exact Nat.zero_le _)) (Nat.le_refl _) (by simp only; omega) (.int .i64 3) (.string ⟨#[]⟩) (.slice none 0 0) (.slice none 0 0)
        change bodyPost _ _ _ _ _ (putL w5 w.heap.size 0 [.int .i64 3, .string ⟨#[]⟩, .slice none 0 0, .slice none 0 0])
        rw [hW]
        refine bodyPost_ret (v := .agg #[.int .i64 3, .string ⟨#[]⟩, .slice none 0 0, .slice none 0 0]) (by simp [results, Tryd.results50, go_sem, y0, y1, y2, y3]) rfl ?_
        exact ⟨⟨⟨3, ⟨#[]⟩, [], []⟩, none, 0, none, 0, [], w.heap.size + 1, w.heap.size + 1⟩, rfl, Lib.hid (by rw [HF5.out]; rfl), ⟨HFIN.out.1, HFIN.out.2.1, HFIN.out.2.2.1⟩, by rw [HF5.out]; exact HFIN.out.2.2.2.1, HFIN.out.2.2.2.2⟩
      | none =>
        have HF5 : Hid (spL (spN d) 3 93 2001 [] [] r2 = spN D s) := Lib.hid (by rw [HF.out]; unfold spK; rw [h5])
        have C5 := Lib.hid (CH.out w4 r2 ⟨#[93]⟩ HR4.out (by decide))
        rw [show bl ⟨#[93]⟩ = [93] from rfl, h5] at C5
        simp only [Option.isSome_none, Option.getD_none] at C5
        clear h5
        refine C5.out.mono ?_
        rintro e w5 ⟨rfl, hr5, ho5⟩
        have HST5 := Lib.hid (HST4.out.only ho5)
        have KR5 := Lib.hid ((ho5.block w.heap.size (lt_of_get KR4.out) (by omega)).trans KR4.out)
        have HO5 := Lib.hid (HO4.out.trans ho5)
        have HR5 := Lib.hid hr5
        clear hr5 ho5
        go_wp2_with fail
        go_loopg [] 2001 (fun g wr => ∃ (s1 : Bs) (sk sn : Value) (ks : List ByteArray) (L : List RowD), Hid (StN d (w.heap.size + 1) (w.heap.size + 2) p 3 wr sk sn ks L) ∧ L.length + g = 2001 ∧ ks.length ≤ L.length ∧ Hid (spL (spN d) 3 93 g ks (L.map RowD.x) s1 = spN D s) ∧ Hid (RdS wr p t s1) ∧ Hid (wr.heap[w.heap.size]? = some (.cells #[.int .i64 0, .string ⟨#[]⟩, .slice none 0 0, .slice none 0 0] 53 (0, 0))) ∧ Hid (Onl p w wr))
        case atStart => exact ⟨_, _, _, [], [], HST5, rfl, Nat.le_refl _, HF5, HR5, KR5, HO5⟩
        case round =>
          obtain ⟨s1, sk, sn, ks, L, HST, hLg, hkl, HSP, HRD, HKR, HON⟩ := hrel
          obtain ⟨na, nc, rfl⟩ := HST.out.kids.slice
          obtain ⟨ka, kc, rfl⟩ := OwnTs.slice HST.out.keys
          have ⟨⟨k0, k1, k2, k3⟩, f0, f1, f2, f3⟩ := keep4 HST.out.node
          have hszr := HST.out.size
          have HLG := Lib.hid hLg
          have HKL := Lib.hid hkl
          clear HST5 KR5 HO5 HR5 hLg hkl
          by_cases hg : gk = 0
          · have hLi : (2000 : Int) < (L.length : Int) := by have := HLG.out; omega
            have HF6 : Hid (spN D s = (node0, s1)) := Lib.hid (by have := HSP.out; rw [hg] at this; exact this.symm)
            have ⟨⟨d0, d1, d2, d3⟩, g0, g1, g2, g3⟩ := keep4 HKR.out
            clear hg
            go_wp2_with fail
            obtain ⟨W, hW, ⟨y0, y1, y2, y3⟩, HFIN⟩ := finN hpw HKR.out HRD.out HON.out ⟨⟨0, ⟨#[]⟩, [], []⟩, none, 0, none, 0, [], w.heap.size + 1, w.heap.size + 1⟩ (okLeaf (by unfold OkI; omega) (by unfold OkS; exact Nat.zero_le _)) (Nat.le_refl _) (by simp only; omega) (.int .i64 0) (.string ⟨#[]⟩) (.slice none 0 0) (.slice none 0 0)
            change bodyPost _ _ _ _ _ (putL wr w.heap.size 0 [.int .i64 0, .string ⟨#[]⟩, .slice none 0 0, .slice none 0 0])
            rw [hW]
            refine bodyPost_ret (v := .agg #[.int .i64 0, .string ⟨#[]⟩, .slice none 0 0, .slice none 0 0]) (by simp [results, Tryd.results50, go_sem, y0, y1, y2, y3]) rfl ?_
            exact ⟨⟨⟨0, ⟨#[]⟩, [], []⟩, none, 0, none, 0, [], w.heap.size + 1, w.heap.size + 1⟩, rfl, Lib.hid (by rw [HF6.out]; rfl), ⟨HFIN.out.1, HFIN.out.2.1, HFIN.out.2.2.1⟩, by rw [HF6.out]; exact HFIN.out.2.2.2.1, HFIN.out.2.2.2.2⟩
          · obtain ⟨gn, hgn⟩ : ∃ gn, gk = gn + 1 := ⟨gk - 1, by omega⟩
            have hLi : (L.length : Int) ≤ 2000 := by have := HLG.out; omega
            have HSP1 : Hid (spL (spN d) 3 93 (gn + 1) ks (L.map RowD.x) s1 = spN D s) := Lib.hid (by rw [← hgn]; exact HSP.out)
            have HG := Lib.hid hgn
            clear hg hgn HSP
            have HSP2 := HSP1.out
            unfold spL at HSP2
            simp only [if_neg (show ¬ (3 : Int) = 4 by decide)] at HSP2
            have HSP3 := Lib.hid HSP2
            clear HSP2 HSP1
            go_wp2_with fail
            refine (IHH.out wr p t s1 HRD.out HTT.out).mono ?_
            rintro e wa ⟨r, rfl, HX, ⟨hok, hlo, hhi⟩, hra, hoa⟩
            have HSTA := Lib.hid (HST.out.only hoa)
            have HOA := Lib.hid (HON.out.trans hoa)
            have KRA := Lib.hid ((hoa.block w.heap.size (lt_of_get HKR.out) (by omega)).trans HKR.out)
            have HRA := Lib.hid hra
            have HROW : Hid (OkD d wa r ∧ w.heap.size + 2 ≤ r.lo ∧ r.hi ≤ wa.heap.size ∧ (∀ g, (Value.slice na L.length nc).ownBlock = some g → g < r.lo ∨ r.hi ≤ g) ∧ (∀ q ∈ L, q.hi ≤ r.lo) ∧ ∀ g, (Value.slice ka (ks.length) kc).ownBlock = some g → g < r.lo ∨ r.hi ≤ g) := Lib.hid (by
              have e0 := HST.out.size
              refine ⟨hok, by omega, hhi, fun g hg => .inl ?_, fun q hq => ?_, fun g hg => .inl ?_⟩
              · obtain ⟨_, c, hc⟩ := own_nod HST.out.kids g hg; have := lt_of_get hc; omega
              · have := (HST.out.kids.ok q hq).2.2.1; omega
              · obtain ⟨_, c, hc⟩ := own_str HST.out.keys g hg; have := lt_of_get hc; omega)
            clear hok hlo hhi hra hoa
            obtain ⟨xk, hxk⟩ : ∃ q, r.x.kind = q := ⟨_, rfl⟩
            have HXK := Lib.hid hxk
            have ⟨⟨k0, k1, k2, k3⟩, f0, f1, f2, f3⟩ := keep4 HSTA.out.node
            have hsza := HSTA.out.size
            have hnlt : w.heap.size + 1 < wa.heap.size := by omega
            have hlenL : L.length + 1 ≤ 1048576 := by have := HLG.out; omega
            have HSTB := Lib.hid ((HSTA.out.below ((Below.refl _ wa).alloc (Nat.le_refl _) (.cells #[.int .i64 r.x.kind, .string r.x.text, .slice r.a r.x.keys.length r.ca, .slice r.c r.x.kids.length r.cc] 53))).below ((Below.refl _ _).alloc (Nat.le_refl _) (.cells #[.int .i64 r.x.kind, .string r.x.text, .slice r.a r.x.keys.length r.ca, .slice r.c r.x.kids.length r.cc] 53)))
            have HBB : Hid (Below wa.heap.size wa ((wa.alloc (.cells #[.int .i64 r.x.kind, .string r.x.text, .slice r.a r.x.keys.length r.ca, .slice r.c r.x.kids.length r.cc] 53)).alloc (.cells #[.int .i64 r.x.kind, .string r.x.text, .slice r.a r.x.keys.length r.ca, .slice r.c r.x.kids.length r.cc] 53))) := Lib.hid (((Below.refl _ wa).alloc (Nat.le_refl _) _).alloc (by simp) _)
            have HCB : Hid (((wa.alloc (.cells #[.int .i64 r.x.kind, .string r.x.text, .slice r.a r.x.keys.length r.ca, .slice r.c r.x.kids.length r.cc] 53)).alloc (.cells #[.int .i64 r.x.kind, .string r.x.text, .slice r.a r.x.keys.length r.ca, .slice r.c r.x.kids.length r.cc] 53)).heap[wa.heap.size + 1]? = some (.cells r.cells.toArray 53 (0, 0))) := Lib.hid (by
              have := heap_alloc_new (wa.alloc (.cells #[.int .i64 r.x.kind, .string r.x.text, .slice r.a r.x.keys.length r.ca, .slice r.c r.x.kids.length r.cc] 53)) (.cells #[.int .i64 r.x.kind, .string r.x.text, .slice r.a r.x.keys.length r.ca, .slice r.c r.x.kids.length r.cc] 53)
              rw [show (wa.alloc (.cells #[.int .i64 r.x.kind, .string r.x.text, .slice r.a r.x.keys.length r.ca, .slice r.c r.x.kids.length r.cc] 53)).heap.size = wa.heap.size + 1 by simp] at this; exact this)
            have HROWB : Hid (OkD d ((wa.alloc (.cells #[.int .i64 r.x.kind, .string r.x.text, .slice r.a r.x.keys.length r.ca, .slice r.c r.x.kids.length r.cc] 53)).alloc (.cells #[.int .i64 r.x.kind, .string r.x.text, .slice r.a r.x.keys.length r.ca, .slice r.c r.x.kids.length r.cc] 53)) r) := Lib.hid (HROW.out.1.block fun c _ c2 => HBB.out.block c (by have := HROW.out.2.2.1; omega))
            clear hxk
            go_wp2_with (at_builtin; refine app_nodeD rfl _ _ rfl d (w.heap.size + 2) _ L rfl HSTB.out.kids _ 1 rfl r HCB.out ⟨HROWB.out, HROW.out.2.1, Nat.le_trans HROW.out.2.2.1 HBB.out.size, HROW.out.2.2.2.1⟩ HROW.out.2.2.2.2.1 hlenL (Nat.le_trans hsza HBB.out.size) ?_)
            intro ng ncap wb hownb hgrowb
            have HKID := HSTB.out.kid (r := r) ⟨HROWB.out, HROW.out.2.1, Nat.le_trans HROW.out.2.2.1 HBB.out.size, HROW.out.2.2.2.1⟩ HROW.out.2.2.2.2.2 hownb hgrowb
            have hnb : wb.heap[w.heap.size + 1]? = ((wa.alloc (.cells #[.int .i64 r.x.kind, .string r.x.text, .slice r.a r.x.keys.length r.ca, .slice r.c r.x.kids.length r.cc] 53)).alloc (.cells #[.int .i64 r.x.kind, .string r.x.text, .slice r.a r.x.keys.length r.ca, .slice r.c r.x.kids.length r.cc] 53)).heap[w.heap.size + 1]? := hgrowb.block _ (lt_of_get HSTB.out.node) fun e => by have := (own_nod HSTB.out.kids _ e.symm).1; omega
            have ⟨⟨_, _, _, u3⟩, _, _, _, v3⟩ := keep4 (hnb.trans HSTB.out.node)
            have HOC : Hid (Onl p w (wb.setCell ⟨w.heap.size + 1, 3, none⟩ (.slice (some ⟨ng, 0, none⟩) (L.length + 1) ncap))) := Lib.hid (onl_step ((HOA.out.alloc _).alloc _) hgrowb (fun k hk => by have := (own_nod HSTB.out.kids _ hk).1; omega) (by omega) _)
            have hpc := (HKID.2 p (by omega) (by omega)).trans (HBB.out.block p HRA.out.lt)
            have hrc := (HKID.2 w.heap.size (by omega) (by omega)).trans (HBB.out.block w.heap.size (lt_of_get KRA.out))
            have hkb : wb.heap[wa.heap.size]? = some (.cells #[.int .i64 r.x.kind, .string r.x.text, .slice r.a r.x.keys.length r.ca, .slice r.c r.x.kids.length r.cc] 53 (0, 0)) := (hgrowb.block wa.heap.size (by simp; omega) (fun e => by obtain ⟨_, c, hc⟩ := own_nod HSTA.out.kids _ e.symm; have := lt_of_get hc; omega)).trans ((Go.Deep.blk_alloc_lt _ _ _ (by simp)).trans (heap_alloc_new wa _))
            have hkc : (wb.setCell ⟨w.heap.size + 1, 3, none⟩ (.slice (some ⟨ng, 0, none⟩) (L.length + 1) ncap)).heap[wa.heap.size]? = _ := (Below.heap_setCell _ _ _ _ (by simp only; omega)).trans hkb
            have HKC := Lib.hid hkc
            have HSTC := Lib.hid HKID.1
            have HRC := Lib.hid (HRA.out.keep hpc)
            have KRC := Lib.hid (hrc.trans KRA.out)
            clear HKID hownb hgrowb hnb hpc hrc hkb hkc HSTB HSTA k0 k1 k2 k3 f0 f1 f2 f3 HROWB HCB HBB
            go_wp2_with fail
            obtain ⟨wc, hwc⟩ : ∃ q, wb.setCell ⟨w.heap.size + 1, 3, none⟩ (.slice (some ⟨ng, 0, none⟩) (L.length + 1) ncap) = q := ⟨_, rfl⟩
            rw [hwc] at HSTC HRC KRC HOC HKC ⊢
            clear hwc u3 v3
            have HSP4 := Lib.hid (show _ = spN D s from HSP3.out)
            rw [← HX.out] at HSP4
            cases h8 : tookQ [93] (spN d s1).2 with
            | some q8 =>
              have HF8 : Hid (spN D s = (⟨3, tB [], ks, (L.map RowD.x) ++ [r.x]⟩, q8)) := Lib.hid (by rw [← HSP4.out]; (simp only [h8]) <;> simp)
              have C8 := Lib.hid (CH.out wc (spN d s1).2 ⟨#[93]⟩ HRC.out (by decide))
              rw [show bl ⟨#[93]⟩ = [93] from rfl, h8] at C8
              simp only [Option.isSome_some, Option.getD_some] at C8
              clear h8
              refine C8.out.mono ?_
              rintro e wd ⟨rfl, hrd, hod⟩
              have HSTD := Lib.hid (HSTC.out.only hod)
              have KRD := Lib.hid ((hod.block w.heap.size (lt_of_get KRC.out) (by omega)).trans KRC.out)
              have HOD := Lib.hid (HOC.out.trans hod)
              have HRDD := Lib.hid hrd
              have ⟨⟨c0, c1, c2, c3⟩, f0, f1, f2, f3⟩ := keep4 HSTD.out.node
              have ⟨⟨d0, d1, d2, d3⟩, g0, g1, g2, g3⟩ := keep4 KRD.out
              clear hrd hod
              go_wp2_with fail
              have hll : (Value.slice (some ⟨ng, 0, none⟩) (L.length + 1) ncap) = .slice (some ⟨ng, 0, none⟩) (L ++ [r]).length ncap := by simp
              have HSTE := HSTD.out
              rw [hll] at HSTE
              obtain ⟨Fs, hrow⟩ := HSTE.rowE (by unfold OkI; omega) (by have e1 := HKL.out; have e2 := HLG.out; omega) (by have e2 := HLG.out; simp only [List.length_append, List.length_singleton]; omega)
              obtain ⟨W, hW, ⟨y0, y1, y2, y3⟩, HFIN⟩ := finN hpw KRD.out HRDD.out HOD.out ⟨⟨3, tB [], ks, (L ++ [r]).map RowD.x⟩, ka, kc, (some ⟨ng, 0, none⟩), ncap, Fs, w.heap.size + 2, wd.heap.size⟩ (HOK.out _ _ hrow) (by simp only; omega) (Nat.le_refl _) (.int .i64 3) (.string ⟨#[]⟩) (.slice ka (ks.length) kc) (.slice (some ⟨ng, 0, none⟩) (L.length + 1) ncap)
              change bodyPost _ _ _ _ _ (putL wd w.heap.size 0 [.int .i64 3, .string ⟨#[]⟩, .slice ka (ks.length) kc, .slice (some ⟨ng, 0, none⟩) (L.length + 1) ncap])
              rw [hW]
              refine bodyPost_ret (v := .agg #[.int .i64 3, .string ⟨#[]⟩, .slice ka (ks.length) kc, .slice (some ⟨ng, 0, none⟩) (L.length + 1) ncap]) (by simp [results, Tryd.results50, go_sem, y0, y1, y2, y3]) rfl ?_
              exact ⟨⟨⟨3, tB [], ks, (L ++ [r]).map RowD.x⟩, ka, kc, (some ⟨ng, 0, none⟩), ncap, Fs, w.heap.size + 2, wd.heap.size⟩, by simp [tB], Lib.hid (by rw [HF8.out]; simp), ⟨HFIN.out.1, HFIN.out.2.1, HFIN.out.2.2.1⟩, by rw [HF8.out]; exact HFIN.out.2.2.2.1, HFIN.out.2.2.2.2⟩
            | none =>
              have C8 := Lib.hid (CH.out wc (spN d s1).2 ⟨#[93]⟩ HRC.out (by decide))
              rw [show bl ⟨#[93]⟩ = [93] from rfl, h8] at C8
              simp only [Option.isSome_none, Option.getD_none] at C8
              have HSP5 := HSP4.out
              simp only [h8] at HSP5
              have HSP6 := Lib.hid HSP5
              clear h8 HSP5
              refine C8.out.mono ?_
              rintro e wd ⟨rfl, hrd, hod⟩
              have HSTD := Lib.hid (HSTC.out.only hod)
              have KRD := Lib.hid ((hod.block w.heap.size (lt_of_get KRC.out) (by omega)).trans KRC.out)
              have HKD := Lib.hid ((hod.block wa.heap.size (lt_of_get HKC.out) (by omega)).trans HKC.out)
              have HOD := Lib.hid (HOC.out.trans hod)
              have HRDD := Lib.hid hrd
              have hszd := HSTD.out.size
              have ⟨⟨c0, c1, c2, c3⟩, f0, f1, f2, f3⟩ := keep4 HKD.out
              have ⟨⟨d0, d1, d2, d3⟩, g0, g1, g2, g3⟩ := keep4 KRD.out
              clear hrd hod
              by_cases hk0 : r.x.kind = 0
              · have hkb : (r.x.kind == 0) = true := by rw [beq_iff_eq]; exact hk0
                have HF9 : Hid (spN D s = (node0, (spN d s1).2)) := Lib.hid (by rw [← HSP6.out, if_pos hk0])
                clear hk0
                go_wp2_with fail
                obtain ⟨W, hW, ⟨y0, y1, y2, y3⟩, HFIN⟩ := finN hpw KRD.out HRDD.out HOD.out ⟨⟨0, ⟨#[]⟩, [], []⟩, none, 0, none, 0, [], w.heap.size + 1, w.heap.size + 1⟩ (okLeaf (by unfold OkI; omega) (by unfold OkS; exact Nat.zero_le _)) (Nat.le_refl _) (by simp only; omega) (.int .i64 0) (.string ⟨#[]⟩) (.slice none 0 0) (.slice none 0 0)
                change bodyPost _ _ _ _ _ (putL wd w.heap.size 0 [.int .i64 0, .string ⟨#[]⟩, .slice none 0 0, .slice none 0 0])
                rw [hW]
                refine bodyPost_ret (v := .agg #[.int .i64 0, .string ⟨#[]⟩, .slice none 0 0, .slice none 0 0]) (by simp [results, Tryd.results50, go_sem, y0, y1, y2, y3]) rfl ?_
                exact ⟨⟨⟨0, ⟨#[]⟩, [], []⟩, none, 0, none, 0, [], w.heap.size + 1, w.heap.size + 1⟩, rfl, Lib.hid (by rw [HF9.out]; rfl), ⟨HFIN.out.1, HFIN.out.2.1, HFIN.out.2.2.1⟩, by rw [HF9.out]; exact HFIN.out.2.2.2.1, HFIN.out.2.2.2.2⟩
              · have hkb : (r.x.kind == 0) = false := by rw [beq_eq_false_iff_ne]; exact hk0
                cases h9 : tookQ [44] (spN d s1).2 with
                | none =>
                  have HF9 : Hid (spN D s = (node0, (spN d s1).2)) := Lib.hid (by rw [← HSP6.out, if_neg hk0]; simp only [h9])
                  have C9 := Lib.hid (CH.out wd (spN d s1).2 ⟨#[44]⟩ HRDD.out (by decide))
                  rw [show bl ⟨#[44]⟩ = [44] from rfl, h9] at C9
                  simp only [Option.isSome_none, Option.getD_none] at C9
                  clear h9 hk0
                  go_wp2_with fail
                  refine C9.out.mono ?_
                  rintro e we ⟨rfl, hre, hoe⟩
                  have KRE := Lib.hid ((hoe.block w.heap.size (lt_of_get KRD.out) (by omega)).trans KRD.out)
                  have HOE := Lib.hid (HOD.out.trans hoe)
                  have HRE := Lib.hid hre
                  have hsze := Nat.le_trans hszd hoe.size
                  have ⟨⟨d0, d1, d2, d3⟩, g0, g1, g2, g3⟩ := keep4 KRE.out
                  clear hre hoe
                  go_wp2_with fail
                  obtain ⟨W, hW, ⟨y0, y1, y2, y3⟩, HFIN⟩ := finN hpw KRE.out HRE.out HOE.out ⟨⟨0, ⟨#[]⟩, [], []⟩, none, 0, none, 0, [], w.heap.size + 1, w.heap.size + 1⟩ (okLeaf (by unfold OkI; omega) (by unfold OkS; exact Nat.zero_le _)) (Nat.le_refl _) (by simp only; omega) (.int .i64 0) (.string ⟨#[]⟩) (.slice none 0 0) (.slice none 0 0)
                  change bodyPost _ _ _ _ _ (putL we w.heap.size 0 [.int .i64 0, .string ⟨#[]⟩, .slice none 0 0, .slice none 0 0])
                  rw [hW]
                  refine bodyPost_ret (v := .agg #[.int .i64 0, .string ⟨#[]⟩, .slice none 0 0, .slice none 0 0]) (by simp [results, Tryd.results50, go_sem, y0, y1, y2, y3]) rfl ?_
                  exact ⟨⟨⟨0, ⟨#[]⟩, [], []⟩, none, 0, none, 0, [], w.heap.size + 1, w.heap.size + 1⟩, rfl, Lib.hid (by rw [HF9.out]; rfl), ⟨HFIN.out.1, HFIN.out.2.1, HFIN.out.2.2.1⟩, by rw [HF9.out]; exact HFIN.out.2.2.2.1, HFIN.out.2.2.2.2⟩
                | some q9 =>
                  have HF9 : Hid (spL (spN d) 3 93 gn ks ((L ++ [r]).map RowD.x) q9 = spN D s) := Lib.hid (by rw [← HSP6.out, if_neg hk0]; simp [h9])
                  have C9 := Lib.hid (CH.out wd (spN d s1).2 ⟨#[44]⟩ HRDD.out (by decide))
                  rw [show bl ⟨#[44]⟩ = [44] from rfl, h9] at C9
                  simp only [Option.isSome_some, Option.getD_some] at C9
                  clear h9 hk0
                  go_wp2_with fail
                  refine C9.out.mono ?_
                  rintro e we ⟨rfl, hre, hoe⟩
                  have HSTE := Lib.hid (HSTD.out.only hoe)
                  have KRE := Lib.hid ((hoe.block w.heap.size (lt_of_get KRD.out) (by omega)).trans KRD.out)
                  have HOE := Lib.hid (HOD.out.trans hoe)
                  have HRE := Lib.hid hre
                  clear hre hoe
                  go_wp2_with fail
                  go_roundg gn
                  case rel => exact ⟨q9, _, _, ks, L ++ [r], HSTE, by have e1 := HLG.out; have e2 := HG.out; simp only [List.length_append, List.length_singleton]; omega, by have e1 := HKL.out; simp only [List.length_append, List.length_singleton]; omega, HF9, HRE, KRE, HOE⟩
                  case measure => have := HG.out; omega
    | none =>
      cases h3 : tookQ [123] s with
      | some r3 =>
        have HF : Hid (spN D s = spK (spN d) 4 125 r3) := Lib.hid (by rw [HUN.out]; unfold spN; simp only [h1, h2, h3])
        have C2 : Hid (∀ W, RdS W p t s → Calls Tryd.prog 76 #[.pointer (some ⟨p, 0, none⟩), .string ⟨#[91]⟩] W fun e w' => e = .returned (.bool false) ∧ RdS w' p t s ∧ Onl p W w') := Lib.hid fun W hW => by
          have := CH.out W s ⟨#[91]⟩ hW (by decide)
          rw [show bl ⟨#[91]⟩ = [91] from rfl, h2] at this
          simpa using this
        have C3 : Hid (∀ W, RdS W p t s → Calls Tryd.prog 76 #[.pointer (some ⟨p, 0, none⟩), .string ⟨#[123]⟩] W fun e w' => e = .returned (.bool true) ∧ RdS w' p t r3 ∧ Onl p W w') := Lib.hid fun W hW => by
          have := CH.out W s ⟨#[123]⟩ hW (by decide)
          rw [show bl ⟨#[123]⟩ = [123] from rfl, h3] at this
          simpa using this
        clear h1 h2 h3
        go_enter Tryd.func50, Tryd.ntmps50
        go_wp2_with fail
        refine C1.out.mono ?_
        rintro e w1 ⟨rfl, hr1, ho1⟩
        have HR1 := Lib.hid hr1
        have HO1 := Lib.hid (HO.out.trans ho1)
        have KR1 := Lib.hid ((ho1.block w.heap.size (lt_of_get K0.out) (by omega)).trans K0.out)
        have KN1 := Lib.hid ((ho1.block (w.heap.size + 1) (lt_of_get K1.out) (by omega)).trans K1.out)
        have hz1 := Nat.le_trans hz ho1.size
        clear hr1 ho1
        go_wp2_with fail
        refine (C2.out _ HR1.out).mono ?_
        rintro e w2 ⟨rfl, hr2, ho2⟩
        have HR2 := Lib.hid hr2
        have HO2 := Lib.hid (HO1.out.trans ho2)
        have KR2 := Lib.hid ((ho2.block w.heap.size (lt_of_get KR1.out) (by omega)).trans KR1.out)
        have KN2 := Lib.hid ((ho2.block (w.heap.size + 1) (lt_of_get KN1.out) (by omega)).trans KN1.out)
        have hz2 := Nat.le_trans hz1 ho2.size
        clear hr2 ho2
        go_wp2_with fail
        refine (C3.out _ HR2.out).mono ?_
        rintro e w3 ⟨rfl, hr3, ho3⟩
        have HR3 := Lib.hid hr3
        have HO3 := Lib.hid (HO2.out.trans ho3)
        have KR3 := Lib.hid ((ho3.block w.heap.size (lt_of_get KR2.out) (by omega)).trans KR2.out)
        have KN3 := Lib.hid ((ho3.block (w.heap.size + 1) (lt_of_get KN2.out) (by omega)).trans KN2.out)
        have hz3 := Nat.le_trans hz2 ho3.size
        clear hr3 ho3
        have ⟨⟨c0, c1, c2, c3⟩, f0, f1, f2, f3⟩ := keep4 KN3.out
        go_wp2_with fail
        obtain ⟨w4, hw4⟩ : ∃ q, w3.setCell ⟨w.heap.size + 1, 0, none⟩ (.int .i64 4) = q := ⟨_, rfl⟩
        have ho4 : ∀ c, c ≠ w.heap.size + 1 → w4.heap[c]? = w3.heap[c]? := fun c hc => by rw [← hw4]; exact Below.heap_setCell _ _ _ _ hc
        have hs4 : w4.heap.size = w3.heap.size := by rw [← hw4]; simp [World.setCell]
        have KN4 : w4.heap[w.heap.size + 1]? = some (.cells #[.int .i64 4, .string ⟨#[]⟩, .slice none 0 0, .slice none 0 0] 53 (0, 0)) := by rw [← hw4, heap_setCell_same _ _ 0 _ _ _ KN3.out]; simp
        have HR4 := Lib.hid (HR3.out.keep (ho4 p (by omega)))
        have KR4 := Lib.hid ((ho4 w.heap.size (by omega)).trans KR3.out)
        have HO4 : Hid (Onl p w w4) := Lib.hid (by rw [← hw4]; exact HO3.out.setNew (by omega) _)
        have HST4 : Hid (StN d (w.heap.size + 1) (w.heap.size + 2) p 4 w4 (.slice none 0 0) (.slice none 0 0) [] []) := Lib.hid (StN.new KN4 (by omega) (by omega) (by omega) (by omega))
        rw [hw4]
        clear hw4 c0 c1 c2 c3 f0 f1 f2 f3 ho4 hs4 KN4
        cases h5 : tookQ [125] r3 with
        | some q5 =>
          have HF5 : Hid (spN D s = (⟨4, tB [], [], []⟩, q5)) := Lib.hid (by rw [HF.out]; unfold spK; rw [h5])
          have C5 := Lib.hid (CH.out w4 r3 ⟨#[125]⟩ HR4.out (by decide))
          rw [show bl ⟨#[125]⟩ = [125] from rfl, h5] at C5
          simp only [Option.isSome_some, Option.getD_some] at C5
          clear h5
          refine C5.out.mono ?_
          rintro e w5 ⟨rfl, hr5, ho5⟩
          have HST5 := Lib.hid (HST4.out.only ho5)
          have KR5 := Lib.hid ((ho5.block w.heap.size (lt_of_get KR4.out) (by omega)).trans KR4.out)
          have HO5 := Lib.hid (HO4.out.trans ho5)
          have HR5 := Lib.hid hr5
          have ⟨⟨c0, c1, c2, c3⟩, f0, f1, f2, f3⟩ := keep4 HST5.out.node
          have ⟨⟨d0, d1, d2, d3⟩, g0, g1, g2, g3⟩ := keep4 KR5.out
          have hsz5 := HST5.out.size
          clear hr5 ho5
          go_wp2_with fail
          obtain ⟨W, hW, ⟨y0, y1, y2, y3⟩, HFIN⟩ := finN hpw KR5.out HR5.out HO5.out ⟨⟨4, ⟨#[]⟩, [], []⟩, none, 0, none, 0, [], w.heap.size + 1, w.heap.size + 1⟩ (okLeaf (by unfold OkI; omega) (by unfold OkS; exact Nat.zero_le _)) (Nat.le_refl _) (by simp only; omega) (.int .i64 4) (.string ⟨#[]⟩) (.slice none 0 0) (.slice none 0 0)
          change bodyPost _ _ _ _ _ (putL w5 w.heap.size 0 [.int .i64 4, .string ⟨#[]⟩, .slice none 0 0, .slice none 0 0])
          rw [hW]
          refine bodyPost_ret (v := .agg #[.int .i64 4, .string ⟨#[]⟩, .slice none 0 0, .slice none 0 0]) (by simp [results, Tryd.results50, go_sem, y0, y1, y2, y3]) rfl ?_
          exact ⟨⟨⟨4, ⟨#[]⟩, [], []⟩, none, 0, none, 0, [], w.heap.size + 1, w.heap.size + 1⟩, rfl, Lib.hid (by rw [HF5.out]; rfl), ⟨HFIN.out.1, HFIN.out.2.1, HFIN.out.2.2.1⟩, by rw [HF5.out]; exact HFIN.out.2.2.2.1, HFIN.out.2.2.2.2⟩
        | none =>
          have HF5 : Hid (spL (spN d) 4 125 2001 [] [] r3 = spN D s) := Lib.hid (by rw [HF.out]; unfold spK; rw [h5])
          have C5 := Lib.hid (CH.out w4 r3 ⟨#[125]⟩ HR4.out (by decide))
          rw [show bl ⟨#[125]⟩ = [125] from rfl, h5] at C5
          simp only [Option.isSome_none, Option.getD_none] at C5
          clear h5
          refine C5.out.mono ?_
          rintro e w5 ⟨rfl, hr5, ho5⟩
          have HST5 := Lib.hid (HST4.out.only ho5)
          have KR5 := Lib.hid ((ho5.block w.heap.size (lt_of_get KR4.out) (by omega)).trans KR4.out)
          have HO5 := Lib.hid (HO4.out.trans ho5)
          have HR5 := Lib.hid hr5
          clear hr5 ho5
          go_wp2_with fail
          go_loopg [] 2001 (fun g wr => ∃ (s1 : Bs) (sk sn : Value) (ks : List ByteArray) (L : List RowD), Hid (StN d (w.heap.size + 1) (w.heap.size + 2) p 4 wr sk sn ks L) ∧ L.length + g = 2001 ∧ ks.length ≤ L.length ∧ Hid (spL (spN d) 4 125 g ks (L.map RowD.x) s1 = spN D s) ∧ Hid (RdS wr p t s1) ∧ Hid (wr.heap[w.heap.size]? = some (.cells #[.int .i64 0, .string ⟨#[]⟩, .slice none 0 0, .slice none 0 0] 53 (0, 0))) ∧ Hid (Onl p w wr))
          case atStart => exact ⟨_, _, _, [], [], HST5, rfl, Nat.le_refl _, HF5, HR5, KR5, HO5⟩
          case round =>
            obtain ⟨s1, sk, sn, ks, L, HST, hLg, hkl, HSP, HRD, HKR, HON⟩ := hrel
            obtain ⟨na, nc, rfl⟩ := HST.out.kids.slice
            obtain ⟨ka, kc, rfl⟩ := OwnTs.slice HST.out.keys
            have ⟨⟨k0, k1, k2, k3⟩, f0, f1, f2, f3⟩ := keep4 HST.out.node
            have hszr := HST.out.size
            have HLG := Lib.hid hLg
            have HKL := Lib.hid hkl
            clear HST5 KR5 HO5 HR5 hLg hkl
            by_cases hg : gk = 0
            · have hLi : (2000 : Int) < (L.length : Int) := by have := HLG.out; omega
              have HF6 : Hid (spN D s = (node0, s1)) := Lib.hid (by have := HSP.out; rw [hg] at this; exact this.symm)
              have ⟨⟨d0, d1, d2, d3⟩, g0, g1, g2, g3⟩ := keep4 HKR.out
              clear hg
              go_wp2_with fail
              obtain ⟨W, hW, ⟨y0, y1, y2, y3⟩, HFIN⟩ := finN hpw HKR.out HRD.out HON.out ⟨⟨0, ⟨#[]⟩, [], []⟩, none, 0, none, 0, [], w.heap.size + 1, w.heap.size + 1⟩ (okLeaf (by unfold OkI; omega) (by unfold OkS; exact Nat.zero_le _)) (Nat.le_refl _) (by simp only; omega) (.int .i64 0) (.string ⟨#[]⟩) (.slice none 0 0) (.slice none 0 0)
              change bodyPost _ _ _ _ _ (putL wr w.heap.size 0 [.int .i64 0, .string ⟨#[]⟩, .slice none 0 0, .slice none 0 0])
              rw [hW]
              refine bodyPost_ret (v := .agg #[.int .i64 0, .string ⟨#[]⟩, .slice none 0 0, .slice none 0 0]) (by simp [results, Tryd.results50, go_sem, y0, y1, y2, y3]) rfl ?_
              exact ⟨⟨⟨0, ⟨#[]⟩, [], []⟩, none, 0, none, 0, [], w.heap.size + 1, w.heap.size + 1⟩, rfl, Lib.hid (by rw [HF6.out]; rfl), ⟨HFIN.out.1, HFIN.out.2.1, HFIN.out.2.2.1⟩, by rw [HF6.out]; exact HFIN.out.2.2.2.1, HFIN.out.2.2.2.2⟩
            · obtain ⟨gn, hgn⟩ : ∃ gn, gk = gn + 1 := ⟨gk - 1, by omega⟩
              have hLi : (L.length : Int) ≤ 2000 := by have := HLG.out; omega
              have HSP1 : Hid (spL (spN d) 4 125 (gn + 1) ks (L.map RowD.x) s1 = spN D s) := Lib.hid (by rw [← hgn]; exact HSP.out)
              have HG := Lib.hid hgn
              clear hg hgn HSP
              cases h6 : (quoQ s1).2.1 with
              | false =>
                have HF6 : Hid (spN D s = (node0, (quoQ s1).2.2)) := Lib.hid (by rw [← HSP1.out]; unfold spL; simp only [if_true, keyS, h6, Bool.false_eq_true, if_false])
                have C6 := Lib.hid (CQ.out wr s1 HRD.out)
                rw [h6] at C6
                clear h6
                go_wp2_with fail
                refine C6.out.mono ?_
                rintro e w6 ⟨rfl, hr6, ho6⟩
                have HR6 := Lib.hid hr6
                have HO6 := Lib.hid (HON.out.trans ho6)
                have KR6 := Lib.hid ((ho6.block w.heap.size (lt_of_get HKR.out) (by omega)).trans HKR.out)
                have hz6 := Nat.le_trans hszr ho6.size
                have ⟨⟨d0, d1, d2, d3⟩, g0, g1, g2, g3⟩ := keep4 KR6.out
                clear hr6 ho6
                go_wp2_with fail
                obtain ⟨W, hW, ⟨y0, y1, y2, y3⟩, HFIN⟩ := finN hpw KR6.out HR6.out HO6.out ⟨⟨0, ⟨#[]⟩, [], []⟩, none, 0, none, 0, [], w.heap.size + 1, w.heap.size + 1⟩ (okLeaf (by unfold OkI; omega) (by unfold OkS; exact Nat.zero_le _)) (Nat.le_refl _) (by simp only; omega) (.int .i64 0) (.string ⟨#[]⟩) (.slice none 0 0) (.slice none 0 0)
                change bodyPost _ _ _ _ _ (putL w6 w.heap.size 0 [.int .i64 0, .string ⟨#[]⟩, .slice none 0 0, .slice none 0 0])
                rw [hW]
                refine bodyPost_ret (v := .agg #[.int .i64 0, .string ⟨#[]⟩, .slice none 0 0, .slice none 0 0]) (by simp [results, Tryd.results50, go_sem, y0, y1, y2, y3]) rfl ?_
                exact ⟨⟨⟨0, ⟨#[]⟩, [], []⟩, none, 0, none, 0, [], w.heap.size + 1, w.heap.size + 1⟩, rfl, Lib.hid (by rw [HF6.out]; rfl), ⟨HFIN.out.1, HFIN.out.2.1, HFIN.out.2.2.1⟩, by rw [HF6.out]; exact HFIN.out.2.2.2.1, HFIN.out.2.2.2.2⟩
              | true =>
                have C6 := Lib.hid (CQ.out wr s1 HRD.out)
                rw [h6] at C6
                cases h7 : tookQ [58] (quoQ s1).2.2 with
                | none =>
                  have HF6 : Hid (spN D s = (node0, (quoQ s1).2.2)) := Lib.hid (by rw [← HSP1.out]; unfold spL; simp only [if_true, keyS, h6, h7])
                  have C7 : Hid (∀ W, RdS W p t (quoQ s1).2.2 → Calls Tryd.prog 76 #[.pointer (some ⟨p, 0, none⟩), .string ⟨#[58]⟩] W fun e w' => e = .returned (.bool false) ∧ RdS w' p t (quoQ s1).2.2 ∧ Onl p W w') := Lib.hid fun W hW => by
                    have := CH.out W _ ⟨#[58]⟩ hW (by decide)
                    rw [show bl ⟨#[58]⟩ = [58] from rfl, h7] at this
                    simpa using this
                  clear h6 h7
                  go_wp2_with fail
                  refine C6.out.mono ?_
                  rintro e w6 ⟨rfl, hr6, ho6⟩
                  have HR6 := Lib.hid hr6
                  have HO6 := Lib.hid (HON.out.trans ho6)
                  have KR6 := Lib.hid ((ho6.block w.heap.size (lt_of_get HKR.out) (by omega)).trans HKR.out)
                  have hz6 := Nat.le_trans hszr ho6.size
                  clear hr6 ho6
                  go_wp2_with fail
                  refine (C7.out _ HR6.out).mono ?_
                  rintro e w7 ⟨rfl, hr7, ho7⟩
                  have HR7 := Lib.hid hr7
                  have HO7 := Lib.hid (HO6.out.trans ho7)
                  have KR7 := Lib.hid ((ho7.block w.heap.size (lt_of_get KR6.out) (by omega)).trans KR6.out)
                  have hz7 := Nat.le_trans hz6 ho7.size
                  have ⟨⟨d0, d1, d2, d3⟩, g0, g1, g2, g3⟩ := keep4 KR7.out
                  clear hr7 ho7
                  go_wp2_with fail
                  obtain ⟨W, hW, ⟨y0, y1, y2, y3⟩, HFIN⟩ := finN hpw KR7.out HR7.out HO7.out ⟨⟨0, ⟨#[]⟩, [], []⟩, none, 0, none, 0, [], w.heap.size + 1, w.heap.size + 1⟩ (okLeaf (by unfold OkI; omega) (by unfold OkS; exact Nat.zero_le _)) (Nat.le_refl _) (by simp only; omega) (.int .i64 0) (.string ⟨#[]⟩) (.slice none 0 0) (.slice none 0 0)
                  change bodyPost _ _ _ _ _ (putL w7 w.heap.size 0 [.int .i64 0, .string ⟨#[]⟩, .slice none 0 0, .slice none 0 0])
                  rw [hW]
                  refine bodyPost_ret (v := .agg #[.int .i64 0, .string ⟨#[]⟩, .slice none 0 0, .slice none 0 0]) (by simp [results, Tryd.results50, go_sem, y0, y1, y2, y3]) rfl ?_
                  exact ⟨⟨⟨0, ⟨#[]⟩, [], []⟩, none, 0, none, 0, [], w.heap.size + 1, w.heap.size + 1⟩, rfl, Lib.hid (by rw [HF6.out]; rfl), ⟨HFIN.out.1, HFIN.out.2.1, HFIN.out.2.2.1⟩, by rw [HF6.out]; exact HFIN.out.2.2.2.1, HFIN.out.2.2.2.2⟩
                | some q7 =>
                  have HSP2 := HSP1.out
                  unfold spL at HSP2
                  simp only [if_true, keyS, h6, h7] at HSP2
                  have HSP3 := Lib.hid HSP2
                  have C7 : Hid (∀ W, RdS W p t (quoQ s1).2.2 → Calls Tryd.prog 76 #[.pointer (some ⟨p, 0, none⟩), .string ⟨#[58]⟩] W fun e w' => e = .returned (.bool true) ∧ RdS w' p t q7 ∧ Onl p W w') := Lib.hid fun W hW => by
                    have := CH.out W _ ⟨#[58]⟩ hW (by decide)
                    rw [show bl ⟨#[58]⟩ = [58] from rfl, h7] at this
                    simpa using this
                  have HKO : Hid (OkS (tB (quoQ s1).1)) := Lib.hid (by
                    have e1 := quo_len s1
                    have e2 := HSZ.out _ _ HRD.out
                    unfold OkS tB; simp only [ByteArray.size, List.size_toArray]; omega)
                  clear h6 h7 HSP2 HSP1
                  generalize tB (quoQ s1).1 = ky at *
                  go_wp2_with fail
                  refine C6.out.mono ?_
                  rintro e w6 ⟨rfl, hr6, ho6⟩
                  have HR6 := Lib.hid hr6
                  have HO6 := Lib.hid (HON.out.trans ho6)
                  have KR6 := Lib.hid ((ho6.block w.heap.size (lt_of_get HKR.out) (by omega)).trans HKR.out)
                  have HST6 := Lib.hid (HST.out.only ho6)
                  clear hr6 ho6
                  go_wp2_with fail
                  refine (C7.out _ HR6.out).mono ?_
                  rintro e w7 ⟨rfl, hr7, ho7⟩
                  have HR7 := Lib.hid hr7
                  have HO7 := Lib.hid (HO6.out.trans ho7)
                  have KR7 := Lib.hid ((ho7.block w.heap.size (lt_of_get KR6.out) (by omega)).trans KR6.out)
                  have HST7 := Lib.hid (HST6.out.only ho7)
                  have ⟨⟨k0, k1, k2, k3⟩, f0, f1, f2, f3⟩ := keep4 HST7.out.node
                  have hsz7 := HST7.out.size
                  have hnlt7 : w.heap.size + 1 < w7.heap.size := by omega
                  have hlen7 : ks.length + 1 ≤ 1048576 := by have e1 := HKL.out; have e2 := HLG.out; omega
                  have HOK7 := Lib.hid (OwnTs.below HST7.out.keys ((Below.refl _ w7).alloc (Nat.le_refl _) (.cells #[.string ky] 9)))
                  clear hr7 ho7 HST6
                  go_wp2_with (at_builtin; refine app_textD rfl _ _ rfl (w.heap.size + 2) _ ks rfl HOK7.out _ 1 rfl ky (by simp) hlen7 (Nat.le_trans hsz7 (by simp)) ?_)
                  intro gg cap w8 hown8 hgrow8 hat8
                  have HSTa := Lib.hid (HST7.out.below ((Below.refl _ w7).alloc (Nat.le_refl _) (.cells #[.string ky] 9)))
                  have HKEY := HSTa.out.key HKO.out hown8 hgrow8 (by rw [show (w7.alloc (.cells #[.string ky] 9)).heap.size = w7.heap.size + 1 by simp]; exact hat8)
                  have hn8 : w8.heap[w.heap.size + 1]? = (w7.alloc (.cells #[.string ky] 9)).heap[w.heap.size + 1]? := hgrow8.block _ (lt_of_get HSTa.out.node) fun e => by have := (own_str HSTa.out.keys _ e.symm).1; omega
                  have ⟨⟨_, _, u2, _⟩, _, _, v2, _⟩ := keep4 (hn8.trans HSTa.out.node)
                  have HO8 : Hid (Onl p w (w8.setCell ⟨w.heap.size + 1, 2, none⟩ (.slice (some ⟨gg, 0, none⟩) (ks.length + 1) cap))) := Lib.hid (onl_step (HO7.out.alloc _) hgrow8 (fun k hk => by have := (own_str HSTa.out.keys _ hk).1; omega) (by omega) _)
                  have hp8 := (HKEY.2 p (by omega) (by omega)).trans (Go.Deep.blk_alloc_lt w7 (.cells #[.string ky] 9) p HR7.out.lt)
                  have hr8 := (HKEY.2 w.heap.size (by omega) (by omega)).trans (Go.Deep.blk_alloc_lt w7 (.cells #[.string ky] 9) w.heap.size (lt_of_get KR7.out))
                  have HST8 := Lib.hid HKEY.1
                  have HR8 := Lib.hid (HR7.out.keep hp8)
                  have KR8 := Lib.hid (hr8.trans KR7.out)
                  clear HKEY hown8 hgrow8 hat8 hn8 hp8 hr8 HSTa HST7 k0 k1 k2 k3 f0 f1 f2 f3
                  go_wp2_with fail
                  obtain ⟨w9, hw9⟩ : ∃ q, w8.setCell ⟨w.heap.size + 1, 2, none⟩ (.slice (some ⟨gg, 0, none⟩) (ks.length + 1) cap) = q := ⟨_, rfl⟩
                  rw [hw9] at HST8 HR8 KR8 HO8 ⊢
                  clear hw9 u2 v2
                  refine (IHH.out w9 p t q7 HR8.out HTT.out).mono ?_
                  rintro e wa ⟨r, rfl, HX, ⟨hok, hlo, hhi⟩, hra, hoa⟩
                  have HSTA := Lib.hid (HST8.out.only hoa)
                  have HOA := Lib.hid (HO8.out.trans hoa)
                  have KRA := Lib.hid ((hoa.block w.heap.size (lt_of_get KR8.out) (by omega)).trans KR8.out)
                  have HRA := Lib.hid hra
                  have HROW : Hid (OkD d wa r ∧ w.heap.size + 2 ≤ r.lo ∧ r.hi ≤ wa.heap.size ∧ (∀ g, (Value.slice na L.length nc).ownBlock = some g → g < r.lo ∨ r.hi ≤ g) ∧ (∀ q ∈ L, q.hi ≤ r.lo) ∧ ∀ g, (Value.slice (some ⟨gg, 0, none⟩) (ks.length + 1) cap).ownBlock = some g → g < r.lo ∨ r.hi ≤ g) := Lib.hid (by
                    have e0 := HST8.out.size
                    refine ⟨hok, by omega, hhi, fun g hg => .inl ?_, fun q hq => ?_, fun g hg => .inl ?_⟩
                    · obtain ⟨_, c, hc⟩ := own_nod HST8.out.kids g hg; have := lt_of_get hc; omega
                    · have := (HST8.out.kids.ok q hq).2.2.1; omega
                    · obtain ⟨_, c, hc⟩ := own_str HST8.out.keys g hg; have := lt_of_get hc; omega)
                  clear hok hlo hhi hra hoa
                  obtain ⟨xk, hxk⟩ : ∃ q, r.x.kind = q := ⟨_, rfl⟩
                  have HXK := Lib.hid hxk
                  have ⟨⟨k0, k1, k2, k3⟩, f0, f1, f2, f3⟩ := keep4 HSTA.out.node
                  have hsza := HSTA.out.size
                  have hnlt : w.heap.size + 1 < wa.heap.size := by omega
                  have hlenL : L.length + 1 ≤ 1048576 := by have := HLG.out; omega
                  have HSTB := Lib.hid ((HSTA.out.below ((Below.refl _ wa).alloc (Nat.le_refl _) (.cells #[.int .i64 r.x.kind, .string r.x.text, .slice r.a r.x.keys.length r.ca, .slice r.c r.x.kids.length r.cc] 53))).below ((Below.refl _ _).alloc (Nat.le_refl _) (.cells #[.int .i64 r.x.kind, .string r.x.text, .slice r.a r.x.keys.length r.ca, .slice r.c r.x.kids.length r.cc] 53)))
                  have HBB : Hid (Below wa.heap.size wa ((wa.alloc (.cells #[.int .i64 r.x.kind, .string r.x.text, .slice r.a r.x.keys.length r.ca, .slice r.c r.x.kids.length r.cc] 53)).alloc (.cells #[.int .i64 r.x.kind, .string r.x.text, .slice r.a r.x.keys.length r.ca, .slice r.c r.x.kids.length r.cc] 53))) := Lib.hid (((Below.refl _ wa).alloc (Nat.le_refl _) _).alloc (by simp) _)
                  have HCB : Hid (((wa.alloc (.cells #[.int .i64 r.x.kind, .string r.x.text, .slice r.a r.x.keys.length r.ca, .slice r.c r.x.kids.length r.cc] 53)).alloc (.cells #[.int .i64 r.x.kind, .string r.x.text, .slice r.a r.x.keys.length r.ca, .slice r.c r.x.kids.length r.cc] 53)).heap[wa.heap.size + 1]? = some (.cells r.cells.toArray 53 (0, 0))) := Lib.hid (by
                    have := heap_alloc_new (wa.alloc (.cells #[.int .i64 r.x.kind, .string r.x.text, .slice r.a r.x.keys.length r.ca, .slice r.c r.x.kids.length r.cc] 53)) (.cells #[.int .i64 r.x.kind, .string r.x.text, .slice r.a r.x.keys.length r.ca, .slice r.c r.x.kids.length r.cc] 53)
                    rw [show (wa.alloc (.cells #[.int .i64 r.x.kind, .string r.x.text, .slice r.a r.x.keys.length r.ca, .slice r.c r.x.kids.length r.cc] 53)).heap.size = wa.heap.size + 1 by simp] at this; exact this)
                  have HROWB : Hid (OkD d ((wa.alloc (.cells #[.int .i64 r.x.kind, .string r.x.text, .slice r.a r.x.keys.length r.ca, .slice r.c r.x.kids.length r.cc] 53)).alloc (.cells #[.int .i64 r.x.kind, .string r.x.text, .slice r.a r.x.keys.length r.ca, .slice r.c r.x.kids.length r.cc] 53)) r) := Lib.hid (HROW.out.1.block fun c _ c2 => HBB.out.block c (by have := HROW.out.2.2.1; omega))
                  clear hxk
                  go_wp2_with (at_builtin; refine app_nodeD rfl _ _ rfl d (w.heap.size + 2) _ L rfl HSTB.out.kids _ 1 rfl r HCB.out ⟨HROWB.out, HROW.out.2.1, Nat.le_trans HROW.out.2.2.1 HBB.out.size, HROW.out.2.2.2.1⟩ HROW.out.2.2.2.2.1 hlenL (Nat.le_trans hsza HBB.out.size) ?_)
                  intro ng ncap wb hownb hgrowb
                  have HKID := HSTB.out.kid (r := r) ⟨HROWB.out, HROW.out.2.1, Nat.le_trans HROW.out.2.2.1 HBB.out.size, HROW.out.2.2.2.1⟩ HROW.out.2.2.2.2.2 hownb hgrowb
                  have hnb : wb.heap[w.heap.size + 1]? = ((wa.alloc (.cells #[.int .i64 r.x.kind, .string r.x.text, .slice r.a r.x.keys.length r.ca, .slice r.c r.x.kids.length r.cc] 53)).alloc (.cells #[.int .i64 r.x.kind, .string r.x.text, .slice r.a r.x.keys.length r.ca, .slice r.c r.x.kids.length r.cc] 53)).heap[w.heap.size + 1]? := hgrowb.block _ (lt_of_get HSTB.out.node) fun e => by have := (own_nod HSTB.out.kids _ e.symm).1; omega
                  have ⟨⟨_, _, _, u3⟩, _, _, _, v3⟩ := keep4 (hnb.trans HSTB.out.node)
                  have HOC : Hid (Onl p w (wb.setCell ⟨w.heap.size + 1, 3, none⟩ (.slice (some ⟨ng, 0, none⟩) (L.length + 1) ncap))) := Lib.hid (onl_step ((HOA.out.alloc _).alloc _) hgrowb (fun k hk => by have := (own_nod HSTB.out.kids _ hk).1; omega) (by omega) _)
                  have hpc := (HKID.2 p (by omega) (by omega)).trans (HBB.out.block p HRA.out.lt)
                  have hrc := (HKID.2 w.heap.size (by omega) (by omega)).trans (HBB.out.block w.heap.size (lt_of_get KRA.out))
                  have hkb : wb.heap[wa.heap.size]? = some (.cells #[.int .i64 r.x.kind, .string r.x.text, .slice r.a r.x.keys.length r.ca, .slice r.c r.x.kids.length r.cc] 53 (0, 0)) := (hgrowb.block wa.heap.size (by simp; omega) (fun e => by obtain ⟨_, c, hc⟩ := own_nod HSTA.out.kids _ e.symm; have := lt_of_get hc; omega)).trans ((Go.Deep.blk_alloc_lt _ _ _ (by simp)).trans (heap_alloc_new wa _))
                  have hkc : (wb.setCell ⟨w.heap.size + 1, 3, none⟩ (.slice (some ⟨ng, 0, none⟩) (L.length + 1) ncap)).heap[wa.heap.size]? = _ := (Below.heap_setCell _ _ _ _ (by simp only; omega)).trans hkb
                  have HKC := Lib.hid hkc
                  have HSTC := Lib.hid HKID.1
                  have HRC := Lib.hid (HRA.out.keep hpc)
                  have KRC := Lib.hid (hrc.trans KRA.out)
                  clear HKID hownb hgrowb hnb hpc hrc hkb hkc HSTB HSTA k0 k1 k2 k3 f0 f1 f2 f3 HROWB HCB HBB
                  go_wp2_with fail
                  obtain ⟨wc, hwc⟩ : ∃ q, wb.setCell ⟨w.heap.size + 1, 3, none⟩ (.slice (some ⟨ng, 0, none⟩) (L.length + 1) ncap) = q := ⟨_, rfl⟩
                  rw [hwc] at HSTC HRC KRC HOC HKC ⊢
                  clear hwc u3 v3
                  have HSP4 := Lib.hid (show _ = spN D s from HSP3.out)
                  rw [← HX.out] at HSP4
                  cases h8 : tookQ [125] (spN d q7).2 with
                  | some q8 =>
                    have HF8 : Hid (spN D s = (⟨4, tB [], (ks ++ [ky]), (L.map RowD.x) ++ [r.x]⟩, q8)) := Lib.hid (by rw [← HSP4.out]; (simp only [h8]) <;> simp)
                    have C8 := Lib.hid (CH.out wc (spN d q7).2 ⟨#[125]⟩ HRC.out (by decide))
                    rw [show bl ⟨#[125]⟩ = [125] from rfl, h8] at C8
                    simp only [Option.isSome_some, Option.getD_some] at C8
                    clear h8
                    refine C8.out.mono ?_
                    rintro e wd ⟨rfl, hrd, hod⟩
                    have HSTD := Lib.hid (HSTC.out.only hod)
                    have KRD := Lib.hid ((hod.block w.heap.size (lt_of_get KRC.out) (by omega)).trans KRC.out)
                    have HOD := Lib.hid (HOC.out.trans hod)
                    have HRDD := Lib.hid hrd
                    have ⟨⟨c0, c1, c2, c3⟩, f0, f1, f2, f3⟩ := keep4 HSTD.out.node
                    have ⟨⟨d0, d1, d2, d3⟩, g0, g1, g2, g3⟩ := keep4 KRD.out
                    clear hrd hod
                    go_wp2_with fail
                    have hll : (Value.slice (some ⟨ng, 0, none⟩) (L.length + 1) ncap) = .slice (some ⟨ng, 0, none⟩) (L ++ [r]).length ncap := by simp
                    have hkk : (Value.slice (some ⟨gg, 0, none⟩) (ks.length + 1) cap) = .slice (some ⟨gg, 0, none⟩) (ks ++ [ky]).length cap := by simp
                    have HSTE := HSTD.out
                    rw [hll, hkk] at HSTE
                    obtain ⟨Fs, hrow⟩ := HSTE.rowE (by unfold OkI; omega) (by have e1 := HKL.out; have e2 := HLG.out; simp only [List.length_append, List.length_singleton]; omega) (by have e2 := HLG.out; simp only [List.length_append, List.length_singleton]; omega)
                    obtain ⟨W, hW, ⟨y0, y1, y2, y3⟩, HFIN⟩ := finN hpw KRD.out HRDD.out HOD.out ⟨⟨4, tB [], (ks ++ [ky]), (L ++ [r]).map RowD.x⟩, (some ⟨gg, 0, none⟩), cap, (some ⟨ng, 0, none⟩), ncap, Fs, w.heap.size + 2, wd.heap.size⟩ (HOK.out _ _ hrow) (by simp only; omega) (Nat.le_refl _) (.int .i64 4) (.string ⟨#[]⟩) (.slice (some ⟨gg, 0, none⟩) (ks.length + 1) cap) (.slice (some ⟨ng, 0, none⟩) (L.length + 1) ncap)
                    change bodyPost _ _ _ _ _ (putL wd w.heap.size 0 [.int .i64 4, .string ⟨#[]⟩, .slice (some ⟨gg, 0, none⟩) (ks.length + 1) cap, .slice (some ⟨ng, 0, none⟩) (L.length + 1) ncap])
                    rw [hW]
                    refine bodyPost_ret (v := .agg #[.int .i64 4, .string ⟨#[]⟩, .slice (some ⟨gg, 0, none⟩) (ks.length + 1) cap, .slice (some ⟨ng, 0, none⟩) (L.length + 1) ncap]) (by simp [results, Tryd.results50, go_sem, y0, y1, y2, y3]) rfl ?_
                    exact ⟨⟨⟨4, tB [], (ks ++ [ky]), (L ++ [r]).map RowD.x⟩, (some ⟨gg, 0, none⟩), cap, (some ⟨ng, 0, none⟩), ncap, Fs, w.heap.size + 2, wd.heap.size⟩, by simp [tB], Lib.hid (by rw [HF8.out]; simp), ⟨HFIN.out.1, HFIN.out.2.1, HFIN.out.2.2.1⟩, by rw [HF8.out]; exact HFIN.out.2.2.2.1, HFIN.out.2.2.2.2⟩
                  | none =>
                    have C8 := Lib.hid (CH.out wc (spN d q7).2 ⟨#[125]⟩ HRC.out (by decide))
                    rw [show bl ⟨#[125]⟩ = [125] from rfl, h8] at C8
                    simp only [Option.isSome_none, Option.getD_none] at C8
                    have HSP5 := HSP4.out
                    simp only [h8] at HSP5
                    have HSP6 := Lib.hid HSP5
                    clear h8 HSP5
                    refine C8.out.mono ?_
                    rintro e wd ⟨rfl, hrd, hod⟩
                    have HSTD := Lib.hid (HSTC.out.only hod)
                    have KRD := Lib.hid ((hod.block w.heap.size (lt_of_get KRC.out) (by omega)).trans KRC.out)
                    have HKD := Lib.hid ((hod.block wa.heap.size (lt_of_get HKC.out) (by omega)).trans HKC.out)
                    have HOD := Lib.hid (HOC.out.trans hod)
                    have HRDD := Lib.hid hrd
                    have hszd := HSTD.out.size
                    have ⟨⟨c0, c1, c2, c3⟩, f0, f1, f2, f3⟩ := keep4 HKD.out
                    have ⟨⟨d0, d1, d2, d3⟩, g0, g1, g2, g3⟩ := keep4 KRD.out
                    clear hrd hod
                    by_cases hk0 : r.x.kind = 0
                    · have hkb : (r.x.kind == 0) = true := by rw [beq_iff_eq]; exact hk0
                      have HF9 : Hid (spN D s = (node0, (spN d q7).2)) := Lib.hid (by rw [← HSP6.out, if_pos hk0])
                      clear hk0
                      go_wp2_with fail
                      obtain ⟨W, hW, ⟨y0, y1, y2, y3⟩, HFIN⟩ := finN hpw KRD.out HRDD.out HOD.out ⟨⟨0, ⟨#[]⟩, [], []⟩, none, 0, none, 0, [], w.heap.size + 1, w.heap.size + 1⟩ (okLeaf (by unfold OkI; omega) (by unfold OkS; exact Nat.zero_le _)) (Nat.le_refl _) (by simp only; omega) (.int .i64 0) (.string ⟨#[]⟩) (.slice none 0 0) (.slice none 0 0)
                      change bodyPost _ _ _ _ _ (putL wd w.heap.size 0 [.int .i64 0, .string ⟨#[]⟩, .slice none 0 0, .slice none 0 0])
                      rw [hW]
                      refine bodyPost_ret (v := .agg #[.int .i64 0, .string ⟨#[]⟩, .slice none 0 0, .slice none 0 0]) (by simp [results, Tryd.results50, go_sem, y0, y1, y2, y3]) rfl ?_
                      exact ⟨⟨⟨0, ⟨#[]⟩, [], []⟩, none, 0, none, 0, [], w.heap.size + 1, w.heap.size + 1⟩, rfl, Lib.hid (by rw [HF9.out]; rfl), ⟨HFIN.out.1, HFIN.out.2.1, HFIN.out.2.2.1⟩, by rw [HF9.out]; exact HFIN.out.2.2.2.1, HFIN.out.2.2.2.2⟩
                    · have hkb : (r.x.kind == 0) = false := by rw [beq_eq_false_iff_ne]; exact hk0
                      cases h9 : tookQ [44] (spN d q7).2 with
                      | none =>
                        have HF9 : Hid (spN D s = (node0, (spN d q7).2)) := Lib.hid (by rw [← HSP6.out, if_neg hk0]; simp only [h9])
                        have C9 := Lib.hid (CH.out wd (spN d q7).2 ⟨#[44]⟩ HRDD.out (by decide))
                        rw [show bl ⟨#[44]⟩ = [44] from rfl, h9] at C9
                        simp only [Option.isSome_none, Option.getD_none] at C9
                        clear h9 hk0
                        go_wp2_with fail
                        refine C9.out.mono ?_
                        rintro e we ⟨rfl, hre, hoe⟩
                        have KRE := Lib.hid ((hoe.block w.heap.size (lt_of_get KRD.out) (by omega)).trans KRD.out)
                        have HOE := Lib.hid (HOD.out.trans hoe)
                        have HRE := Lib.hid hre
                        have hsze := Nat.le_trans hszd hoe.size
                        have ⟨⟨d0, d1, d2, d3⟩, g0, g1, g2, g3⟩ := keep4 KRE.out
                        clear hre hoe
                        go_wp2_with fail
                        obtain ⟨W, hW, ⟨y0, y1, y2, y3⟩, HFIN⟩ := finN hpw KRE.out HRE.out HOE.out ⟨⟨0, ⟨#[]⟩, [], []⟩, none, 0, none, 0, [], w.heap.size + 1, w.heap.size + 1⟩ (okLeaf (by unfold OkI; omega) (by unfold OkS; exact Nat.zero_le _)) (Nat.le_refl _) (by simp only; omega) (.int .i64 0) (.string ⟨#[]⟩) (.slice none 0 0) (.slice none 0 0)
                        change bodyPost _ _ _ _ _ (putL we w.heap.size 0 [.int .i64 0, .string ⟨#[]⟩, .slice none 0 0, .slice none 0 0])
                        rw [hW]
                        refine bodyPost_ret (v := .agg #[.int .i64 0, .string ⟨#[]⟩, .slice none 0 0, .slice none 0 0]) (by simp [results, Tryd.results50, go_sem, y0, y1, y2, y3]) rfl ?_
                        exact ⟨⟨⟨0, ⟨#[]⟩, [], []⟩, none, 0, none, 0, [], w.heap.size + 1, w.heap.size + 1⟩, rfl, Lib.hid (by rw [HF9.out]; rfl), ⟨HFIN.out.1, HFIN.out.2.1, HFIN.out.2.2.1⟩, by rw [HF9.out]; exact HFIN.out.2.2.2.1, HFIN.out.2.2.2.2⟩
                      | some q9 =>
                        have HF9 : Hid (spL (spN d) 4 125 gn (ks ++ [ky]) ((L ++ [r]).map RowD.x) q9 = spN D s) := Lib.hid (by rw [← HSP6.out, if_neg hk0]; simp [h9])
                        have C9 := Lib.hid (CH.out wd (spN d q7).2 ⟨#[44]⟩ HRDD.out (by decide))
                        rw [show bl ⟨#[44]⟩ = [44] from rfl, h9] at C9
                        simp only [Option.isSome_some, Option.getD_some] at C9
                        clear h9 hk0
                        go_wp2_with fail
                        refine C9.out.mono ?_
                        rintro e we ⟨rfl, hre, hoe⟩
                        have HSTE := Lib.hid (HSTD.out.only hoe)
                        have KRE := Lib.hid ((hoe.block w.heap.size (lt_of_get KRD.out) (by omega)).trans KRD.out)
                        have HOE := Lib.hid (HOD.out.trans hoe)
                        have HRE := Lib.hid hre
                        clear hre hoe
                        go_wp2_with fail
                        go_roundg gn
                        case rel => exact ⟨q9, _, _, (ks ++ [ky]), L ++ [r], HSTE, by have e1 := HLG.out; have e2 := HG.out; simp only [List.length_append, List.length_singleton]; omega, by have e1 := HKL.out; simp only [List.length_append, List.length_singleton]; omega, HF9, HRE, KRE, HOE⟩
                        case measure => have := HG.out; omega
      | none =>
        have C2 : Hid (∀ W, RdS W p t s → Calls Tryd.prog 76 #[.pointer (some ⟨p, 0, none⟩), .string ⟨#[91]⟩] W fun e w' => e = .returned (.bool false) ∧ RdS w' p t s ∧ Onl p W w') := Lib.hid fun W hW => by
          have := CH.out W s ⟨#[91]⟩ hW (by decide)
          rw [show bl ⟨#[91]⟩ = [91] from rfl, h2] at this
          simpa using this
        have C3 : Hid (∀ W, RdS W p t s → Calls Tryd.prog 76 #[.pointer (some ⟨p, 0, none⟩), .string ⟨#[123]⟩] W fun e w' => e = .returned (.bool false) ∧ RdS w' p t s ∧ Onl p W w') := Lib.hid fun W hW => by
          have := CH.out W s ⟨#[123]⟩ hW (by decide)
          rw [show bl ⟨#[123]⟩ = [123] from rfl, h3] at this
          simpa using this
        have HKO : Hid (OkS (tB (quoQ s).1)) := Lib.hid (by
          have e1 := quo_len s
          have e2 := HSZ.out _ _ HR0.out
          unfold OkS tB; simp only [ByteArray.size, List.size_toArray]; omega)
        have HF : Hid (spN D s = if (quoQ s).2.1 then (⟨2, tB (quoQ s).1, [], []⟩, (quoQ s).2.2) else (node0, (quoQ s).2.2)) := Lib.hid (by rw [HUN.out]; unfold spN; simp only [h1, h2, h3])
        clear h1 h2 h3
        cases h6 : (quoQ s).2.1 with

        | false =>
          rw [h6] at HF
          have C4 := Lib.hid fun W hW => CQ.out W s hW
          simp only [h6] at C4
          clear h6
          go_enter Tryd.func50, Tryd.ntmps50
          go_wp2_with fail
          refine (C1.out).mono ?_
          rintro e w1 ⟨rfl, hr1, ho1⟩
          have HR1 := Lib.hid hr1
          have HO1 := Lib.hid (HO.out.trans ho1)
          have KR1 := Lib.hid ((ho1.block w.heap.size (lt_of_get K0.out) (by omega)).trans K0.out)
          have KN1 := Lib.hid ((ho1.block (w.heap.size + 1) (lt_of_get K1.out) (by omega)).trans K1.out)
          have hz1 := Nat.le_trans hz ho1.size
          clear hr1 ho1
          go_wp2_with fail
          refine (C2.out _ HR1.out).mono ?_
          rintro e w2 ⟨rfl, hr2, ho2⟩
          have HR2 := Lib.hid hr2
          have HO2 := Lib.hid (HO1.out.trans ho2)
          have KR2 := Lib.hid ((ho2.block w.heap.size (lt_of_get KR1.out) (by omega)).trans KR1.out)
          have KN2 := Lib.hid ((ho2.block (w.heap.size + 1) (lt_of_get KN1.out) (by omega)).trans KN1.out)
          have hz2 := Nat.le_trans hz1 ho2.size
          clear hr2 ho2
          go_wp2_with fail
          refine (C3.out _ HR2.out).mono ?_
          rintro e w3 ⟨rfl, hr3, ho3⟩
          have HR3 := Lib.hid hr3
          have HO3 := Lib.hid (HO2.out.trans ho3)
          have KR3 := Lib.hid ((ho3.block w.heap.size (lt_of_get KR2.out) (by omega)).trans KR2.out)
          have KN3 := Lib.hid ((ho3.block (w.heap.size + 1) (lt_of_get KN2.out) (by omega)).trans KN2.out)
          have hz3 := Nat.le_trans hz2 ho3.size
          clear hr3 ho3
          go_wp2_with fail
          refine (C4.out _ HR3.out).mono ?_
          rintro e w4 ⟨rfl, hr4, ho4⟩
          have HR4 := Lib.hid hr4
          have HO4 := Lib.hid (HO3.out.trans ho4)
          have KR4 := Lib.hid ((ho4.block w.heap.size (lt_of_get KR3.out) (by omega)).trans KR3.out)
          have KN4 := Lib.hid ((ho4.block (w.heap.size + 1) (lt_of_get KN3.out) (by omega)).trans KN3.out)
          have hz4 := Nat.le_trans hz3 ho4.size
          clear hr4 ho4
          have ⟨⟨c0, c1, c2, c3⟩, f0, f1, f2, f3⟩ := keep4 KN4.out
          have ⟨⟨d0, d1, d2, d3⟩, g0, g1, g2, g3⟩ := keep4 KR4.out
          have HF2 : Hid (spN D s = (node0, (quoQ s).2.2)) := Lib.hid (by rw [HF.out]; simp)
          go_wp2_with fail
          obtain ⟨W, hW, ⟨y0, y1, y2, y3⟩, HFIN⟩ := finN hpw KR4.out HR4.out HO4.out ⟨⟨0, ⟨#[]⟩, [], []⟩, none, 0, none, 0, [], w.heap.size + 1, w.heap.size + 1⟩ (okLeaf (by unfold OkI; omega) (by unfold OkS; exact Nat.zero_le _)) (Nat.le_refl _) (by simp only; omega) (.int .i64 0) (.string ⟨#[]⟩) (.slice none 0 0) (.slice none 0 0)
          change bodyPost _ _ _ _ _ (putL w4 w.heap.size 0 [.int .i64 0, .string ⟨#[]⟩, .slice none 0 0, .slice none 0 0])
          rw [hW]
          refine bodyPost_ret (v := .agg #[.int .i64 0, .string ⟨#[]⟩, .slice none 0 0, .slice none 0 0]) (by simp [results, Tryd.results50, go_sem, y0, y1, y2, y3]) rfl ?_
          exact ⟨⟨⟨0, ⟨#[]⟩, [], []⟩, none, 0, none, 0, [], w.heap.size + 1, w.heap.size + 1⟩, rfl, Lib.hid (by rw [HF2.out]; rfl), ⟨HFIN.out.1, HFIN.out.2.1, HFIN.out.2.2.1⟩, by rw [HF2.out]; exact HFIN.out.2.2.2.1, HFIN.out.2.2.2.2⟩
        | true =>
          rw [h6] at HF
          have C4 := Lib.hid fun W hW => CQ.out W s hW
          simp only [h6] at C4
          clear h6
          go_enter Tryd.func50, Tryd.ntmps50
          go_wp2_with fail
          refine (C1.out).mono ?_
          rintro e w1 ⟨rfl, hr1, ho1⟩
          have HR1 := Lib.hid hr1
          have HO1 := Lib.hid (HO.out.trans ho1)
          have KR1 := Lib.hid ((ho1.block w.heap.size (lt_of_get K0.out) (by omega)).trans K0.out)
          have KN1 := Lib.hid ((ho1.block (w.heap.size + 1) (lt_of_get K1.out) (by omega)).trans K1.out)
          have hz1 := Nat.le_trans hz ho1.size
          clear hr1 ho1
          go_wp2_with fail
          refine (C2.out _ HR1.out).mono ?_
          rintro e w2 ⟨rfl, hr2, ho2⟩
          have HR2 := Lib.hid hr2
          have HO2 := Lib.hid (HO1.out.trans ho2)
          have KR2 := Lib.hid ((ho2.block w.heap.size (lt_of_get KR1.out) (by omega)).trans KR1.out)
          have KN2 := Lib.hid ((ho2.block (w.heap.size + 1) (lt_of_get KN1.out) (by omega)).trans KN1.out)
          have hz2 := Nat.le_trans hz1 ho2.size
          clear hr2 ho2
          go_wp2_with fail
          refine (C3.out _ HR2.out).mono ?_
          rintro e w3 ⟨rfl, hr3, ho3⟩
          have HR3 := Lib.hid hr3
          have HO3 := Lib.hid (HO2.out.trans ho3)
          have KR3 := Lib.hid ((ho3.block w.heap.size (lt_of_get KR2.out) (by omega)).trans KR2.out)
          have KN3 := Lib.hid ((ho3.block (w.heap.size + 1) (lt_of_get KN2.out) (by omega)).trans KN2.out)
          have hz3 := Nat.le_trans hz2 ho3.size
          clear hr3 ho3
          go_wp2_with fail
          refine (C4.out _ HR3.out).mono ?_
          rintro e w4 ⟨rfl, hr4, ho4⟩
          have HR4 := Lib.hid hr4
          have HO4 := Lib.hid (HO3.out.trans ho4)
          have KR4 := Lib.hid ((ho4.block w.heap.size (lt_of_get KR3.out) (by omega)).trans KR3.out)
          have KN4 := Lib.hid ((ho4.block (w.heap.size + 1) (lt_of_get KN3.out) (by omega)).trans KN3.out)
          have hz4 := Nat.le_trans hz3 ho4.size
          clear hr4 ho4
          have ⟨⟨c0, c1, c2, c3⟩, f0, f1, f2, f3⟩ := keep4 KN4.out
          have ⟨⟨d0, d1, d2, d3⟩, g0, g1, g2, g3⟩ := keep4 KR4.out
          have HF2 : Hid (spN D s = (⟨2, tB (quoQ s).1, [], []⟩, (quoQ s).2.2)) := Lib.hid (by rw [HF.out]; simp)
          generalize tB (quoQ s).1 = ty at *
          go_wp2_with fail
          obtain ⟨w5, hw5⟩ : ∃ q, putL w4 (w.heap.size + 1) 0 [.int .i64 2, .string ty, .slice none 0 0, .slice none 0 0] = q := ⟨_, rfl⟩
          have hoth : ∀ c, c ≠ w.heap.size + 1 → w5.heap[c]? = w4.heap[c]? := fun c hc => by rw [← hw5]; exact putL_other _ _ _ _ _ hc
          have hsz5 : w5.heap.size = w4.heap.size := by rw [← hw5]; exact putL_size _ _ _ _
          have HR5 := HR4.out.keep (hoth p (by omega))
          have KR5 := (hoth w.heap.size (by omega)).trans KR4.out
          have HO5 : Onl p w w5 := ⟨by rw [← hw5]; exact HO4.out.os, by rw [← hw5]; exact HO4.out.tape, by rw [← hw5]; exact HO4.out.output, by rw [hsz5]; exact HO4.out.size, fun k hk hp => (hoth k (by omega)).trans (HO4.out.block k hk hp)⟩
          obtain ⟨W, hW, ⟨y0, y1, y2, y3⟩, HFIN⟩ := finN hpw KR5 HR5 HO5 ⟨⟨2, ty, [], []⟩, none, 0, none, 0, [], w.heap.size + 1, w.heap.size + 1⟩ (okLeaf (d := D) (by unfold OkI; omega) HKO.out) (Nat.le_refl _) (by simp only; omega) (.int .i64 2) (.string ty) (.slice none 0 0) (.slice none 0 0)
          change bodyPost _ _ _ _ _ (putL (putL w4 (w.heap.size + 1) 0 [.int .i64 2, .string ty, .slice none 0 0, .slice none 0 0]) w.heap.size 0 [.int .i64 2, .string ty, .slice none 0 0, .slice none 0 0])
          rw [hw5, hW]
          refine bodyPost_ret (v := .agg #[.int .i64 2, .string ty, .slice none 0 0, .slice none 0 0]) (by simp [results, Tryd.results50, go_sem, y0, y1, y2, y3]) rfl ?_
          exact ⟨⟨⟨2, ty, [], []⟩, none, 0, none, 0, [], w.heap.size + 1, w.heap.size + 1⟩, rfl, Lib.hid (by rw [HF2.out]), ⟨HFIN.out.1, HFIN.out.2.1, HFIN.out.2.2.1⟩, by rw [HF2.out]; exact HFIN.out.2.2.2.1, HFIN.out.2.2.2.2⟩
theorem spNode : ∀ d, d ≤ 101 → SpLaw d
  | 0, _ => spNode0
  | d + 1, h => spNode_of d (by omega) (spNode d (by omega))
end Go.Proofs.YtlncdkeooacebaaDoor.Rw
