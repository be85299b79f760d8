/-
  Contract: the program's reader of the kids of a node reads as it does plainly, if its reader of nodes does, in memory of its own; of what was there the reader's own place alone is changed. Conditions: in memory, a text of at most 8000 bytes; the library's variables hold what the program lays.
-/
import Derived.Test.YtlncdkeooacebaaDoorRows
import Derived.Test.YtlncdkeooacebaaDoorJsY3
import Derived.Test.YtlncdkeooacebaaDoorJsY4
import Derived.Deep.LoopGhost
namespace Go.Proofs.YtlncdkeooacebaaDoor.Rw
open Go.RowKit Words
open _root_.Go.Proofs.YtlncdkeooacebaaDoor.Nm (OwnTs)
set_option linter.unusedVariables false
set_option linter.unusedSimpArgs false
set_option maxRecDepth 100000

theorem rdL_none1 {R : Bs → Option (NodeP × Bs)} {kd : Int} {e : UInt8} {g : Nat} {ks : List ByteArray} {ns : List NodeP} {s : Bs} (h : stepQ kd s = none) : rdL R kd e (g + 1) ks ns s = none := by
  unfold stepQ at h; unfold rdL; rw [h]
theorem rdL_none2 {R : Bs → Option (NodeP × Bs)} {kd : Int} {e : UInt8} {g : Nat} {ks : List ByteArray} {ns : List NodeP} {s s2 : Bs} {k : ByteArray} (h : stepQ kd s = some (k, s2)) (h2 : R s2 = none) : rdL R kd e (g + 1) ks ns s = none := by
  unfold stepQ at h; unfold rdL; rw [h]; simp only [h2]
theorem rdL_end {R : Bs → Option (NodeP × Bs)} {kd : Int} {e : UInt8} {g : Nat} {ks : List ByteArray} {ns : List NodeP} {s s2 s3 q : Bs} {k : ByteArray} {x : NodeP} (h : stepQ kd s = some (k, s2)) (h2 : R s2 = some (x, s3)) (h3 : tookQ [e] s3 = some q) : rdL R kd e (g + 1) ks ns s = some (⟨kd, tB [], if kd = 4 then ks ++ [k] else ks, ns ++ [x]⟩, q) := by
  unfold stepQ at h; unfold rdL; rw [h]; simp only [h2, h3]
theorem rdL_stop {R : Bs → Option (NodeP × Bs)} {kd : Int} {e : UInt8} {g : Nat} {ks : List ByteArray} {ns : List NodeP} {s s2 s3 : Bs} {k : ByteArray} {x : NodeP} (h : stepQ kd s = some (k, s2)) (h2 : R s2 = some (x, s3)) (h3 : tookQ [e] s3 = none) (h4 : tookQ [44] s3 = none) : rdL R kd e (g + 1) ks ns s = none := by
  unfold stepQ at h; unfold rdL; rw [h]; simp only [h2, h3, h4]
theorem rdL_next {R : Bs → Option (NodeP × Bs)} {kd : Int} {e : UInt8} {g : Nat} {ks : List ByteArray} {ns : List NodeP} {s s2 s3 q : Bs} {k : ByteArray} {x : NodeP} (h : stepQ kd s = some (k, s2)) (h2 : R s2 = some (x, s3)) (h3 : tookQ [e] s3 = none) (h4 : tookQ [44] s3 = some q) : rdL R kd e (g + 1) ks ns s = rdL R kd e g (if kd = 4 then ks ++ [k] else ks) (ns ++ [x]) q := by
  conv => lhs; unfold rdL
  unfold stepQ at h; rw [h]; simp only [h2, h3, h4]
theorem js_pos (n : Nat) (x : NodeP) : 1 ≤ (jsB (n + 1) x).length := by
  simp only [jsB]
  split
  · simp
  · split
    · simp
    · split <;> simp
theorem rdN_lt {f : Nat} {s q : Bs} {x : NodeP} (h : rdN f s = some (x, q)) : q.length < s.length := by
  cases f with
  | zero => cases h
  | succ f =>
    have e := congrArg List.length (rdN_sound _ _ _ _ h).1
    have := js_pos f x
    rw [List.length_append] at e; omega
theorem step_len {kd : Int} {s s2 : Bs} {k : ByteArray} (h : stepQ kd s = some (k, s2)) : s2.length ≤ s.length := by
  unfold stepQ at h
  split at h
  · exact (key_len h).1
  · simp only [Option.some.injEq, Prod.mk.injEq] at h; rw [h.2]; exact Nat.le_refl _
theorem took_len {p s q : Bs} (h : tookQ p s = some q) : q.length ≤ s.length := by
  have := congrArg List.length (took_some h)
  rw [List.length_append] at this; omega
def KOut (n p : Nat) (res : Option (NodeP × Bs)) (w : World) (e : Ending) (w' : World) : Prop :=
  (∃ (r : RowD) (q : Bs), Hid (res = some (r.x, q)) ∧ e = .returned (.tuple #[.agg #[.int .i64 r.x.kind, .string r.x.text, .slice r.a r.x.keys.length r.ca, .slice r.c r.x.kids.length r.cc], .nilIface]) ∧ (OkD n w' r ∧ w.heap.size ≤ r.lo ∧ r.hi ≤ w'.heap.size) ∧ RdI w' p q) ∨ (Hid (res = none) ∧ ∃ (k : Int) (u : ByteArray) (s' : Bs), e = .returned (.tuple #[.agg #[.int .i64 k, .string u, .slice none 0 0, .slice none 0 0], .iface 100 (.agg #[.int .i64 3])]) ∧ RdI w' p s')
theorem finI {p rb : Nat} {w w1 : World} {s1 : Bs} {x0 x1 x2 x3 : Value} (hrb : w.heap.size ≤ rb) (hp : p < w.heap.size) (K : w1.heap[rb]? = some (.cells #[x0, x1, x2, x3] 53 (0, 0))) (hR : RdI w1 p s1) (ho : Onl p w w1) (v0 v1 v2 v3 : Value) :
    ∃ W, putL w1 rb 0 [v0, v1, v2, v3] = W ∧ (W.cell? ⟨rb, 0, none⟩ = some v0 ∧ W.cell? ⟨rb, 1, none⟩ = some v1 ∧ W.cell? ⟨rb, 2, none⟩ = some v2 ∧ W.cell? ⟨rb, 3, none⟩ = some v3) ∧
      Hid (W.heap.size = w1.heap.size ∧ (∀ c, c ≠ rb → W.heap[c]? = w1.heap[c]?) ∧ RdI W p s1 ∧ Onl p w W) := by
  obtain ⟨hr4, _, _⟩ := putL_cells (w := w1) (g := rb) (o := 0) (l := [v0, v1, v2, v3]) K (by simp)
  have hoth := putL_other [v0, v1, v2, v3] w1 rb 0
  have hsz := putL_size [v0, v1, v2, v3] w1 rb 0
  have hrs := putL_rest [v0, v1, v2, v3] w1 rb 0
  refine ⟨_, rfl, nrow4z hr4, Lib.hid ⟨hsz, hoth, hR.keep (hoth p (by omega)), ⟨hrs.1.trans ho.os, hrs.2.1.trans ho.tape, hrs.2.2.trans ho.output, by rw [hsz]; exact ho.size, fun k hk hp2 => (hoth k (by omega)).trans (ho.block k hk hp2)⟩⟩⟩
theorem onl_fr {p nb base : Nat} {w w2 w3 : World} (h : Onl p w w2) (g : Fr base p nb w2 w3) (hb : w.heap.size ≤ base) (hn : w.heap.size ≤ nb) : Onl p w w3 :=
  ⟨g.os.trans h.os, g.tape.trans h.tape, g.output.trans h.output, Nat.le_trans h.size g.size, fun k hk hp => (g.block k (by omega) hp (by omega)).trans (h.block k hk hp)⟩
set_option maxHeartbeats 2000000 in
theorem kids3 (f : Nat) (IH : KidI 3 f) (w : World) (p B : Nat) (s : Bs) (hR : RdI w p s) (hsf : s.length < f) (hs8 : s.length ≤ 8000) (hV : VarsJ B w) (hp : B ≤ p) (hB : B ≤ w.heap.size) :
    Calls Tryd.prog 105 #[.pointer (some ⟨p, 0, none⟩), .agg #[.int .i64 3, .string ⟨#[]⟩, .slice none 0 0, .slice none 0 0], .string ⟨#[93]⟩] w fun e w' => KOut (f + 1) p (rdK (rdN f) f 3 93 s) w e w' ∧ Onl p w w' := by
  have hpw := hR.lt
  have HO : Hid (Onl p w ((w.alloc (.cells #[.int .i64 3, .string ⟨#[]⟩, .slice none 0 0, .slice none 0 0] 53)).alloc (.cells #[.int .i64 0, .string ⟨#[]⟩, .slice none 0 0, .slice none 0 0] 53))) := Lib.hid (((Onl.refl p w).alloc _).alloc _)
  have HR0 : Hid (RdI ((w.alloc (.cells #[.int .i64 3, .string ⟨#[]⟩, .slice none 0 0, .slice none 0 0] 53)).alloc (.cells #[.int .i64 0, .string ⟨#[]⟩, .slice none 0 0, .slice none 0 0] 53)) p s) := Lib.hid (hR.keep ((Go.Deep.blk_alloc_lt _ _ _ (by simp; omega)).trans (Go.Deep.blk_alloc_lt _ _ _ hpw)))
  have KN0 : ((w.alloc (.cells #[.int .i64 3, .string ⟨#[]⟩, .slice none 0 0, .slice none 0 0] 53)).alloc (.cells #[.int .i64 0, .string ⟨#[]⟩, .slice none 0 0, .slice none 0 0] 53)).heap[w.heap.size]? = some (.cells #[.int .i64 3, .string ⟨#[]⟩, .slice none 0 0, .slice none 0 0] 53 (0, 0)) := (Go.Deep.blk_alloc_lt _ _ _ (by simp)).trans (heap_alloc_new w _)
  have KR0 : Hid (((w.alloc (.cells #[.int .i64 3, .string ⟨#[]⟩, .slice none 0 0, .slice none 0 0] 53)).alloc (.cells #[.int .i64 0, .string ⟨#[]⟩, .slice none 0 0, .slice none 0 0] 53)).heap[w.heap.size + 1]? = some (.cells #[.int .i64 0, .string ⟨#[]⟩, .slice none 0 0, .slice none 0 0] 53 (0, 0))) := Lib.hid (by
    have := heap_alloc_new (w.alloc (.cells #[.int .i64 3, .string ⟨#[]⟩, .slice none 0 0, .slice none 0 0] 53)) (.cells #[.int .i64 0, .string ⟨#[]⟩, .slice none 0 0, .slice none 0 0] 53)
    rwa [show (w.alloc (.cells #[.int .i64 3, .string ⟨#[]⟩, .slice none 0 0, .slice none 0 0] 53)).heap.size = w.heap.size + 1 by simp] at this)
  have HST0 : Hid (StN f w.heap.size (w.heap.size + 2) p 3 ((w.alloc (.cells #[.int .i64 3, .string ⟨#[]⟩, .slice none 0 0, .slice none 0 0] 53)).alloc (.cells #[.int .i64 0, .string ⟨#[]⟩, .slice none 0 0, .slice none 0 0] 53)) (.slice none 0 0) (.slice none 0 0) [] []) := Lib.hid (StN.new KN0 (by simp) (by omega) (by omega) (by omega))
  have CT : Hid (∀ W s1 (q : ByteArray), RdI W p s1 → Calls Tryd.prog 103 #[.pointer (some ⟨p, 0, none⟩), .string q] W fun e w' => e = .returned (.bool (tookQ (bl q) s1).isSome) ∧ RdI w' p ((tookQ (bl q) s1).getD s1) ∧ Onl p W w') := Lib.hid fun W s1 q h1 => impTook W p s1 q h1
  have IHH := Lib.hid IH
  have HV := Lib.hid hV
  have HSF := Lib.hid hsf
  have HS8 := Lib.hid hs8
  have hz0 : w.heap.size + 2 ≤ ((w.alloc (.cells #[.int .i64 3, .string ⟨#[]⟩, .slice none 0 0, .slice none 0 0] 53)).alloc (.cells #[.int .i64 0, .string ⟨#[]⟩, .slice none 0 0, .slice none 0 0] 53)).heap.size := by simp
  clear hR IH hV hsf hs8 KN0
  cases h1 : tookQ [93] s with
  | some q1 =>
    have HF : Hid (rdK (rdN f) f 3 93 s = some (⟨3, tB [], [], []⟩, q1)) := Lib.hid (by unfold rdK; rw [h1])
    have C1 := Lib.hid (CT.out _ s ⟨#[93]⟩ HR0.out)
    rw [show bl ⟨#[93]⟩ = [93] from rfl, h1] at C1
    simp only [Option.isSome_some, Option.getD_some] at C1
    clear h1
    go_enter Tryd.func105, Tryd.ntmps105
    go_wp2_with fail
    refine C1.out.mono ?_
    rintro e w1 ⟨rfl, hr1, ho1⟩
    have HST1 := Lib.hid (HST0.out.only ho1)
    have KR1 := Lib.hid ((ho1.block (w.heap.size + 1) (lt_of_get KR0.out) (by omega)).trans KR0.out)
    have HO1 := Lib.hid (HO.out.trans ho1)
    have HR1 := Lib.hid hr1
    have ⟨⟨c0, c1, c2, c3⟩, f0, f1, f2, f3⟩ := keep4 HST1.out.node
    have ⟨⟨d0, d1, d2, d3⟩, g0, g1, g2, g3⟩ := keep4 KR1.out
    have hsz1 := HST1.out.size
    clear hr1 ho1
    go_wp2_with fail
    obtain ⟨W, hW, ⟨y0, y1, y2, y3⟩, HFIN⟩ := finI (rb := w.heap.size + 1) (by omega) hpw KR1.out HR1.out HO1.out (.int .i64 3) (.string ⟨#[]⟩) (.slice none 0 0) (.slice none 0 0)
    change bodyPost _ _ _ _ _ (putL w1 (w.heap.size + 1) 0 [.int .i64 3, .string ⟨#[]⟩, .slice none 0 0, .slice none 0 0])
    rw [hW]
    refine bodyPost_ret (v := .tuple #[.agg #[.int .i64 3, .string ⟨#[]⟩, .slice none 0 0, .slice none 0 0], .nilIface]) (by simp [results, Tryd.results105, go_sem, y0, y1, y2, y3]) rfl ⟨?_, HFIN.out.2.2.2⟩
    exact .inl ⟨⟨⟨3, ⟨#[]⟩, [], []⟩, none, 0, none, 0, [], w.heap.size, w.heap.size⟩, q1, HF, rfl, ⟨okLeaf (by unfold OkI; omega) (by unfold OkS; exact Nat.zero_le _), Nat.le_refl _, by have := HFIN.out.1; simp only; omega⟩, HFIN.out.2.2.1⟩
  | none =>
    have HF : Hid (rdL (rdN f) 3 93 f [] [] s = rdK (rdN f) f 3 93 s) := Lib.hid (by unfold rdK; rw [h1])
    have C1 := Lib.hid (CT.out _ s ⟨#[93]⟩ HR0.out)
    rw [show bl ⟨#[93]⟩ = [93] from rfl, h1] at C1
    simp only [Option.isSome_none, Option.getD_none] at C1
    clear h1
    go_enter Tryd.func105, Tryd.ntmps105
    go_wp2_with fail
    refine C1.out.mono ?_
    rintro e w1 ⟨rfl, hr1, ho1⟩
    have HST1 := Lib.hid (HST0.out.only ho1)
    have KR1 := Lib.hid ((ho1.block (w.heap.size + 1) (lt_of_get KR0.out) (by omega)).trans KR0.out)
    have HO1 := Lib.hid (HO.out.trans ho1)
    have HR1 := Lib.hid hr1
    clear hr1 ho1
    go_wp2_with fail
    go_loopg [] f (fun g wr => ∃ (s1 : Bs) (sk sn : Value) (ks : List ByteArray) (L : List RowD), Hid (StN f w.heap.size (w.heap.size + 2) p 3 wr sk sn ks L) ∧ Hid (s1.length < g ∧ s1.length < f ∧ L.length + s1.length ≤ 8000 ∧ ks.length ≤ L.length) ∧ Hid (rdL (rdN f) 3 93 g ks (L.map RowD.x) s1 = rdK (rdN f) f 3 93 s) ∧ Hid (RdI wr p s1) ∧ Hid (wr.heap[w.heap.size + 1]? = some (.cells #[.int .i64 0, .string ⟨#[]⟩, .slice none 0 0, .slice none 0 0] 53 (0, 0))) ∧ Hid (Onl p w wr))
    case atStart => exact ⟨s, _, _, [], [], HST1, Lib.hid ⟨HSF.out, HSF.out, by simpa using HS8.out, Nat.le_refl _⟩, HF, HR1, KR1, HO1⟩
    case round =>
      obtain ⟨s1, sk, sn, ks, L, HST, HN, HSP, HRD, HKR, HON⟩ := hrel
      obtain ⟨gn, hgn⟩ : ∃ gn, gk = gn + 1 := ⟨gk - 1, by have := HN.out.1; omega⟩
      have HSP1 : Hid (rdL (rdN f) 3 93 (gn + 1) ks (L.map RowD.x) s1 = rdK (rdN f) f 3 93 s) := Lib.hid (by rw [← hgn]; exact HSP.out)
      have HG := Lib.hid hgn
      have HC := Lib.hid (IHH.out wr p B w.heap.size (w.heap.size + 2) s1 sk sn ks L HST.out HRD.out HN.out.2.1 (by have := HN.out.2.2.1; omega) (HV.out.onl hp hB HON.out) hp hB (by omega) HN.out.2.2.2 (by have := HN.out.2.2.1; omega))
      clear hgn HSP HST1 KR1 HO1 HR1
      go_wp2_with fail
      refine HC.out.mono ?_
      rintro e w2 ⟨hk, hfr⟩
      have HO2 := Lib.hid (onl_fr HON.out hfr (by omega) (by omega))
      have KR2 := Lib.hid ((hfr.block (w.heap.size + 1) (by omega) (by omega) (by omega)).trans HKR.out)
      clear hfr HC
      rcases hk with ⟨k, s2, r, q, sk2, sn2, HQ1, HQ2, rfl, hst2, hr2⟩ | ⟨HQ1, s2, rfl, hr2⟩
      · have HST2 : Hid (StN f w.heap.size (w.heap.size + 2) p 3 w2 sk2 sn2 ks (L ++ [r])) := Lib.hid (by simpa using hst2)
        have HR2 := Lib.hid hr2
        clear hst2 hr2
        have HLQ : Hid (q.length < s1.length) := Lib.hid (by have e1 := step_len HQ1.out; have e2 := rdN_lt HQ2.out; omega)
        go_wp2_with fail
        cases h8 : tookQ [93] q with
        | some q8 =>
          have HF8 : Hid (rdK (rdN f) f 3 93 s = some (⟨3, tB [], ks, (L.map RowD.x) ++ [r.x]⟩, q8)) := Lib.hid (by rw [← HSP1.out, rdL_end HQ1.out HQ2.out h8]; simp)
          have C8 := Lib.hid (CT.out w2 q ⟨#[93]⟩ HR2.out)
          rw [show bl ⟨#[93]⟩ = [93] from rfl, h8] at C8
          simp only [Option.isSome_some, Option.getD_some] at C8
          clear h8
          refine C8.out.mono ?_
          rintro e w3 ⟨rfl, hr3, ho3⟩
          have hst3 := HST2.out.only ho3
          obtain ⟨na, nc, rfl⟩ := hst3.kids.slice
          obtain ⟨ka, kc, rfl⟩ := OwnTs.slice hst3.keys
          obtain ⟨Fs, hrow⟩ := hst3.rowE (by unfold OkI; omega) (by have := HN.out; omega) (by have := HN.out; simp only [List.length_append, List.length_singleton]; omega)
          have HST3 := Lib.hid hst3
          have HROW := Lib.hid hrow
          have KR3 := Lib.hid ((ho3.block (w.heap.size + 1) (lt_of_get KR2.out) (by omega)).trans KR2.out)
          have HO3 := Lib.hid (HO2.out.trans ho3)
          have HR3 := Lib.hid hr3
          have ⟨⟨c0, c1, c2, c3⟩, f0, f1, f2, f3⟩ := keep4 hst3.node
          have ⟨⟨d0, d1, d2, d3⟩, g0, g1, g2, g3⟩ := keep4 KR3.out
          clear hr3 ho3 hst3 hrow
          obtain ⟨n1, hn1⟩ : ∃ q, (L ++ [r]).length = q := ⟨_, rfl⟩
          rw [hn1] at c3
          have HN1 := Lib.hid hn1
          clear hn1
          go_wp2_with fail
          obtain ⟨W, hW, ⟨y0, y1, y2, y3⟩, HFIN⟩ := finI (rb := w.heap.size + 1) (by omega) hpw KR3.out HR3.out HO3.out (.int .i64 3) (.string ⟨#[]⟩) (.slice ka ks.length kc) (.slice na n1 nc)
          change bodyPost _ _ _ _ _ (putL w3 (w.heap.size + 1) 0 [.int .i64 3, .string ⟨#[]⟩, .slice ka ks.length kc, .slice na n1 nc])
          rw [hW]
          refine bodyPost_ret (v := .tuple #[.agg #[.int .i64 3, .string ⟨#[]⟩, .slice ka ks.length kc, .slice na n1 nc], .nilIface]) (by simp [results, Tryd.results105, go_sem, y0, y1, y2, y3]) rfl ⟨?_, HFIN.out.2.2.2⟩
          exact .inl ⟨⟨⟨3, tB [], ks, (L ++ [r]).map RowD.x⟩, ka, kc, na, nc, Fs, w.heap.size + 2, w3.heap.size⟩, q8, Lib.hid (by rw [HF8.out]; simp), by rw [← HN1.out]; simp [tB], ⟨HROW.out.block fun c c1 _ => HFIN.out.2.1 c (by have h9 : w.heap.size + 2 ≤ c := c1; omega), by simp only; omega, by have := HFIN.out.1; simp only; omega⟩, HFIN.out.2.2.1⟩
        | none =>
          have C8 := Lib.hid (CT.out w2 q ⟨#[93]⟩ HR2.out)
          rw [show bl ⟨#[93]⟩ = [93] from rfl, h8] at C8
          simp only [Option.isSome_none, Option.getD_none] at C8
          refine C8.out.mono ?_
          rintro e w3 ⟨rfl, hr3, ho3⟩
          have HST3 := Lib.hid (HST2.out.only ho3)
          have KR3 := Lib.hid ((ho3.block (w.heap.size + 1) (lt_of_get KR2.out) (by omega)).trans KR2.out)
          have HO3 := Lib.hid (HO2.out.trans ho3)
          have HR3 := Lib.hid hr3
          clear hr3 ho3
          go_wp2_with fail
          cases h9 : tookQ [44] q with
          | none =>
            have HF9 : Hid (rdK (rdN f) f 3 93 s = none) := Lib.hid (by rw [← HSP1.out, rdL_stop HQ1.out HQ2.out h8 h9])
            have C9 := Lib.hid (CT.out w3 q ⟨#[44]⟩ HR3.out)
            rw [show bl ⟨#[44]⟩ = [44] from rfl, h9] at C9
            simp only [Option.isSome_none, Option.getD_none] at C9
            clear h8 h9
            refine C9.out.mono ?_
            rintro e w4 ⟨rfl, hr4, ho4⟩
            have KR4 := Lib.hid ((ho4.block (w.heap.size + 1) (lt_of_get KR3.out) (by omega)).trans KR3.out)
            have HO4 := Lib.hid (HO3.out.trans ho4)
            have HR4 := Lib.hid hr4
            have ⟨⟨d0, d1, d2, d3⟩, g0, g1, g2, g3⟩ := keep4 KR4.out
            clear hr4 ho4
            go_wp2_with fail
            obtain ⟨W, hW, ⟨y0, y1, y2, y3⟩, HFIN⟩ := finI (rb := w.heap.size + 1) (by omega) hpw KR4.out HR4.out HO4.out (.int .i64 0) (.string ⟨#[]⟩) (.slice none 0 0) (.slice none 0 0)
            change bodyPost _ _ _ _ _ (putL w4 (w.heap.size + 1) 0 [.int .i64 0, .string ⟨#[]⟩, .slice none 0 0, .slice none 0 0])
            rw [hW]
            refine bodyPost_ret (v := .tuple #[.agg #[.int .i64 0, .string ⟨#[]⟩, .slice none 0 0, .slice none 0 0], (.iface 100 (.agg #[.int .i64 3]))]) (by simp [results, Tryd.results105, go_sem, y0, y1, y2, y3]) rfl ⟨?_, HFIN.out.2.2.2⟩
            exact .inr ⟨HF9, _, _, _, rfl, HFIN.out.2.2.1⟩
          | some q9 =>
            have HF9 : Hid (rdL (rdN f) 3 93 gn ks ((L ++ [r]).map RowD.x) q9 = rdK (rdN f) f 3 93 s) := Lib.hid (by rw [← HSP1.out, rdL_next HQ1.out HQ2.out h8 h9]; simp)
            have HL9 := Lib.hid (took_len h9)
            have C9 := Lib.hid (CT.out w3 q ⟨#[44]⟩ HR3.out)
            rw [show bl ⟨#[44]⟩ = [44] from rfl, h9] at C9
            simp only [Option.isSome_some, Option.getD_some] at C9
            clear h8 h9
            refine C9.out.mono ?_
            rintro e w4 ⟨rfl, hr4, ho4⟩
            have HST4 := Lib.hid (HST3.out.only ho4)
            have KR4 := Lib.hid ((ho4.block (w.heap.size + 1) (lt_of_get KR3.out) (by omega)).trans KR3.out)
            have HO4 := Lib.hid (HO3.out.trans ho4)
            have HR4 := Lib.hid hr4
            clear hr4 ho4
            go_wp2_with fail
            go_roundg gn
            case rel => exact ⟨q9, _, _, ks, L ++ [r], HST4, Lib.hid (by have e1 := HN.out; have e2 := HLQ.out; have e3 := HL9.out; have e4 := HG.out; simp only [List.length_append, List.length_singleton]; omega), HF9, HR4, KR4, HO4⟩
            case measure => have := HG.out; omega
      · have HF9 : Hid (rdK (rdN f) f 3 93 s = none) := Lib.hid (by
          rw [← HSP1.out]
          rcases HQ1.out with h | ⟨k, s4, h, h2⟩
          · exact rdL_none1 h
          · exact rdL_none2 h h2)
        have HR2 := Lib.hid hr2
        have ⟨⟨d0, d1, d2, d3⟩, g0, g1, g2, g3⟩ := keep4 KR2.out
        clear hr2
        go_wp2_with fail
        obtain ⟨W, hW, ⟨y0, y1, y2, y3⟩, HFIN⟩ := finI (rb := w.heap.size + 1) (by omega) hpw KR2.out HR2.out HO2.out (.int .i64 0) (.string ⟨#[]⟩) (.slice none 0 0) (.slice none 0 0)
        change bodyPost _ _ _ _ _ (putL w2 (w.heap.size + 1) 0 [.int .i64 0, .string ⟨#[]⟩, .slice none 0 0, .slice none 0 0])
        rw [hW]
        refine bodyPost_ret (v := .tuple #[.agg #[.int .i64 0, .string ⟨#[]⟩, .slice none 0 0, .slice none 0 0], (.iface 100 (.agg #[.int .i64 3]))]) (by simp [results, Tryd.results105, go_sem, y0, y1, y2, y3]) rfl ⟨?_, HFIN.out.2.2.2⟩
        exact .inr ⟨HF9, _, _, _, rfl, HFIN.out.2.2.1⟩
set_option maxHeartbeats 2000000 in
theorem kids4 (f : Nat) (IH : KidI 4 f) (w : World) (p B : Nat) (s : Bs) (hR : RdI w p s) (hsf : s.length < f) (hs8 : s.length ≤ 8000) (hV : VarsJ B w) (hp : B ≤ p) (hB : B ≤ w.heap.size) :
    Calls Tryd.prog 105 #[.pointer (some ⟨p, 0, none⟩), .agg #[.int .i64 4, .string ⟨#[]⟩, .slice none 0 0, .slice none 0 0], .string ⟨#[125]⟩] w fun e w' => KOut (f + 1) p (rdK (rdN f) f 4 125 s) w e w' ∧ Onl p w w' := by
  have hpw := hR.lt
  have HO : Hid (Onl p w ((w.alloc (.cells #[.int .i64 4, .string ⟨#[]⟩, .slice none 0 0, .slice none 0 0] 53)).alloc (.cells #[.int .i64 0, .string ⟨#[]⟩, .slice none 0 0, .slice none 0 0] 53))) := Lib.hid (((Onl.refl p w).alloc _).alloc _)
  have HR0 : Hid (RdI ((w.alloc (.cells #[.int .i64 4, .string ⟨#[]⟩, .slice none 0 0, .slice none 0 0] 53)).alloc (.cells #[.int .i64 0, .string ⟨#[]⟩, .slice none 0 0, .slice none 0 0] 53)) p s) := Lib.hid (hR.keep ((Go.Deep.blk_alloc_lt _ _ _ (by simp; omega)).trans (Go.Deep.blk_alloc_lt _ _ _ hpw)))
  have KN0 : ((w.alloc (.cells #[.int .i64 4, .string ⟨#[]⟩, .slice none 0 0, .slice none 0 0] 53)).alloc (.cells #[.int .i64 0, .string ⟨#[]⟩, .slice none 0 0, .slice none 0 0] 53)).heap[w.heap.size]? = some (.cells #[.int .i64 4, .string ⟨#[]⟩, .slice none 0 0, .slice none 0 0] 53 (0, 0)) := (Go.Deep.blk_alloc_lt _ _ _ (by simp)).trans (heap_alloc_new w _)
  have KR0 : Hid (((w.alloc (.cells #[.int .i64 4, .string ⟨#[]⟩, .slice none 0 0, .slice none 0 0] 53)).alloc (.cells #[.int .i64 0, .string ⟨#[]⟩, .slice none 0 0, .slice none 0 0] 53)).heap[w.heap.size + 1]? = some (.cells #[.int .i64 0, .string ⟨#[]⟩, .slice none 0 0, .slice none 0 0] 53 (0, 0))) := Lib.hid (by
    have := heap_alloc_new (w.alloc (.cells #[.int .i64 4, .string ⟨#[]⟩, .slice none 0 0, .slice none 0 0] 53)) (.cells #[.int .i64 0, .string ⟨#[]⟩, .slice none 0 0, .slice none 0 0] 53)
    rwa [show (w.alloc (.cells #[.int .i64 4, .string ⟨#[]⟩, .slice none 0 0, .slice none 0 0] 53)).heap.size = w.heap.size + 1 by simp] at this)
  have HST0 : Hid (StN f w.heap.size (w.heap.size + 2) p 4 ((w.alloc (.cells #[.int .i64 4, .string ⟨#[]⟩, .slice none 0 0, .slice none 0 0] 53)).alloc (.cells #[.int .i64 0, .string ⟨#[]⟩, .slice none 0 0, .slice none 0 0] 53)) (.slice none 0 0) (.slice none 0 0) [] []) := Lib.hid (StN.new KN0 (by simp) (by omega) (by omega) (by omega))
  have CT : Hid (∀ W s1 (q : ByteArray), RdI W p s1 → Calls Tryd.prog 103 #[.pointer (some ⟨p, 0, none⟩), .string q] W fun e w' => e = .returned (.bool (tookQ (bl q) s1).isSome) ∧ RdI w' p ((tookQ (bl q) s1).getD s1) ∧ Onl p W w') := Lib.hid fun W s1 q h1 => impTook W p s1 q h1
  have IHH := Lib.hid IH
  have HV := Lib.hid hV
  have HSF := Lib.hid hsf
  have HS8 := Lib.hid hs8
  have hz0 : w.heap.size + 2 ≤ ((w.alloc (.cells #[.int .i64 4, .string ⟨#[]⟩, .slice none 0 0, .slice none 0 0] 53)).alloc (.cells #[.int .i64 0, .string ⟨#[]⟩, .slice none 0 0, .slice none 0 0] 53)).heap.size := by simp
  clear hR IH hV hsf hs8 KN0
  cases h1 : tookQ [125] s with
  | some q1 =>
    have HF : Hid (rdK (rdN f) f 4 125 s = some (⟨4, tB [], [], []⟩, q1)) := Lib.hid (by unfold rdK; rw [h1])
    have C1 := Lib.hid (CT.out _ s ⟨#[125]⟩ HR0.out)
    rw [show bl ⟨#[125]⟩ = [125] from rfl, h1] at C1
    simp only [Option.isSome_some, Option.getD_some] at C1
    clear h1
    go_enter Tryd.func105, Tryd.ntmps105
    go_wp2_with fail
    refine C1.out.mono ?_
    rintro e w1 ⟨rfl, hr1, ho1⟩
    have HST1 := Lib.hid (HST0.out.only ho1)
    have KR1 := Lib.hid ((ho1.block (w.heap.size + 1) (lt_of_get KR0.out) (by omega)).trans KR0.out)
    have HO1 := Lib.hid (HO.out.trans ho1)
    have HR1 := Lib.hid hr1
    have ⟨⟨c0, c1, c2, c3⟩, f0, f1, f2, f3⟩ := keep4 HST1.out.node
    have ⟨⟨d0, d1, d2, d3⟩, g0, g1, g2, g3⟩ := keep4 KR1.out
    have hsz1 := HST1.out.size
    clear hr1 ho1
    go_wp2_with fail
    obtain ⟨W, hW, ⟨y0, y1, y2, y3⟩, HFIN⟩ := finI (rb := w.heap.size + 1) (by omega) hpw KR1.out HR1.out HO1.out (.int .i64 4) (.string ⟨#[]⟩) (.slice none 0 0) (.slice none 0 0)
    change bodyPost _ _ _ _ _ (putL w1 (w.heap.size + 1) 0 [.int .i64 4, .string ⟨#[]⟩, .slice none 0 0, .slice none 0 0])
    rw [hW]
    refine bodyPost_ret (v := .tuple #[.agg #[.int .i64 4, .string ⟨#[]⟩, .slice none 0 0, .slice none 0 0], .nilIface]) (by simp [results, Tryd.results105, go_sem, y0, y1, y2, y3]) rfl ⟨?_, HFIN.out.2.2.2⟩
    exact .inl ⟨⟨⟨4, ⟨#[]⟩, [], []⟩, none, 0, none, 0, [], w.heap.size, w.heap.size⟩, q1, HF, rfl, ⟨okLeaf (by unfold OkI; omega) (by unfold OkS; exact Nat.zero_le _), Nat.le_refl _, by have := HFIN.out.1; simp only; omega⟩, HFIN.out.2.2.1⟩
  | none =>
    have HF : Hid (rdL (rdN f) 4 125 f [] [] s = rdK (rdN f) f 4 125 s) := Lib.hid (by unfold rdK; rw [h1])
    have C1 := Lib.hid (CT.out _ s ⟨#[125]⟩ HR0.out)
    rw [show bl ⟨#[125]⟩ = [125] from rfl, h1] at C1
    simp only [Option.isSome_none, Option.getD_none] at C1
    clear h1
    go_enter Tryd.func105, Tryd.ntmps105
    go_wp2_with fail
    refine C1.out.mono ?_
    rintro e w1 ⟨rfl, hr1, ho1⟩
    have HST1 := Lib.hid (HST0.out.only ho1)
    have KR1 := Lib.hid ((ho1.block (w.heap.size + 1) (lt_of_get KR0.out) (by omega)).trans KR0.out)
    have HO1 := Lib.hid (HO.out.trans ho1)
    have HR1 := Lib.hid hr1
    clear hr1 ho1
    go_wp2_with fail
    go_loopg [] f (fun g wr => ∃ (s1 : Bs) (sk sn : Value) (ks : List ByteArray) (L : List RowD), Hid (StN f w.heap.size (w.heap.size + 2) p 4 wr sk sn ks L) ∧ Hid (s1.length < g ∧ s1.length < f ∧ L.length + s1.length ≤ 8000 ∧ ks.length ≤ L.length) ∧ Hid (rdL (rdN f) 4 125 g ks (L.map RowD.x) s1 = rdK (rdN f) f 4 125 s) ∧ Hid (RdI wr p s1) ∧ Hid (wr.heap[w.heap.size + 1]? = some (.cells #[.int .i64 0, .string ⟨#[]⟩, .slice none 0 0, .slice none 0 0] 53 (0, 0))) ∧ Hid (Onl p w wr))
    case atStart => exact ⟨s, _, _, [], [], HST1, Lib.hid ⟨HSF.out, HSF.out, by simpa using HS8.out, Nat.le_refl _⟩, HF, HR1, KR1, HO1⟩
    case round =>
      obtain ⟨s1, sk, sn, ks, L, HST, HN, HSP, HRD, HKR, HON⟩ := hrel
      obtain ⟨gn, hgn⟩ : ∃ gn, gk = gn + 1 := ⟨gk - 1, by have := HN.out.1; omega⟩
      have HSP1 : Hid (rdL (rdN f) 4 125 (gn + 1) ks (L.map RowD.x) s1 = rdK (rdN f) f 4 125 s) := Lib.hid (by rw [← hgn]; exact HSP.out)
      have HG := Lib.hid hgn
      have HC := Lib.hid (IHH.out wr p B w.heap.size (w.heap.size + 2) s1 sk sn ks L HST.out HRD.out HN.out.2.1 (by have := HN.out.2.2.1; omega) (HV.out.onl hp hB HON.out) hp hB (by omega) HN.out.2.2.2 (by have := HN.out.2.2.1; omega))
      clear hgn HSP HST1 KR1 HO1 HR1
      go_wp2_with fail
      refine HC.out.mono ?_
      rintro e w2 ⟨hk, hfr⟩
      have HO2 := Lib.hid (onl_fr HON.out hfr (by omega) (by omega))
      have KR2 := Lib.hid ((hfr.block (w.heap.size + 1) (by omega) (by omega) (by omega)).trans HKR.out)
      clear hfr HC
      rcases hk with ⟨k, s2, r, q, sk2, sn2, HQ1, HQ2, rfl, hst2, hr2⟩ | ⟨HQ1, s2, rfl, hr2⟩
      · have HST2 : Hid (StN f w.heap.size (w.heap.size + 2) p 4 w2 sk2 sn2 (ks ++ [k]) (L ++ [r])) := Lib.hid (by simpa using hst2)
        have HR2 := Lib.hid hr2
        clear hst2 hr2
        have HLQ : Hid (q.length < s1.length) := Lib.hid (by have e1 := step_len HQ1.out; have e2 := rdN_lt HQ2.out; omega)
        go_wp2_with fail
        cases h8 : tookQ [125] q with
        | some q8 =>
          have HF8 : Hid (rdK (rdN f) f 4 125 s = some (⟨4, tB [], ks ++ [k], (L.map RowD.x) ++ [r.x]⟩, q8)) := Lib.hid (by rw [← HSP1.out, rdL_end HQ1.out HQ2.out h8]; simp)
          have C8 := Lib.hid (CT.out w2 q ⟨#[125]⟩ HR2.out)
          rw [show bl ⟨#[125]⟩ = [125] from rfl, h8] at C8
          simp only [Option.isSome_some, Option.getD_some] at C8
          clear h8
          refine C8.out.mono ?_
          rintro e w3 ⟨rfl, hr3, ho3⟩
          have hst3 := HST2.out.only ho3
          obtain ⟨na, nc, rfl⟩ := hst3.kids.slice
          obtain ⟨ka, kc, rfl⟩ := OwnTs.slice hst3.keys
          obtain ⟨Fs, hrow⟩ := hst3.rowE (by unfold OkI; omega) (by have := HN.out; simp only [List.length_append, List.length_singleton]; omega) (by have := HN.out; simp only [List.length_append, List.length_singleton]; omega)
          have HST3 := Lib.hid hst3
          have HROW := Lib.hid hrow
          have KR3 := Lib.hid ((ho3.block (w.heap.size + 1) (lt_of_get KR2.out) (by omega)).trans KR2.out)
          have HO3 := Lib.hid (HO2.out.trans ho3)
          have HR3 := Lib.hid hr3
          have ⟨⟨c0, c1, c2, c3⟩, f0, f1, f2, f3⟩ := keep4 hst3.node
          have ⟨⟨d0, d1, d2, d3⟩, g0, g1, g2, g3⟩ := keep4 KR3.out
          clear hr3 ho3 hst3 hrow
          obtain ⟨n1, hn1⟩ : ∃ q, (L ++ [r]).length = q := ⟨_, rfl⟩
          rw [hn1] at c3
          have HN1 := Lib.hid hn1
          clear hn1
          obtain ⟨n2, hn2⟩ : ∃ q, (ks ++ [k]).length = q := ⟨_, rfl⟩
          rw [hn2] at c2
          have HN2 := Lib.hid hn2
          clear hn2
          go_wp2_with fail
          obtain ⟨W, hW, ⟨y0, y1, y2, y3⟩, HFIN⟩ := finI (rb := w.heap.size + 1) (by omega) hpw KR3.out HR3.out HO3.out (.int .i64 4) (.string ⟨#[]⟩) (.slice ka n2 kc) (.slice na n1 nc)
          change bodyPost _ _ _ _ _ (putL w3 (w.heap.size + 1) 0 [.int .i64 4, .string ⟨#[]⟩, .slice ka n2 kc, .slice na n1 nc])
          rw [hW]
          refine bodyPost_ret (v := .tuple #[.agg #[.int .i64 4, .string ⟨#[]⟩, .slice ka n2 kc, .slice na n1 nc], .nilIface]) (by simp [results, Tryd.results105, go_sem, y0, y1, y2, y3]) rfl ⟨?_, HFIN.out.2.2.2⟩
          exact .inl ⟨⟨⟨4, tB [], (ks ++ [k]), (L ++ [r]).map RowD.x⟩, ka, kc, na, nc, Fs, w.heap.size + 2, w3.heap.size⟩, q8, Lib.hid (by rw [HF8.out]; simp), by rw [← HN1.out, ← HN2.out]; simp [tB], ⟨HROW.out.block fun c c1 _ => HFIN.out.2.1 c (by have h9 : w.heap.size + 2 ≤ c := c1; omega), by simp only; omega, by have := HFIN.out.1; simp only; omega⟩, HFIN.out.2.2.1⟩
        | none =>
          have C8 := Lib.hid (CT.out w2 q ⟨#[125]⟩ HR2.out)
          rw [show bl ⟨#[125]⟩ = [125] from rfl, h8] at C8
          simp only [Option.isSome_none, Option.getD_none] at C8
          refine C8.out.mono ?_
          rintro e w3 ⟨rfl, hr3, ho3⟩
          have HST3 := Lib.hid (HST2.out.only ho3)
          have KR3 := Lib.hid ((ho3.block (w.heap.size + 1) (lt_of_get KR2.out) (by omega)).trans KR2.out)
          have HO3 := Lib.hid (HO2.out.trans ho3)
          have HR3 := Lib.hid hr3
          clear hr3 ho3
          go_wp2_with fail
          cases h9 : tookQ [44] q with
          | none =>
            have HF9 : Hid (rdK (rdN f) f 4 125 s = none) := Lib.hid (by rw [← HSP1.out, rdL_stop HQ1.out HQ2.out h8 h9])
            have C9 := Lib.hid (CT.out w3 q ⟨#[44]⟩ HR3.out)
            rw [show bl ⟨#[44]⟩ = [44] from rfl, h9] at C9
            simp only [Option.isSome_none, Option.getD_none] at C9
            clear h8 h9
            refine C9.out.mono ?_
            rintro e w4 ⟨rfl, hr4, ho4⟩
            have KR4 := Lib.hid ((ho4.block (w.heap.size + 1) (lt_of_get KR3.out) (by omega)).trans KR3.out)
            have HO4 := Lib.hid (HO3.out.trans ho4)
            have HR4 := Lib.hid hr4
            have ⟨⟨d0, d1, d2, d3⟩, g0, g1, g2, g3⟩ := keep4 KR4.out
            clear hr4 ho4
            go_wp2_with fail
            obtain ⟨W, hW, ⟨y0, y1, y2, y3⟩, HFIN⟩ := finI (rb := w.heap.size + 1) (by omega) hpw KR4.out HR4.out HO4.out (.int .i64 0) (.string ⟨#[]⟩) (.slice none 0 0) (.slice none 0 0)
            change bodyPost _ _ _ _ _ (putL w4 (w.heap.size + 1) 0 [.int .i64 0, .string ⟨#[]⟩, .slice none 0 0, .slice none 0 0])
            rw [hW]
            refine bodyPost_ret (v := .tuple #[.agg #[.int .i64 0, .string ⟨#[]⟩, .slice none 0 0, .slice none 0 0], (.iface 100 (.agg #[.int .i64 3]))]) (by simp [results, Tryd.results105, go_sem, y0, y1, y2, y3]) rfl ⟨?_, HFIN.out.2.2.2⟩
            exact .inr ⟨HF9, _, _, _, rfl, HFIN.out.2.2.1⟩
          | some q9 =>
            have HF9 : Hid (rdL (rdN f) 4 125 gn (ks ++ [k]) ((L ++ [r]).map RowD.x) q9 = rdK (rdN f) f 4 125 s) := Lib.hid (by rw [← HSP1.out, rdL_next HQ1.out HQ2.out h8 h9]; simp)
            have HL9 := Lib.hid (took_len h9)
            have C9 := Lib.hid (CT.out w3 q ⟨#[44]⟩ HR3.out)
            rw [show bl ⟨#[44]⟩ = [44] from rfl, h9] at C9
            simp only [Option.isSome_some, Option.getD_some] at C9
            clear h8 h9
            refine C9.out.mono ?_
            rintro e w4 ⟨rfl, hr4, ho4⟩
            have HST4 := Lib.hid (HST3.out.only ho4)
            have KR4 := Lib.hid ((ho4.block (w.heap.size + 1) (lt_of_get KR3.out) (by omega)).trans KR3.out)
            have HO4 := Lib.hid (HO3.out.trans ho4)
            have HR4 := Lib.hid hr4
            clear hr4 ho4
            go_wp2_with fail
            go_roundg gn
            case rel => exact ⟨q9, _, _, (ks ++ [k]), L ++ [r], HST4, Lib.hid (by have e1 := HN.out; have e2 := HLQ.out; have e3 := HL9.out; have e4 := HG.out; simp only [List.length_append, List.length_singleton]; omega), HF9, HR4, KR4, HO4⟩
            case measure => have := HG.out; omega
      · have HF9 : Hid (rdK (rdN f) f 4 125 s = none) := Lib.hid (by
          rw [← HSP1.out]
          rcases HQ1.out with h | ⟨k, s4, h, h2⟩
          · exact rdL_none1 h
          · exact rdL_none2 h h2)
        have HR2 := Lib.hid hr2
        have ⟨⟨d0, d1, d2, d3⟩, g0, g1, g2, g3⟩ := keep4 KR2.out
        clear hr2
        go_wp2_with fail
        obtain ⟨W, hW, ⟨y0, y1, y2, y3⟩, HFIN⟩ := finI (rb := w.heap.size + 1) (by omega) hpw KR2.out HR2.out HO2.out (.int .i64 0) (.string ⟨#[]⟩) (.slice none 0 0) (.slice none 0 0)
        change bodyPost _ _ _ _ _ (putL w2 (w.heap.size + 1) 0 [.int .i64 0, .string ⟨#[]⟩, .slice none 0 0, .slice none 0 0])
        rw [hW]
        refine bodyPost_ret (v := .tuple #[.agg #[.int .i64 0, .string ⟨#[]⟩, .slice none 0 0, .slice none 0 0], (.iface 100 (.agg #[.int .i64 3]))]) (by simp [results, Tryd.results105, go_sem, y0, y1, y2, y3]) rfl ⟨?_, HFIN.out.2.2.2⟩
        exact .inr ⟨HF9, _, _, _, rfl, HFIN.out.2.2.1⟩
end Go.Proofs.YtlncdkeooacebaaDoor.Rw
