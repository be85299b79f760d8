/-
  Contract: the program's reader of a node reads as it does plainly, in memory of its own; of what was there the reader's own place alone is changed. Conditions: in memory, a text of at most 8000 bytes; the library's variables hold what the program lays.
-/
import Derived.Test.YtlncdkeooacebaaDoorRows
import Derived.Test.YtlncdkeooacebaaDoorJsA
namespace Go.Proofs.YtlncdkeooacebaaDoor.Rw
open Go.RowKit Words
set_option linter.unusedVariables false
set_option linter.unusedSimpArgs false
set_option maxRecDepth 100000

set_option maxHeartbeats 2000000 in
theorem nodI_of (f : Nat) (IH : NodI f) : NodI (f + 1) := by
  intro w p B s hR hsf hs8 hV hp hB
  have hpw := hR.lt
  have HO : Hid (Onl p w (w.alloc (.cells #[.int .i64 0, .string ⟨#[]⟩, .slice none 0 0, .slice none 0 0] 53))) := Lib.hid ((Onl.refl p w).alloc _)
  have HR0 : Hid (RdI (w.alloc (.cells #[.int .i64 0, .string ⟨#[]⟩, .slice none 0 0, .slice none 0 0] 53)) p s) := Lib.hid (hR.keep (Go.Deep.blk_alloc_lt _ _ _ hpw))
  have KR0 : Hid ((w.alloc (.cells #[.int .i64 0, .string ⟨#[]⟩, .slice none 0 0, .slice none 0 0] 53)).heap[w.heap.size]? = some (.cells #[.int .i64 0, .string ⟨#[]⟩, .slice none 0 0, .slice none 0 0] 53 (0, 0))) := Lib.hid (heap_alloc_new w _)
  have CT : Hid (∀ W s1 (q : ByteArray), RdI W p s1 → Calls Tryd.prog 103 #[.pointer (some ⟨p, 0, none⟩), .string q] W fun e w' => e = .returned (.bool (tookQ (bl q) s1).isSome) ∧ RdI w' p ((tookQ (bl q) s1).getD s1) ∧ Onl p W w') := Lib.hid fun W s1 q h1 => impTook W p s1 q h1
  have K3 := Lib.hid (kids3 f (kid3 f IH))
  have K4 := Lib.hid (kids4 f (kid4 f IH))
  have HV := Lib.hid hV
  have HSF := Lib.hid hsf
  have HS8 := Lib.hid hs8
  clear hR IH hV hsf hs8
  cases h1 : tookQ [110, 117, 108, 108] s with
  | some q1 =>
    have HF : Hid (rdN (f + 1) s = some (⟨1, tB [], [], []⟩, q1)) := Lib.hid (by unfold rdN; rw [h1])
    have C1 : Hid (∀ W, RdI W p s → Calls Tryd.prog 103 #[.pointer (some ⟨p, 0, none⟩), .string ⟨#[110, 117, 108, 108]⟩] W fun e w' => e = .returned (.bool true) ∧ RdI w' p q1 ∧ Onl p W w') := Lib.hid fun W hW => by
      have := CT.out W s ⟨#[110, 117, 108, 108]⟩ hW
      rw [show bl ⟨#[110, 117, 108, 108]⟩ = [110, 117, 108, 108] from rfl, h1] at this
      simpa using this
    clear h1
    go_enter Tryd.func80, Tryd.ntmps80
    go_wp2_with fail
    refine (C1.out _ HR0.out).mono ?_
    rintro e w1 ⟨rfl, hr1, ho1⟩
    have HR1 := Lib.hid hr1
    have HO1 := Lib.hid (HO.out.trans ho1)
    have KR1 := Lib.hid ((ho1.block w.heap.size (lt_of_get KR0.out) (by omega)).trans KR0.out)
    clear hr1 ho1
    have ⟨⟨d0, d1, d2, d3⟩, g0, g1, g2, g3⟩ := keep4 KR1.out
    go_wp2_with fail
    obtain ⟨W, hW, ⟨y0, y1, y2, y3⟩, HFIN⟩ := finI (rb := w.heap.size) (Nat.le_refl _) hpw KR1.out HR1.out HO1.out (.int .i64 1) (.string ⟨#[]⟩) (.slice none 0 0) (.slice none 0 0)
    change bodyPost _ _ _ _ _ (putL w1 w.heap.size 0 [.int .i64 1, .string ⟨#[]⟩, .slice none 0 0, .slice none 0 0])
    rw [hW]
    refine bodyPost_ret (v := .tuple #[.agg #[.int .i64 1, .string ⟨#[]⟩, .slice none 0 0, .slice none 0 0], .nilIface]) (by simp [results, Tryd.results80, go_sem, y0, y1, y2, y3]) rfl ⟨?_, HFIN.out.2.2.2⟩
    exact .inl ⟨⟨⟨1, ⟨#[]⟩, [], []⟩, none, 0, none, 0, [], w.heap.size, w.heap.size⟩, q1, HF, rfl, ⟨okLeaf (by unfold OkI; omega) (by unfold OkS; exact Nat.zero_le _), Nat.le_refl _, by have e1 := HFIN.out.1; have e2 := HFIN.out.2.2.2.size; simp only; omega⟩, HFIN.out.2.2.1⟩
  | none =>
    have C1 : Hid (∀ W, RdI W p s → Calls Tryd.prog 103 #[.pointer (some ⟨p, 0, none⟩), .string ⟨#[110, 117, 108, 108]⟩] W fun e w' => e = .returned (.bool false) ∧ RdI w' p s ∧ Onl p W w') := Lib.hid fun W hW => by
      have := CT.out W s ⟨#[110, 117, 108, 108]⟩ hW
      rw [show bl ⟨#[110, 117, 108, 108]⟩ = [110, 117, 108, 108] from rfl, h1] at this
      simpa using this
    cases h2 : tookQ [34] s with
    | some q2 =>
      have HF : Hid (rdN (f + 1) s = (cutQ [34] q2).map fun q => (⟨2, tB q.1, [], []⟩, q.2)) := Lib.hid (by unfold rdN; rw [h1]; simp only [h2])
      have HL2 := Lib.hid (took_len h2)
      have C2 : Hid (∀ W, RdI W p s → Calls Tryd.prog 103 #[.pointer (some ⟨p, 0, none⟩), .string ⟨#[34]⟩] W fun e w' => e = .returned (.bool true) ∧ RdI w' p q2 ∧ Onl p W w') := Lib.hid fun W hW => by
        have := CT.out W s ⟨#[34]⟩ hW
        rw [show bl ⟨#[34]⟩ = [34] from rfl, h2] at this
        simpa using this
      clear h1 h2
      go_enter Tryd.func80, Tryd.ntmps80
      go_wp2_with fail
      refine (C1.out _ HR0.out).mono ?_
      rintro e w1 ⟨rfl, hr1, ho1⟩
      have HR1 := Lib.hid hr1
      have HO1 := Lib.hid (HO.out.trans ho1)
      have KR1 := Lib.hid ((ho1.block w.heap.size (lt_of_get KR0.out) (by omega)).trans KR0.out)
      clear hr1 ho1
      go_wp2_with fail
      refine (C2.out _ HR1.out).mono ?_
      rintro e w2 ⟨rfl, hr2, ho2⟩
      have HR2 := Lib.hid hr2
      have HO2 := Lib.hid (HO1.out.trans ho2)
      have KR2 := Lib.hid ((ho2.block w.heap.size (lt_of_get KR1.out) (by omega)).trans KR1.out)
      clear hr2 ho2
      go_wp2_with fail
      have HU := Lib.hid (impUpTo w2 p B q2 ⟨#[34]⟩ HR2.out (HV.out.onl hp hB HO2.out) (by have := HL2.out; have := HS8.out; omega))
      rw [show bl ⟨#[34]⟩ = [34] from rfl] at HU
      refine HU.out.mono ?_
      rintro e w3 ⟨hu, ho3⟩
      have HO3 := Lib.hid (HO2.out.trans ho3)
      have KR3 := Lib.hid ((ho3.block w.heap.size (lt_of_get KR2.out) (by omega)).trans KR2.out)
      have ⟨⟨d0, d1, d2, d3⟩, g0, g1, g2, g3⟩ := keep4 KR3.out
      clear ho3 HU
      rcases hu with ⟨a, r, e1, rfl, hr3⟩ | ⟨e1, rfl, hr3⟩
      · have HR3 := Lib.hid hr3
        have HF2 : Hid (rdN (f + 1) s = some (⟨2, tB a, [], []⟩, r)) := Lib.hid (by rw [HF.out, e1]; rfl)
        have HAL : Hid (OkS (tB a)) := Lib.hid (by
          have := congrArg List.length (cut_some e1)
          rw [List.length_append] at this
          have := HL2.out; have := HS8.out
          unfold OkS; rw [tB_size]; omega)
        clear hr3 e1
        generalize tB a = ta at *
        go_wp2_with fail
        obtain ⟨W, hW, ⟨y0, y1, y2, y3⟩, HFIN⟩ := finI (rb := w.heap.size) (Nat.le_refl _) hpw KR3.out HR3.out HO3.out (.int .i64 2) (.string ta) (.slice none 0 0) (.slice none 0 0)
        change bodyPost _ _ _ _ _ (putL w3 w.heap.size 0 [.int .i64 2, .string ta, .slice none 0 0, .slice none 0 0])
        rw [hW]
        refine bodyPost_ret (v := .tuple #[.agg #[.int .i64 2, .string ta, .slice none 0 0, .slice none 0 0], .nilIface]) (by simp [results, Tryd.results80, go_sem, y0, y1, y2, y3]) rfl ⟨?_, HFIN.out.2.2.2⟩
        exact .inl ⟨⟨⟨2, ta, [], []⟩, none, 0, none, 0, [], w.heap.size, w.heap.size⟩, r, HF2, rfl, ⟨okLeaf (by unfold OkI; omega) HAL.out, Nat.le_refl _, by have e1 := HFIN.out.1; have e2 := HFIN.out.2.2.2.size; simp only; omega⟩, HFIN.out.2.2.1⟩
      · have HR3 := Lib.hid hr3
        have HF2 : Hid (rdN (f + 1) s = none) := Lib.hid (by rw [HF.out, e1]; rfl)
        clear hr3 e1
        unfold errV
        go_wp2_with fail
        obtain ⟨W, hW, ⟨y0, y1, y2, y3⟩, HFIN⟩ := finI (rb := w.heap.size) (Nat.le_refl _) hpw KR3.out HR3.out HO3.out (.int .i64 2) (.string ⟨#[]⟩) (.slice none 0 0) (.slice none 0 0)
        change bodyPost _ _ _ _ _ (putL w3 w.heap.size 0 [.int .i64 2, .string ⟨#[]⟩, .slice none 0 0, .slice none 0 0])
        rw [hW]
        refine bodyPost_ret (v := .tuple #[.agg #[.int .i64 2, .string ⟨#[]⟩, .slice none 0 0, .slice none 0 0], (.iface 100 (.agg #[.int .i64 3]))]) (by simp [results, Tryd.results80, go_sem, y0, y1, y2, y3]) rfl ⟨?_, HFIN.out.2.2.2⟩
        exact .inr ⟨HF2, _, _, _, rfl, HFIN.out.2.2.1⟩
    | none =>
      have C2 : Hid (∀ W, RdI W p s → Calls Tryd.prog 103 #[.pointer (some ⟨p, 0, none⟩), .string ⟨#[34]⟩] W fun e w' => e = .returned (.bool false) ∧ RdI w' p s ∧ Onl p W w') := Lib.hid fun W hW => by
        have := CT.out W s ⟨#[34]⟩ hW
        rw [show bl ⟨#[34]⟩ = [34] from rfl, h2] at this
        simpa using this
      cases h3 : tookQ [91] s with
      | some q3 =>
        have HF : Hid (rdN (f + 1) s = rdK (rdN f) f 3 93 q3) := Lib.hid (by unfold rdN; rw [h1]; simp only [h2, h3])
        have HL3 : Hid (q3.length < s.length) := Lib.hid (by have := congrArg List.length (took_some h3); rw [List.length_append] at this; simp only [List.length_singleton] at this; omega)
        have C3 : Hid (∀ W, RdI W p s → Calls Tryd.prog 103 #[.pointer (some ⟨p, 0, none⟩), .string ⟨#[91]⟩] W fun e w' => e = .returned (.bool true) ∧ RdI w' p q3 ∧ Onl p W w') := Lib.hid fun W hW => by
          have := CT.out W s ⟨#[91]⟩ hW
          rw [show bl ⟨#[91]⟩ = [91] from rfl, h3] at this
          simpa using this
        clear h1 h2 h3
        go_enter Tryd.func80, Tryd.ntmps80
        go_wp2_with fail
        refine (C1.out _ HR0.out).mono ?_
        rintro e w1 ⟨rfl, hr1, ho1⟩
        have HR1 := Lib.hid hr1
        have HO1 := Lib.hid (HO.out.trans ho1)
        have KR1 := Lib.hid ((ho1.block w.heap.size (lt_of_get KR0.out) (by omega)).trans KR0.out)
        clear hr1 ho1
        go_wp2_with fail
        refine (C2.out _ HR1.out).mono ?_
        rintro e w2 ⟨rfl, hr2, ho2⟩
        have HR2 := Lib.hid hr2
        have HO2 := Lib.hid (HO1.out.trans ho2)
        have KR2 := Lib.hid ((ho2.block w.heap.size (lt_of_get KR1.out) (by omega)).trans KR1.out)
        clear hr2 ho2
        go_wp2_with fail
        refine (C3.out _ HR2.out).mono ?_
        rintro e w3 ⟨rfl, hr3, ho3⟩
        have HR3 := Lib.hid hr3
        have HO3 := Lib.hid (HO2.out.trans ho3)
        have KR3 := Lib.hid ((ho3.block w.heap.size (lt_of_get KR2.out) (by omega)).trans KR2.out)
        clear hr3 ho3
        go_wp2_with fail
        refine (K3.out w3 p B q3 HR3.out (by have := HL3.out; have := HSF.out; omega) (by have := HL3.out; have := HS8.out; omega) (HV.out.onl hp hB HO3.out) hp (Nat.le_trans hB HO3.out.size)).mono ?_
        rintro e w9 ⟨hk, ho9⟩
        have HO9 := Lib.hid (HO3.out.trans ho9)
        have KR9 := Lib.hid ((ho9.block w.heap.size (lt_of_get KR3.out) (by omega)).trans KR3.out)
        have hlw := lt_of_get KR3.out
        have ⟨⟨d0, d1, d2, d3⟩, g0, g1, g2, g3⟩ := keep4 KR9.out
        clear ho9
        rcases hk with ⟨r, q, HQ, rfl, ⟨hok, hlo, hhi⟩, hr9⟩ | ⟨HQ, ve, ue, s3, rfl, hr9⟩
        · have HR9 := Lib.hid hr9
          have HROW := Lib.hid (And.intro hok (And.intro hlo hhi))
          clear hr9 hok hlo hhi
          go_wp2_with fail
          obtain ⟨W, hW, ⟨y0, y1, y2, y3⟩, HFIN⟩ := finI (rb := w.heap.size) (Nat.le_refl _) hpw KR9.out HR9.out HO9.out (.int .i64 r.x.kind) (.string r.x.text) (.slice r.a r.x.keys.length r.ca) (.slice r.c r.x.kids.length r.cc)
          change bodyPost _ _ _ _ _ (putL w9 w.heap.size 0 [.int .i64 r.x.kind, .string r.x.text, .slice r.a r.x.keys.length r.ca, .slice r.c r.x.kids.length r.cc])
          rw [hW]
          refine bodyPost_ret (v := .tuple #[.agg #[.int .i64 r.x.kind, .string r.x.text, .slice r.a r.x.keys.length r.ca, .slice r.c r.x.kids.length r.cc], .nilIface]) (by simp [results, Tryd.results80, go_sem, y0, y1, y2, y3]) rfl ⟨?_, HFIN.out.2.2.2⟩
          exact .inl ⟨r, q, Lib.hid (HF.out.trans HQ.out), rfl, ⟨HROW.out.1.block fun c c1 _ => HFIN.out.2.1 c (by have := HROW.out.2.1; omega), by have := HROW.out.2.1; omega, by have := HFIN.out.1; have := HROW.out.2.2; omega⟩, HFIN.out.2.2.1⟩
        · have HR9 := Lib.hid hr9
          clear hr9
          go_wp2_with fail
          obtain ⟨W, hW, ⟨y0, y1, y2, y3⟩, HFIN⟩ := finI (rb := w.heap.size) (Nat.le_refl _) hpw KR9.out HR9.out HO9.out (.int .i64 ve) (.string ue) (.slice none 0 0) (.slice none 0 0)
          change bodyPost _ _ _ _ _ (putL w9 w.heap.size 0 [.int .i64 ve, .string ue, .slice none 0 0, .slice none 0 0])
          rw [hW]
          refine bodyPost_ret (v := .tuple #[.agg #[.int .i64 ve, .string ue, .slice none 0 0, .slice none 0 0], (.iface 100 (.agg #[.int .i64 3]))]) (by simp [results, Tryd.results80, go_sem, y0, y1, y2, y3]) rfl ⟨?_, HFIN.out.2.2.2⟩
          exact .inr ⟨Lib.hid (HF.out.trans HQ.out), _, _, _, rfl, HFIN.out.2.2.1⟩
      | none =>
        have C3 : Hid (∀ W, RdI W p s → Calls Tryd.prog 103 #[.pointer (some ⟨p, 0, none⟩), .string ⟨#[91]⟩] W fun e w' => e = .returned (.bool false) ∧ RdI w' p s ∧ Onl p W w') := Lib.hid fun W hW => by
          have := CT.out W s ⟨#[91]⟩ hW
          rw [show bl ⟨#[91]⟩ = [91] from rfl, h3] at this
          simpa using this
        cases h4 : tookQ [123] s with
        | some q4 =>
          have HF : Hid (rdN (f + 1) s = rdK (rdN f) f 4 125 q4) := Lib.hid (by unfold rdN; rw [h1]; simp only [h2, h3, h4])
          have HL4 : Hid (q4.length < s.length) := Lib.hid (by have := congrArg List.length (took_some h4); rw [List.length_append] at this; simp only [List.length_singleton] at this; omega)
          have C4 : Hid (∀ W, RdI W p s → Calls Tryd.prog 103 #[.pointer (some ⟨p, 0, none⟩), .string ⟨#[123]⟩] W fun e w' => e = .returned (.bool true) ∧ RdI w' p q4 ∧ Onl p W w') := Lib.hid fun W hW => by
            have := CT.out W s ⟨#[123]⟩ hW
            rw [show bl ⟨#[123]⟩ = [123] from rfl, h4] at this
            simpa using this
          clear h1 h2 h3 h4
          go_enter Tryd.func80, Tryd.ntmps80
          go_wp2_with fail
          refine (C1.out _ HR0.out).mono ?_
          rintro e w1 ⟨rfl, hr1, ho1⟩
          have HR1 := Lib.hid hr1
          have HO1 := Lib.hid (HO.out.trans ho1)
          have KR1 := Lib.hid ((ho1.block w.heap.size (lt_of_get KR0.out) (by omega)).trans KR0.out)
          clear hr1 ho1
          go_wp2_with fail
          refine (C2.out _ HR1.out).mono ?_
          rintro e w2 ⟨rfl, hr2, ho2⟩
          have HR2 := Lib.hid hr2
          have HO2 := Lib.hid (HO1.out.trans ho2)
          have KR2 := Lib.hid ((ho2.block w.heap.size (lt_of_get KR1.out) (by omega)).trans KR1.out)
          clear hr2 ho2
          go_wp2_with fail
          refine (C3.out _ HR2.out).mono ?_
          rintro e w3 ⟨rfl, hr3, ho3⟩
          have HR3 := Lib.hid hr3
          have HO3 := Lib.hid (HO2.out.trans ho3)
          have KR3 := Lib.hid ((ho3.block w.heap.size (lt_of_get KR2.out) (by omega)).trans KR2.out)
          clear hr3 ho3
          go_wp2_with fail
          refine (C4.out _ HR3.out).mono ?_
          rintro e w4 ⟨rfl, hr4, ho4⟩
          have HR4 := Lib.hid hr4
          have HO4 := Lib.hid (HO3.out.trans ho4)
          have KR4 := Lib.hid ((ho4.block w.heap.size (lt_of_get KR3.out) (by omega)).trans KR3.out)
          clear hr4 ho4
          go_wp2_with fail
          refine (K4.out w4 p B q4 HR4.out (by have := HL4.out; have := HSF.out; omega) (by have := HL4.out; have := HS8.out; omega) (HV.out.onl hp hB HO4.out) hp (Nat.le_trans hB HO4.out.size)).mono ?_
          rintro e w9 ⟨hk, ho9⟩
          have HO9 := Lib.hid (HO4.out.trans ho9)
          have KR9 := Lib.hid ((ho9.block w.heap.size (lt_of_get KR4.out) (by omega)).trans KR4.out)
          have hlw := lt_of_get KR4.out
          have ⟨⟨d0, d1, d2, d3⟩, g0, g1, g2, g3⟩ := keep4 KR9.out
          clear ho9
          rcases hk with ⟨r, q, HQ, rfl, ⟨hok, hlo, hhi⟩, hr9⟩ | ⟨HQ, ve, ue, s3, rfl, hr9⟩
          · have HR9 := Lib.hid hr9
            have HROW := Lib.hid (And.intro hok (And.intro hlo hhi))
            clear hr9 hok hlo hhi
            go_wp2_with fail
            obtain ⟨W, hW, ⟨y0, y1, y2, y3⟩, HFIN⟩ := finI (rb := w.heap.size) (Nat.le_refl _) hpw KR9.out HR9.out HO9.out (.int .i64 r.x.kind) (.string r.x.text) (.slice r.a r.x.keys.length r.ca) (.slice r.c r.x.kids.length r.cc)
            change bodyPost _ _ _ _ _ (putL w9 w.heap.size 0 [.int .i64 r.x.kind, .string r.x.text, .slice r.a r.x.keys.length r.ca, .slice r.c r.x.kids.length r.cc])
            rw [hW]
            refine bodyPost_ret (v := .tuple #[.agg #[.int .i64 r.x.kind, .string r.x.text, .slice r.a r.x.keys.length r.ca, .slice r.c r.x.kids.length r.cc], .nilIface]) (by simp [results, Tryd.results80, go_sem, y0, y1, y2, y3]) rfl ⟨?_, HFIN.out.2.2.2⟩
            exact .inl ⟨r, q, Lib.hid (HF.out.trans HQ.out), rfl, ⟨HROW.out.1.block fun c c1 _ => HFIN.out.2.1 c (by have := HROW.out.2.1; omega), by have := HROW.out.2.1; omega, by have := HFIN.out.1; have := HROW.out.2.2; omega⟩, HFIN.out.2.2.1⟩
          · have HR9 := Lib.hid hr9
            clear hr9
            go_wp2_with fail
            obtain ⟨W, hW, ⟨y0, y1, y2, y3⟩, HFIN⟩ := finI (rb := w.heap.size) (Nat.le_refl _) hpw KR9.out HR9.out HO9.out (.int .i64 ve) (.string ue) (.slice none 0 0) (.slice none 0 0)
            change bodyPost _ _ _ _ _ (putL w9 w.heap.size 0 [.int .i64 ve, .string ue, .slice none 0 0, .slice none 0 0])
            rw [hW]
            refine bodyPost_ret (v := .tuple #[.agg #[.int .i64 ve, .string ue, .slice none 0 0, .slice none 0 0], (.iface 100 (.agg #[.int .i64 3]))]) (by simp [results, Tryd.results80, go_sem, y0, y1, y2, y3]) rfl ⟨?_, HFIN.out.2.2.2⟩
            exact .inr ⟨Lib.hid (HF.out.trans HQ.out), _, _, _, rfl, HFIN.out.2.2.1⟩
        | none =>
          have HF : Hid (rdN (f + 1) s = none) := Lib.hid (by unfold rdN; rw [h1]; simp only [h2, h3, h4])
          have C4 : Hid (∀ W, RdI W p s → Calls Tryd.prog 103 #[.pointer (some ⟨p, 0, none⟩), .string ⟨#[123]⟩] W fun e w' => e = .returned (.bool false) ∧ RdI w' p s ∧ Onl p W w') := Lib.hid fun W hW => by
            have := CT.out W s ⟨#[123]⟩ hW
            rw [show bl ⟨#[123]⟩ = [123] from rfl, h4] at this
            simpa using this
          clear h1 h2 h3 h4
          go_enter Tryd.func80, Tryd.ntmps80
          go_wp2_with fail
          refine (C1.out _ HR0.out).mono ?_
          rintro e w1 ⟨rfl, hr1, ho1⟩
          have HR1 := Lib.hid hr1
          have HO1 := Lib.hid (HO.out.trans ho1)
          have KR1 := Lib.hid ((ho1.block w.heap.size (lt_of_get KR0.out) (by omega)).trans KR0.out)
          clear hr1 ho1
          go_wp2_with fail
          refine (C2.out _ HR1.out).mono ?_
          rintro e w2 ⟨rfl, hr2, ho2⟩
          have HR2 := Lib.hid hr2
          have HO2 := Lib.hid (HO1.out.trans ho2)
          have KR2 := Lib.hid ((ho2.block w.heap.size (lt_of_get KR1.out) (by omega)).trans KR1.out)
          clear hr2 ho2
          go_wp2_with fail
          refine (C3.out _ HR2.out).mono ?_
          rintro e w3 ⟨rfl, hr3, ho3⟩
          have HR3 := Lib.hid hr3
          have HO3 := Lib.hid (HO2.out.trans ho3)
          have KR3 := Lib.hid ((ho3.block w.heap.size (lt_of_get KR2.out) (by omega)).trans KR2.out)
          clear hr3 ho3
          go_wp2_with fail
          refine (C4.out _ HR3.out).mono ?_
          rintro e w4 ⟨rfl, hr4, ho4⟩
          have HR4 := Lib.hid hr4
          have HO4 := Lib.hid (HO3.out.trans ho4)
          have KR4 := Lib.hid ((ho4.block w.heap.size (lt_of_get KR3.out) (by omega)).trans KR3.out)
          clear hr4 ho4
          have ⟨⟨d0, d1, d2, d3⟩, g0, g1, g2, g3⟩ := keep4 KR4.out
          go_wp2_with fail
          obtain ⟨W, hW, ⟨y0, y1, y2, y3⟩, HFIN⟩ := finI (rb := w.heap.size) (Nat.le_refl _) hpw KR4.out HR4.out HO4.out (.int .i64 0) (.string ⟨#[]⟩) (.slice none 0 0) (.slice none 0 0)
          change bodyPost _ _ _ _ _ (putL w4 w.heap.size 0 [.int .i64 0, .string ⟨#[]⟩, .slice none 0 0, .slice none 0 0])
          rw [hW]
          refine bodyPost_ret (v := .tuple #[.agg #[.int .i64 0, .string ⟨#[]⟩, .slice none 0 0, .slice none 0 0], (.iface 100 (.agg #[.int .i64 3]))]) (by simp [results, Tryd.results80, go_sem, y0, y1, y2, y3]) rfl ⟨?_, HFIN.out.2.2.2⟩
          exact .inr ⟨HF, _, _, _, rfl, HFIN.out.2.2.1⟩
theorem nodI : ∀ f, NodI f
  | 0 => fun _ _ _ _ _ h => absurd h (by omega)
  | f + 1 => nodI_of f (nodI f)
end Go.Proofs.YtlncdkeooacebaaDoor.Rw
