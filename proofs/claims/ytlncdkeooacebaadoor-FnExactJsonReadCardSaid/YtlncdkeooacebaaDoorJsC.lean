/-
  Contracts: impl.readNode, impl.JsonRead answer what is told of a text, plainly, in memory of the call's own; of what was there nothing is changed. Conditions: in memory; the library's variables hold what the program lays.
-/
import Derived.Test.YtlncdkeooacebaaDoorRows
import Derived.Test.YtlncdkeooacebaaDoorJsB
import Derived.Test.YtlncdkeooacebaaDoorJsO
import Derived.Test.YtlncdkeooacebaaDoorNodeI
import Derived.Test.YtlncdkeooacebaaDoorClone
namespace Go.Proofs.YtlncdkeooacebaaDoor.Rw
open Go.RowKit Words
set_option linter.unusedVariables false
set_option linter.unusedSimpArgs false
set_option maxRecDepth 100000

theorem told_impl2 {s : Bs} {x : NodeP} (h : Fits 8002 x) : ToldN s x ↔ rdN 8001 s = some (x, []) ∧ RightN 8002 x := by
  rw [told_impl (f := 8001) (by omega)]
  constructor
  · rintro ⟨h1, h2⟩
    exact ⟨h1, (right_same (rdN_sound _ _ _ _ h1).2 h).1 h2⟩
  · rintro ⟨h1, h2⟩
    exact ⟨h1, (right_same (rdN_sound _ _ _ _ h1).2 h).2 h2⟩
/-- What readNode hands back. -/
def errOf (c : Int) : Value := if c = 0 then .nilIface else .iface 100 (.agg #[.int .i64 c])
def RnOut (t : ByteArray) (w : World) (e : Ending) (w' : World) : Prop :=
  (∃ r : RowD, Hid (OutJ t r.x 0) ∧ e = .returned (.tuple #[.agg #[.int .i64 r.x.kind, .string r.x.text, .slice r.a r.x.keys.length r.ca, .slice r.c r.x.kids.length r.cc], .nilIface]) ∧ OkD 8001 w' r ∧ w.heap.size ≤ r.lo ∧ r.hi ≤ w'.heap.size) ∨
  (Hid (OutJ t node0 3) ∧ e = .returned (.tuple #[.agg #[.int .i64 0, .string ⟨#[]⟩, .slice none 0 0, .slice none 0 0], .iface 100 (.agg #[.int .i64 3])]))
theorem put4 {w : World} {g : Nat} {T : TypeId} {x0 x1 x2 x3 : Value} (K : w.heap[g]? = some (.cells #[x0, x1, x2, x3] T (0, 0))) (v0 v1 v2 v3 : Value) {B : Nat} {a : World} (hb : Below B a w) (hB : B ≤ g) :
    ∃ W, putL w g 0 [v0, v1, v2, v3] = W ∧ (W.cell? ⟨g, 0, none⟩ = some v0 ∧ W.cell? ⟨g, 1, none⟩ = some v1 ∧ W.cell? ⟨g, 2, none⟩ = some v2 ∧ W.cell? ⟨g, 3, none⟩ = some v3) ∧ Hid (W.heap.size = w.heap.size ∧ (∀ k, k ≠ g → W.heap[k]? = w.heap[k]?) ∧ Below B a W) := by
  obtain ⟨hr, _, _⟩ := putL_cells (w := w) (g := g) (o := 0) (l := [v0, v1, v2, v3]) K (by simp)
  exact ⟨_, rfl, nrow4z hr, Lib.hid ⟨putL_size _ _ _ _, fun k hk => putL_other _ _ _ _ _ hk, putL_below hB _ _ hb⟩⟩
theorem bs_nil {s : Bs} : ((tB s).toList == []) = decide (s = []) := by
  rw [Lib.toList_data]
  show (s == []) = _
  cases s <;> rfl
set_option maxHeartbeats 2000000 in
theorem implReadNode (w : World) (t : ByteArray) (ht : t.size ≤ 8000) (hv : VarsJ w.heap.size w) :
    Calls Tryd.prog 52 #[.string t] w fun e w' => RnOut t w e w' ∧ Below w.heap.size w w' := by
  have CC : Hid (∀ W, Calls Tryd.prog 59 #[.string t] W fun e w' => e = .returned (.string t) ∧ Below W.heap.size W w') := Lib.hid fun W => Clones.clone t W (by omega)
  have HV := Lib.hid hv
  have HTS := Lib.hid ht
  clear hv ht
  go_enter Tryd.func52, Tryd.ntmps52
  go_wp2_with (go_at_call 59; refine (CC.out _).mono ?_)
  rintro e w1 ⟨rfl, hb1⟩
  have HB1 := Lib.hid ((((Below.refl _ w).alloc (Nat.le_refl _) (.cells #[.int .i64 0, .string ⟨#[]⟩, .slice none 0 0, .slice none 0 0] 53)).trans (hb1.mono (by simp))).alloc (by have := hb1.size; simp at this; omega) (.cells #[.string t] 140))
  have KR1 := Lib.hid ((Go.Deep.blk_alloc_lt w1 (.cells #[.string t] 140) w.heap.size (by have := hb1.size; simp at this; omega)).trans ((hb1.block w.heap.size (by simp)).trans (heap_alloc_new w _)))
  have HR1 : Hid (RdI (w1.alloc (.cells #[.string t] 140)) w1.heap.size (bl t)) := Lib.hid (by unfold RdI; rw [tB_bl]; exact heap_alloc_new w1 _)
  have hw1 : w.heap.size < w1.heap.size := by have := hb1.size; simp at this; omega
  have HN := Lib.hid (nodI 8001 (w1.alloc (.cells #[.string t] 140)) w1.heap.size w.heap.size (bl t) HR1.out (by rw [bl_len]; have := HTS.out; omega) (by rw [bl_len]; exact HTS.out) (HV.out.on HB1.out) (by omega) HB1.out.size)
  have hsz1 : (w1.alloc (.cells #[.string t] 140)).heap.size = w1.heap.size + 1 := by simp
  clear hb1
  go_wp2_with fail
  refine HN.out.mono ?_
  rintro e w2 ⟨hn, ho2⟩
  have HB2 := Lib.hid (HB1.out.trans (ho2.below (B := w.heap.size) (by omega) (by omega)))
  have KR2 := Lib.hid ((ho2.block w.heap.size (lt_of_get KR1.out) (by omega)).trans KR1.out)
  have hlw2 := lt_of_get KR2.out
  have hs2 := ho2.size
  clear HN ho2
  rcases hn with ⟨r, q, HQ, rfl, ⟨hok, hlo, hhi⟩, hr2⟩ | ⟨HQ, ve, ue, s3, rfl, hr2⟩
  · have HBA := Lib.hid (HB2.out.alloc HB2.out.size (.cells #[.int .i64 r.x.kind, .string r.x.text, .slice r.a r.x.keys.length r.ca, .slice r.c r.x.kids.length r.cc] 53))
    have KRA := Lib.hid ((Go.Deep.blk_alloc_lt w2 (.cells #[.int .i64 r.x.kind, .string r.x.text, .slice r.a r.x.keys.length r.ca, .slice r.c r.x.kids.length r.cc] 53) w.heap.size hlw2).trans KR2.out)
    have HRA := Lib.hid (hr2.keep (Go.Deep.blk_alloc_lt w2 (.cells #[.int .i64 r.x.kind, .string r.x.text, .slice r.a r.x.keys.length r.ca, .slice r.c r.x.kids.length r.cc] 53) w1.heap.size hr2.lt))
    have KNA := Lib.hid (heap_alloc_new w2 (.cells #[.int .i64 r.x.kind, .string r.x.text, .slice r.a r.x.keys.length r.ca, .slice r.c r.x.kids.length r.cc] 53))
    have hpl := hr2.lt
    have c0 := hr2.cells.1
    have hVN : NodeV 8002 (w2.alloc (.cells #[.int .i64 r.x.kind, .string r.x.text, .slice r.a r.x.keys.length r.ca, .slice r.c r.x.kids.length r.cc] 53)) (w.heap.size + 1) w2.heap.size (.agg #[.int .i64 r.x.kind, .string r.x.text, .slice r.a r.x.keys.length r.ca, .slice r.c r.x.kids.length r.cc]) r.x := ((hok.val).wide (by omega) hhi).below (Nat.le_refl _) ((Below.refl _ w2).alloc (Nat.le_refl _) _)
    have HROW := Lib.hid (And.intro hok (And.intro hlo hhi))
    have HNR := Lib.hid (implNodeRight (w2.alloc (.cells #[.int .i64 r.x.kind, .string r.x.text, .slice r.a r.x.keys.length r.ca, .slice r.c r.x.kids.length r.cc] 53)) (w.heap.size + 1) w2.heap.size _ r.x hVN (by simp))
    have hfit : Fits 8002 r.x := hok.fits
    have HBAD : Hid ((q = [] → ¬ RightN 8002 r.x) → OutJ t node0 3) := Lib.hid fun hno => .inr (.inr ⟨HTS.out, fun y hy => (by
      have h1 := (told_impl (f := 8001) (by omega)).1 hy
      rw [HQ.out] at h1
      simp only [Option.some.injEq, Prod.mk.injEq] at h1
      obtain ⟨⟨e1, e2⟩, h2⟩ := h1
      subst e1
      exact hno e2 ((right_same (fits_mono (by omega) (part_fits _ _ h2.2)) hfit).1 h2)), rfl, rfl⟩)
    have HGOOD : Hid (q = [] → RightN 8002 r.x → OutJ t r.x 0) := Lib.hid fun e1 h2 => .inr (.inl ⟨HTS.out, (told_impl2 hfit).2 ⟨by rw [HQ.out, e1], h2⟩, rfl⟩)
    clear hok hlo hhi hr2 hVN hfit
    by_cases hq : q = []
    · have hqb : ((tB q).toList == []) = true := by rw [bs_nil]; exact decide_eq_true hq
      by_cases hr : RightN 8002 r.x
      · have HOUT := Lib.hid (HGOOD.out hq hr)
        rw [decB_yes hr] at HNR
        clear hq hr
        generalize tB q = tq at *
        go_wp2_with fail
        refine HNR.out.mono ?_
        rintro e w3 ⟨rfl, hb3⟩
        have HB3 := Lib.hid (HBA.out.trans (hb3.mono HBA.out.size))
        have KR3 := Lib.hid ((hb3.block w.heap.size (lt_of_get KRA.out)).trans KRA.out)
        have KN3 := (hb3.block w2.heap.size (lt_of_get KNA.out)).trans KNA.out
        have ⟨⟨n0, n1, n2, n3⟩, _⟩ := keep4 KN3
        have ⟨⟨d0, d1, d2, d3⟩, g0, g1, g2, g3⟩ := keep4 KR3.out
        have hs3 : w2.heap.size ≤ w3.heap.size := Nat.le_trans (by simp) hb3.size
        have HBL3 := Lib.hid (((Below.refl _ w2).alloc (Nat.le_refl _) (.cells #[.int .i64 r.x.kind, .string r.x.text, .slice r.a r.x.keys.length r.ca, .slice r.c r.x.kids.length r.cc] 53)).trans (hb3.mono (by simp)))
        clear hb3 KN3 HNR
        go_wp2_with fail
        obtain ⟨W, hW, ⟨y0, y1, y2, y3⟩, HFIN⟩ := put4 KR3.out (.int .i64 r.x.kind) (.string r.x.text) (.slice r.a r.x.keys.length r.ca) (.slice r.c r.x.kids.length r.cc) HB3.out (Nat.le_refl _)
        change bodyPost _ _ _ _ _ (putL w3 w.heap.size 0 [.int .i64 r.x.kind, .string r.x.text, .slice r.a r.x.keys.length r.ca, .slice r.c r.x.kids.length r.cc])
        rw [hW]
        refine bodyPost_ret (v := .tuple #[.agg #[.int .i64 r.x.kind, .string r.x.text, .slice r.a r.x.keys.length r.ca, .slice r.c r.x.kids.length r.cc], .nilIface]) (by simp [results, Tryd.results52, go_sem, y0, y1, y2, y3]) rfl ⟨?_, HFIN.out.2.2⟩
        exact .inl ⟨r, HOUT, rfl, (HROW.out.1.block fun c _ c2 => HBL3.out.block c (by have := HROW.out.2.2; omega)).block fun c c1 _ => HFIN.out.2.1 c (by have := HROW.out.2.1; omega), by have := HROW.out.2.1; omega, by have := HROW.out.2.2; have := HFIN.out.1; omega⟩
      · have HOUT := Lib.hid (HBAD.out fun _ => hr)
        rw [decB_no hr] at HNR
        clear hq hr
        generalize tB q = tq at *
        go_wp2_with fail
        refine HNR.out.mono ?_
        rintro e w3 ⟨rfl, hb3⟩
        have HB3 := Lib.hid (HBA.out.trans (hb3.mono HBA.out.size))
        have KR3 := Lib.hid ((hb3.block w.heap.size (lt_of_get KRA.out)).trans KRA.out)
        have ⟨⟨d0, d1, d2, d3⟩, g0, g1, g2, g3⟩ := keep4 KR3.out
        clear hb3 HNR
        go_wp2_with fail
        obtain ⟨W, hW, ⟨y0, y1, y2, y3⟩, HFIN⟩ := put4 KR3.out (.int .i64 0) (.string ⟨#[]⟩) (.slice none 0 0) (.slice none 0 0) HB3.out (Nat.le_refl _)
        change bodyPost _ _ _ _ _ (putL w3 w.heap.size 0 [.int .i64 0, .string ⟨#[]⟩, .slice none 0 0, .slice none 0 0])
        rw [hW]
        refine bodyPost_ret (v := .tuple #[.agg #[.int .i64 0, .string ⟨#[]⟩, .slice none 0 0, .slice none 0 0], (.iface 100 (.agg #[.int .i64 3]))]) (by simp [results, Tryd.results52, go_sem, y0, y1, y2, y3]) rfl ⟨?_, HFIN.out.2.2⟩
        exact .inr ⟨HOUT, rfl⟩
    · have hqb : ((tB q).toList == []) = false := by rw [bs_nil]; exact decide_eq_false hq
      have HOUT := Lib.hid (HBAD.out fun e => absurd e hq)
      have ⟨⟨d0, d1, d2, d3⟩, g0, g1, g2, g3⟩ := keep4 KR2.out
      clear hq HNR
      generalize tB q = tq at *
      go_wp2_with fail
      obtain ⟨W, hW, ⟨y0, y1, y2, y3⟩, HFIN⟩ := put4 KR2.out (.int .i64 0) (.string ⟨#[]⟩) (.slice none 0 0) (.slice none 0 0) HB2.out (Nat.le_refl _)
      have hltW : w.heap.size < W.heap.size := by have := HFIN.out.1; omega
      have HBW := Lib.hid (HFIN.out.2.2.alloc HFIN.out.2.2.size (.cells #[.int .i64 r.x.kind, .string r.x.text, .slice r.a r.x.keys.length r.ca, .slice r.c r.x.kids.length r.cc] 53))
      change bodyPost _ _ _ _ _ ((putL w2 w.heap.size 0 [.int .i64 0, .string ⟨#[]⟩, .slice none 0 0, .slice none 0 0]).alloc (.cells #[.int .i64 r.x.kind, .string r.x.text, .slice r.a r.x.keys.length r.ca, .slice r.c r.x.kids.length r.cc] 53))
      rw [hW]
      refine bodyPost_ret (v := .tuple #[.agg #[.int .i64 0, .string ⟨#[]⟩, .slice none 0 0, .slice none 0 0], (.iface 100 (.agg #[.int .i64 3]))]) (by simp [results, Tryd.results52, go_sem, y0, y1, y2, y3, hltW]) rfl ⟨.inr ⟨HOUT, rfl⟩, HBW.out⟩
  · have HOUT : Hid (OutJ t node0 3) := Lib.hid (.inr (.inr ⟨HTS.out, fun y hy => (by
      have h1 := ((told_impl (f := 8001) (by omega)).1 hy).1
      rw [HQ.out] at h1; cases h1), rfl, rfl⟩))
    have ⟨⟨d0, d1, d2, d3⟩, g0, g1, g2, g3⟩ := keep4 KR2.out
    clear hr2
    go_wp2_with fail
    obtain ⟨W, hW, ⟨y0, y1, y2, y3⟩, HFIN⟩ := put4 KR2.out (.int .i64 0) (.string ⟨#[]⟩) (.slice none 0 0) (.slice none 0 0) HB2.out (Nat.le_refl _)
    have hltW : w.heap.size < W.heap.size := by have := HFIN.out.1; omega
    have HBW := Lib.hid (HFIN.out.2.2.alloc HFIN.out.2.2.size (.cells #[.int .i64 ve, .string ue, .slice none 0 0, .slice none 0 0] 53))
    change bodyPost _ _ _ _ _ ((putL w2 w.heap.size 0 [.int .i64 0, .string ⟨#[]⟩, .slice none 0 0, .slice none 0 0]).alloc (.cells #[.int .i64 ve, .string ue, .slice none 0 0, .slice none 0 0] 53))
    rw [hW]
    refine bodyPost_ret (v := .tuple #[.agg #[.int .i64 0, .string ⟨#[]⟩, .slice none 0 0, .slice none 0 0], (.iface 100 (.agg #[.int .i64 3]))]) (by simp [results, Tryd.results52, go_sem, y0, y1, y2, y3, hltW]) rfl ⟨.inr ⟨HOUT, rfl⟩, HBW.out⟩
/-- What JsonRead hands back. -/
def JrOut (t : ByteArray) (w : World) (e : Ending) (w' : World) : Prop :=
  ∃ (r : RowD) (c : Int), Hid (OutJ t r.x c) ∧ e = .returned (.agg #[.int .i64 r.x.kind, .string r.x.text, .slice r.a r.x.keys.length r.ca, .slice r.c r.x.kids.length r.cc, .int .i64 c]) ∧ OkD 8001 w' r ∧ w.heap.size ≤ r.lo ∧ r.hi ≤ w'.heap.size
theorem okZero {d : Nat} {w : World} {lo : Nat} : OkD d w ⟨node0, none, 0, none, 0, [], lo, lo⟩ := okLeaf (by unfold OkI; omega) (by unfold OkS; exact Nat.zero_le _)
set_option maxHeartbeats 2000000 in
theorem implJsonRead (w : World) (t : ByteArray) (htm : t.size ≤ 9223372036854775807) (hv : VarsJ w.heap.size w) :
    Calls Tryd.prog 26 #[.string t] w fun e w' => JrOut t w e w' ∧ Below w.heap.size w w' := by
  by_cases hbig : 8000 < t.size
  · have hi : (8000 : Int) < (t.size : Int) := by omega
    have HOUT := Lib.hid (show OutJ t node0 2 from .inl ⟨hbig, rfl, rfl⟩)
    have HA : Hid (∀ o, Below w.heap.size w (w.alloc o)) := Lib.hid fun o => (Below.refl _ _).alloc (Nat.le_refl _) o
    clear hbig
    go_enter Tryd.func26, Tryd.ntmps26
    go_wp2_with fail
    refine bodyPost_ret (v := .agg #[.int .i64 0, .string ⟨#[]⟩, .slice none 0 0, .slice none 0 0, .int .i64 2]) (by simp [results, Tryd.results26, go_sem]) rfl ?_
    exact ⟨⟨⟨node0, none, 0, none, 0, [], w.heap.size, w.heap.size⟩, 2, HOUT, rfl, okZero, Nat.le_refl _, by simp⟩, HA.out _⟩
  · have hts : t.size ≤ 8000 := by omega
    have hi : (t.size : Int) ≤ 8000 := by omega
    have HA : Hid (Below w.heap.size w (w.alloc (.cells #[.int .i64 0, .string ⟨#[]⟩, .slice none 0 0, .slice none 0 0, .int .i64 0] 55))) := Lib.hid ((Below.refl _ _).alloc (Nat.le_refl _) _)
    have hvA : VarsJ (w.alloc (.cells #[.int .i64 0, .string ⟨#[]⟩, .slice none 0 0, .slice none 0 0, .int .i64 0] 55)).heap.size (w.alloc (.cells #[.int .i64 0, .string ⟨#[]⟩, .slice none 0 0, .slice none 0 0, .int .i64 0] 55)) := fun w' hb => hv w' (HA.out.trans (hb.mono HA.out.size))
    have HN := Lib.hid (implReadNode _ t hts hvA)
    have HV := Lib.hid hv
    clear hbig hv hvA
    go_enter Tryd.func26, Tryd.ntmps26
    go_wp2_with fail
    refine HN.out.mono ?_
    rintro e w1 ⟨hn, hb1⟩
    have HB1 := Lib.hid (HA.out.trans (hb1.mono HA.out.size))
    have KR1 := Lib.hid ((hb1.block w.heap.size (by simp)).trans (heap_alloc_new w _))
    have hlw := lt_of_get KR1.out
    have ⟨⟨d0, d1, d2, d3, d4⟩, g0, g1, g2, g3, g4⟩ := keep5J KR1.out
    have hsw : w.heap.size + 1 ≤ w1.heap.size := by have := hb1.size; simp at this; omega
    clear hb1 HN
    rcases hn with ⟨r, HOUT, rfl, hok, hlo, hhi⟩ | ⟨HOUT, rfl⟩
    · have hlo2 : w.heap.size + 1 ≤ r.lo := by simpa using hlo
      have HROW := Lib.hid (And.intro hok (And.intro hlo2 hhi))
      clear hok hlo hhi hlo2
      go_wp2_with fail
      have HBC : Hid (Below w.heap.size w (w1.alloc (.cells #[.int .i64 r.x.kind, .string r.x.text, .slice r.a r.x.keys.length r.ca, .slice r.c r.x.kids.length r.cc] 53)).drew) := Lib.hid (HB1.out.alloc HB1.out.size _).drew
      have HBD : Hid (Below w1.heap.size w1 (w1.alloc (.cells #[.int .i64 r.x.kind, .string r.x.text, .slice r.a r.x.keys.length r.ca, .slice r.c r.x.kids.length r.cc] 53)).drew) := Lib.hid ((Below.refl _ w1).alloc (Nat.le_refl _) _).drew
      have hev := (HV.out _ HBC.out).err
      have CX := Lib.hid (ErrAs.codeNil (w1.alloc (.cells #[.int .i64 r.x.kind, .string r.x.text, .slice r.a r.x.keys.length r.ca, .slice r.c r.x.kids.length r.cc] 53)).drew)
      have hnn := Lib.hid (heap_alloc_new w1 (.cells #[.int .i64 r.x.kind, .string r.x.text, .slice r.a r.x.keys.length r.ca, .slice r.c r.x.kids.length r.cc] 53))
      have hrr := Lib.hid ((Go.Deep.blk_alloc_lt w1 (.cells #[.int .i64 r.x.kind, .string r.x.text, .slice r.a r.x.keys.length r.ca, .slice r.c r.x.kids.length r.cc] 53) w.heap.size hlw).trans KR1.out)
      have ⟨⟨n0, n1, n2, n3⟩, _⟩ := keep4 hnn.out
      have ⟨⟨r0, r1, r2, r3, r4⟩, s0, s1, s2, s3, s4⟩ := keep5J hrr.out
      have hlA : w1.heap.size < (w1.alloc (.cells #[.int .i64 r.x.kind, .string r.x.text, .slice r.a r.x.keys.length r.ca, .slice r.c r.x.kids.length r.cc] 53)).heap.size := by simp
      clear d0 d1 d2 d3 d4 g0 g1 g2 g3 g4 hev
      go_region_with (go_at_call 34; refine CX.out.mono ?_; rintro e w2 ⟨rfl, hb2⟩; have hn2 := (hb2.block w1.heap.size hlA).trans hnn.out; have hr2 := (hb2.block w.heap.size (by show _ < (w1.alloc _).heap.size; omega)).trans hrr.out; have ⟨⟨m0, m1, m2, m3⟩, _⟩ := keep4 hn2; have ⟨⟨d0, d1, d2, d3, d4⟩, g0, g1, g2, g3, g4⟩ := keep5J hr2)
      all_goals
        have HB2 := Lib.hid (HBC.out.trans (hb2.mono HBC.out.size))
        have HBL2 := Lib.hid (HBD.out.trans (hb2.mono HBD.out.size))
        have HR2 := Lib.hid hr2
        clear hb2 hn2 hr2
        go_wp2_with fail
        obtain ⟨W, hW, ⟨y0, y1, y2, y3, y4⟩, HFIN⟩ := out_cells HR2.out (.int .i64 r.x.kind) (.string r.x.text) (.slice r.a r.x.keys.length r.ca) (.slice r.c r.x.kids.length r.cc) (.int .i64 0) HB2.out (Nat.le_refl _)
        change bodyPost _ _ _ _ _ (putL w2 w.heap.size 0 [.int .i64 r.x.kind, .string r.x.text, .slice r.a r.x.keys.length r.ca, .slice r.c r.x.kids.length r.cc, .int .i64 0])
        rw [hW]
        refine bodyPost_ret (v := .agg #[.int .i64 r.x.kind, .string r.x.text, .slice r.a r.x.keys.length r.ca, .slice r.c r.x.kids.length r.cc, .int .i64 0]) (by simp [results, Tryd.results26, go_sem, y0, y1, y2, y3, y4]) rfl ?_
        exact ⟨⟨r, 0, HOUT, rfl, (HROW.out.1.block fun c _ c2 => HBL2.out.block c (by have := HROW.out.2.2; omega)).block fun c c1 _ => HFIN.out.2.1 c (by have := HROW.out.2.1; omega), by have := HROW.out.2.1; omega, by have := HROW.out.2.2; have := HFIN.out.1; have := HBL2.out.size; omega⟩, HFIN.out.2.2⟩
    · go_wp2_with fail
      have HBC : Hid (Below w.heap.size w (w1.alloc (.cells #[.int .i64 0, .string ⟨#[]⟩, .slice none 0 0, .slice none 0 0] 53)).drew) := Lib.hid (HB1.out.alloc HB1.out.size _).drew
      have HBD : Hid (Below w1.heap.size w1 (w1.alloc (.cells #[.int .i64 0, .string ⟨#[]⟩, .slice none 0 0, .slice none 0 0] 53)).drew) := Lib.hid ((Below.refl _ w1).alloc (Nat.le_refl _) _).drew
      have hev := (HV.out _ HBC.out).err
      have CX := Lib.hid (ErrAs.codeFault 3 _ hev)
      have hnn := Lib.hid (heap_alloc_new w1 (.cells #[.int .i64 0, .string ⟨#[]⟩, .slice none 0 0, .slice none 0 0] 53))
      have hrr := Lib.hid ((Go.Deep.blk_alloc_lt w1 (.cells #[.int .i64 0, .string ⟨#[]⟩, .slice none 0 0, .slice none 0 0] 53) w.heap.size hlw).trans KR1.out)
      have ⟨⟨n0, n1, n2, n3⟩, _⟩ := keep4 hnn.out
      have ⟨⟨r0, r1, r2, r3, r4⟩, s0, s1, s2, s3, s4⟩ := keep5J hrr.out
      have hlA : w1.heap.size < (w1.alloc (.cells #[.int .i64 0, .string ⟨#[]⟩, .slice none 0 0, .slice none 0 0] 53)).heap.size := by simp
      clear d0 d1 d2 d3 d4 g0 g1 g2 g3 g4 hev
      go_region_with (go_at_call 34; refine CX.out.mono ?_; rintro e w2 ⟨rfl, hb2⟩; have hn2 := (hb2.block w1.heap.size hlA).trans hnn.out; have hr2 := (hb2.block w.heap.size (by show _ < (w1.alloc _).heap.size; omega)).trans hrr.out; have ⟨⟨m0, m1, m2, m3⟩, _⟩ := keep4 hn2; have ⟨⟨d0, d1, d2, d3, d4⟩, g0, g1, g2, g3, g4⟩ := keep5J hr2)
      all_goals
        have HB2 := Lib.hid (HBC.out.trans (hb2.mono HBC.out.size))
        have HBL2 := Lib.hid (HBD.out.trans (hb2.mono HBD.out.size))
        have HR2 := Lib.hid hr2
        clear hb2 hn2 hr2
        go_wp2_with fail
        obtain ⟨W, hW, ⟨y0, y1, y2, y3, y4⟩, HFIN⟩ := out_cells HR2.out (.int .i64 0) (.string ⟨#[]⟩) (.slice none 0 0) (.slice none 0 0) (.int .i64 3) HB2.out (Nat.le_refl _)
        change bodyPost _ _ _ _ _ (putL w2 w.heap.size 0 [.int .i64 0, .string ⟨#[]⟩, .slice none 0 0, .slice none 0 0, .int .i64 3])
        rw [hW]
        refine bodyPost_ret (v := .agg #[.int .i64 0, .string ⟨#[]⟩, .slice none 0 0, .slice none 0 0, .int .i64 3]) (by simp [results, Tryd.results26, go_sem, y0, y1, y2, y3, y4]) rfl ?_
        exact ⟨⟨⟨node0, none, 0, none, 0, [], w.heap.size, w.heap.size⟩, 3, HOUT, rfl, okZero, Nat.le_refl _, HFIN.out.2.2.size⟩, HFIN.out.2.2⟩
end Go.Proofs.YtlncdkeooacebaaDoor.Rw
