/-
  Contract: the program's reader of one kid of a node reads, if its reader of nodes does; of what was there the reader's own place, and the node, alone are changed. Conditions: in memory, a text of at most 8000 bytes; the library's variables hold what the program lays.
-/
import Derived.Test.YtlncdkeooacebaaDoorRows
import Derived.Test.YtlncdkeooacebaaDoorJsX
import Derived.Test.YtlncdkeooacebaaDoorNdZ
import Derived.Test.YtlncdkeooacebaaDoorJsY
import Derived.BigRegion
namespace Go.Proofs.YtlncdkeooacebaaDoor.Rw
open Go.RowKit Words
open _root_.Go.Proofs.YtlncdkeooacebaaDoor.Nm (OwnTs)
set_option linter.unusedVariables false
set_option linter.unusedSimpArgs false
set_option maxRecDepth 100000

set_option maxHeartbeats 4000000 in
theorem kid4 (f : Nat) (IH : NodI f) : KidI 4 f := by
  intro w p B nb base s sk sn ks L hst hR hsf hs8 hV hp hnb hbb hkl hL
  obtain ⟨na, nc, rfl⟩ := hst.kids.slice
  obtain ⟨ka, kc, rfl⟩ := OwnTs.slice hst.keys
  have ⟨⟨k0, k1, k2, k3⟩, f0, f1, f2, f3⟩ := keep4 hst.node
  have HST := Lib.hid hst
  have hsz := hst.size
  have hltn := hst.lt
  have hpb := hst.pb
  have hpn := hst.pn
  have IHH := Lib.hid IH
  have HR := Lib.hid hR
  have HV := Lib.hid hV
  have HLL := Lib.hid hL
  have HKL := Lib.hid hkl
  have HSF := Lib.hid hsf
  have HS8 := Lib.hid hs8
  have hBw : B ≤ w.heap.size := by omega
  clear hst IH hR hV hL hkl hsf hs8
  · have HK := Lib.hid (impKey w p B s HR.out HV.out hp hBw HS8.out)
    go_enter Tryd.func115, Tryd.ntmps115
    go_wp2_with fail
    refine HK.out.mono ?_
    rintro e w7 ⟨hk7, ho7⟩
    have HST7 := Lib.hid (HST.out.only ho7)
    have HF7 := Lib.hid (Fr.of (nb := nb) ho7 hsz)
    clear ho7 HK
    rcases hk7 with ⟨ky, s2, e1, rfl, hr7⟩ | ⟨e1, rfl, s3, hr7⟩
    · have HR7 := Lib.hid hr7
      have HSE : Hid (stepQ 4 s = some (ky, s2)) := Lib.hid (by unfold stepQ; rw [if_pos rfl]; exact e1)
      have hkl2 := key_len e1
      have HLN : Hid (s2.length < f ∧ s2.length ≤ 8000) := Lib.hid (by have := HSF.out; have := HS8.out; omega)
      have HKO : Hid (OkS ky) := Lib.hid (by have := HS8.out; unfold OkS; omega)
      have ⟨⟨u0, u1, u2, u3⟩, g0, g1, g2, g3⟩ := keep4 HST7.out.node
      have hsz7 := HST7.out.size
      have hnlt7 : nb < w7.heap.size := by omega
      have hlen7 : ks.length + 1 ≤ 1048576 := by have e1 := HKL.out; have e2 := HLL.out; omega
      have HOK7 := Lib.hid (OwnTs.below HST7.out.keys ((Below.refl _ w7).alloc (Nat.le_refl _) (.cells #[.string ky] 9)))
      clear hr7 e1 hkl2 k0 k1 k2 k3 f0 f1 f2 f3
      go_wp2_with (at_builtin; refine app_textD rfl _ _ rfl base _ ks rfl HOK7.out _ 1 rfl ky (by simp) hlen7 (Nat.le_trans hsz7 (by simp)) ?_)
      intro gg cap w8 hown8 hgrow8 hat8
      have HSTa := Lib.hid (HST7.out.below ((Below.refl _ w7).alloc (Nat.le_refl _) (.cells #[.string ky] 9)))
      have HKEYS := HSTa.out.key HKO.out hown8 hgrow8 (by rw [show (w7.alloc (.cells #[.string ky] 9)).heap.size = w7.heap.size + 1 by simp]; exact hat8)
      have hn8 : w8.heap[nb]? = (w7.alloc (.cells #[.string ky] 9)).heap[nb]? := hgrow8.block _ (lt_of_get HSTa.out.node) fun e => by have := (own_str HSTa.out.keys _ e.symm).1; omega
      have ⟨⟨_, _, x2, _⟩, _, _, y2, _⟩ := keep4 (hn8.trans HSTa.out.node)
      have hp8 := (HKEYS.2 p (by omega) hpn).trans (Go.Deep.blk_alloc_lt w7 (.cells #[.string ky] 9) p HR7.out.lt)
      have HF8 : Hid (Fr base p nb w (w8.setCell ⟨nb, 2, none⟩ (.slice (some ⟨gg, 0, none⟩) (ks.length + 1) cap))) := Lib.hid (HF7.out.trans ⟨hgrow8.os, hgrow8.tape, hgrow8.output, Nat.le_trans (by simp) (Nat.le_trans hgrow8.size (by simp [World.setCell])), fun k hk h1 h2 => (HKEYS.2 k hk h2).trans (Go.Deep.blk_alloc_lt w7 (.cells #[.string ky] 9) k (by omega))⟩)
      have HST8 := Lib.hid HKEYS.1
      have HR8 := Lib.hid (HR7.out.keep hp8)
      clear HKEYS hown8 hgrow8 hat8 hn8 hp8 HSTa HST7 HOK7 u0 u1 u2 u3 g0 g1 g2 g3
      go_wp2_with fail
      obtain ⟨w9, hw9⟩ : ∃ q, w8.setCell ⟨nb, 2, none⟩ (.slice (some ⟨gg, 0, none⟩) (ks.length + 1) cap) = q := ⟨_, rfl⟩
      rw [hw9] at HST8 HR8 HF8 ⊢
      clear hw9 x2 y2
      have HVW := Lib.hid (HV.out.on (HF8.out.below (B := B) (by omega) (by omega) (by omega)))
      have HN := Lib.hid (IHH.out w9 p B s2 HR8.out HLN.out.1 HLN.out.2 HVW.out hp (Nat.le_trans hBw HF8.out.size))
      clear HVW
      go_wp2_with fail
      refine HN.out.mono ?_
      rintro e wa ⟨hn, hoa⟩
      clear HN
      have HSTA := Lib.hid (HST8.out.only hoa)
      have HFA := Lib.hid (HF8.out.trans (Fr.of (nb := nb) hoa HST8.out.size))
      rcases hn with ⟨r, q, HQ, rfl, ⟨hok, hlo, hhi⟩, hra⟩ | ⟨HQ, ve, ue, s3, rfl, hra⟩
      · have HRA := Lib.hid hra
        have HROW : Hid (OkD f wa r ∧ base ≤ r.lo ∧ r.hi ≤ wa.heap.size ∧ (∀ g, (Value.slice na L.length nc).ownBlock = some g → g < r.lo ∨ r.hi ≤ g) ∧ (∀ q ∈ L, q.hi ≤ r.lo) ∧ ∀ g, (Value.slice (some ⟨gg, 0, none⟩) (ks.length + 1) cap).ownBlock = some g → g < r.lo ∨ r.hi ≤ g) := Lib.hid (by
          have e0 := HST8.out.size
          refine ⟨hok, by omega, hhi, fun g hg => .inl ?_, fun q hq => ?_, fun g hg => .inl ?_⟩
          · obtain ⟨_, c, hc⟩ := own_nod HST8.out.kids g hg; have := lt_of_get hc; omega
          · have := (HST8.out.kids.ok q hq).2.2.1; omega
          · obtain ⟨_, c, hc⟩ := own_str HST8.out.keys g hg; have := lt_of_get hc; omega)
        clear hok hlo hhi hra hoa
        have hsza := HSTA.out.size
        have hnlt : nb < wa.heap.size := by omega
        have HBZ : Hid (Below wa.heap.size wa ((wa.alloc (.cells #[.int .i64 r.x.kind, .string r.x.text, .slice r.a r.x.keys.length r.ca, .slice r.c r.x.kids.length r.cc] 53)).alloc (.cells #[.int .i64 0, .string ⟨#[]⟩, .slice none 0 0, .slice none 0 0] 53)).drew) := Lib.hid (((Below.refl _ _).alloc (Nat.le_refl _) _).alloc (by simp) _).drew
        have HBD : Hid (Below wa.heap.size wa (wa.alloc (.cells #[.int .i64 r.x.kind, .string r.x.text, .slice r.a r.x.keys.length r.ca, .slice r.c r.x.kids.length r.cc] 53))) := Lib.hid ((Below.refl _ _).alloc (Nat.le_refl _) _)
        have HSIZ : Hid (((wa.alloc (.cells #[.int .i64 r.x.kind, .string r.x.text, .slice r.a r.x.keys.length r.ca, .slice r.c r.x.kids.length r.cc] 53)).alloc (.cells #[.int .i64 0, .string ⟨#[]⟩, .slice none 0 0, .slice none 0 0] 53)).drew.heap.size = wa.heap.size + 2) := Lib.hid (by show ((wa.alloc _).alloc _).heap.size = _; simp)
        have HSTZ := Lib.hid (HSTA.out.below HBZ.out)
        have hnd := (HBD.out.block nb hnlt).trans HSTA.out.node
        have hnz : ((wa.alloc (.cells #[.int .i64 r.x.kind, .string r.x.text, .slice r.a r.x.keys.length r.ca, .slice r.c r.x.kids.length r.cc] 53)).alloc (.cells #[.int .i64 0, .string ⟨#[]⟩, .slice none 0 0, .slice none 0 0] 53)).heap[nb]? = _ := (HBZ.out.block nb hnlt).trans HSTA.out.node
        have hkd := heap_alloc_new wa (.cells #[.int .i64 r.x.kind, .string r.x.text, .slice r.a r.x.keys.length r.ca, .slice r.c r.x.kids.length r.cc] 53)
        have hkz := (Go.Deep.blk_alloc_lt (wa.alloc (.cells #[.int .i64 r.x.kind, .string r.x.text, .slice r.a r.x.keys.length r.ca, .slice r.c r.x.kids.length r.cc] 53)) (.cells #[.int .i64 0, .string ⟨#[]⟩, .slice none 0 0, .slice none 0 0] 53) wa.heap.size (by simp)).trans hkd
        have HZN : Hid (((wa.alloc (.cells #[.int .i64 r.x.kind, .string r.x.text, .slice r.a r.x.keys.length r.ca, .slice r.c r.x.kids.length r.cc] 53)).alloc (.cells #[.int .i64 0, .string ⟨#[]⟩, .slice none 0 0, .slice none 0 0] 53)).heap[wa.heap.size + 1]? = some (.cells zeroC.toArray 53 (0, 0))) := Lib.hid (by
          have := heap_alloc_new (wa.alloc (.cells #[.int .i64 r.x.kind, .string r.x.text, .slice r.a r.x.keys.length r.ca, .slice r.c r.x.kids.length r.cc] 53)) (.cells #[.int .i64 0, .string ⟨#[]⟩, .slice none 0 0, .slice none 0 0] 53)
          rw [show (wa.alloc (.cells #[.int .i64 r.x.kind, .string r.x.text, .slice r.a r.x.keys.length r.ca, .slice r.c r.x.kids.length r.cc] 53)).heap.size = wa.heap.size + 1 by simp] at this; exact this)
        have ⟨⟨a0, a1, a2, a3⟩, _⟩ := keep4 hnd
        have ⟨⟨m0, m1, m2, m3⟩, _⟩ := keep4 hnz
        have ⟨⟨e0, e1, e2, e3⟩, _⟩ := keep4 hkd
        have ⟨⟨n0, n1, n2, n3⟩, _⟩ := keep4 hkz
        have HNZ := Lib.hid hnz
        have HKZ := Lib.hid hkz
        have hzb : base ≤ ((wa.alloc (.cells #[.int .i64 r.x.kind, .string r.x.text, .slice r.a r.x.keys.length r.ca, .slice r.c r.x.kids.length r.cc] 53)).alloc (.cells #[.int .i64 0, .string ⟨#[]⟩, .slice none 0 0, .slice none 0 0] 53)).drew.heap.size := by rw [HSIZ.out]; omega
        have hlenL : L.length + 1 ≤ 1048576 := by have := HLL.out; omega
        have HKEY : Hid (∀ g cap3 w3, w3.ownsRow base 53 4 (.slice (some ⟨g, 0, none⟩) (L.length + 1) cap3) (L.length + 1) (L.flatMap RowD.cells ++ zeroC) → ((wa.alloc (.cells #[.int .i64 r.x.kind, .string r.x.text, .slice r.a r.x.keys.length r.ca, .slice r.c r.x.kids.length r.cc] 53)).alloc (.cells #[.int .i64 0, .string ⟨#[]⟩, .slice none 0 0, .slice none 0 0] 53)).drew.grownBy w3 (Value.slice na L.length nc).ownBlock → ((Value.slice na L.length nc).ownBlock = some g ∨ g = wa.heap.size + 2) → ∀ W, (W = (((((w3.setCell ⟨g, L.length * 4, none⟩ (.int .i64 r.x.kind)).setCell ⟨g, L.length * 4 + 1, none⟩ (.string r.x.text)).setCell ⟨g, L.length * 4 + 2, none⟩ (.slice r.a r.x.keys.length r.ca)).setCell ⟨g, L.length * 4 + 3, none⟩ (.slice r.c r.x.kids.length r.cc)).setCell ⟨nb, 3, none⟩ (.slice (some ⟨g, 0, none⟩) (L.length + 1) cap3)) ∨ W = (((((w3.setCell ⟨nb, 3, none⟩ (.slice (some ⟨g, 0, none⟩) (L.length + 1) cap3)).setCell ⟨g, L.length * 4, none⟩ (.int .i64 r.x.kind)).setCell ⟨g, L.length * 4 + 1, none⟩ (.string r.x.text)).setCell ⟨g, L.length * 4 + 2, none⟩ (.slice r.a r.x.keys.length r.ca)).setCell ⟨g, L.length * 4 + 3, none⟩ (.slice r.c r.x.kids.length r.cc))) → StN f nb base p 4 W (.slice (some ⟨gg, 0, none⟩) (ks.length + 1) cap) (.slice (some ⟨g, 0, none⟩) (L.length + 1) cap3) (ks ++ [ky]) (L ++ [r]) ∧ Fr base p nb w W ∧ RdI W p q) := Lib.hid fun g cap3 w3 hown3 hg3 hat3 W hW => by
          have h1 := HSTZ.out.kidZ (r := r) (w3 := w3) (g := g) (cap := cap3) ⟨HROW.out.1.block fun c _ c2 => HBZ.out.block c (by have := HROW.out.2.2.1; omega), HROW.out.2.1, by rw [HSIZ.out]; have := HROW.out.2.2.1; omega, HROW.out.2.2.2.1⟩ HROW.out.2.2.2.2.2 HROW.out.2.2.2.2.1 hown3 hg3 (by rw [HSIZ.out]; exact hat3) W hW
          have hbz := HBZ.out
          exact ⟨h1.1, HFA.out.trans (Fr.trans ⟨hbz.os, hbz.tape, hbz.output, hbz.size, fun k hk _ _ => hbz.block k (by omega)⟩ h1.2.1), HRA.out.keep ((h1.2.2 p (by omega) hpn).trans (hbz.block p HRA.out.lt))⟩
        clear hnd hnz hkd hkz
        go_wp2_with fail
        go_region_law (first
          | (refine step_app_zeroD (by rfl) _ _ (by rfl) f base (.slice na L.length nc) L (by rfl) HSTZ.out.kids (wa.heap.size + 1) 1 (by rfl) HZN.out hlenL hzb ?_; intro g cap3 w3 cur hown3 hmd3 hat3 hg3 hcs3 hbg3 hcp3; have hgp : ¬ nb = g := (by omega); have hgq : ¬ g = nb := (by omega); have hidx : (L.length : Int) < (L.length : Int) + 1 := (by omega); have hat4 : (Value.slice na L.length nc).ownBlock = some g ∨ g = wa.heap.size + 2 := (by rw [← HSIZ.out]; exact hat3); have hgs : ¬ wa.heap.size = g := fun e => hat4.elim (fun h => by obtain ⟨_, c, hc⟩ := own_nod HSTA.out.kids g h; have := lt_of_get hc; omega) (fun h => by omega); have HNB3 := Lib.hid ((hmd3.block nb (by have := HSIZ.out; omega) (fun e => by have := (own_nod HSTA.out.kids _ e.symm).1; omega)).trans HNZ.out); have HKB3 := Lib.hid ((hmd3.block wa.heap.size (by have := HSIZ.out; omega) (fun e => by obtain ⟨_, c, hc⟩ := own_nod HSTA.out.kids _ e.symm; have := lt_of_get hc; omega)).trans HKZ.out); have ⟨⟨r0, r1, r2, r3⟩, s0, s1, s2, s3⟩ := keep4 HNB3.out; have ⟨⟨t0, t1, t2, t3⟩, _⟩ := keep4 HKB3.out; have c0 := row_cell hg3 (k := L.length * 4) (by omega); have c1 := row_cell hg3 (k := L.length * 4 + 1) (by omega); have c2 := row_cell hg3 (k := L.length * 4 + 2) (by omega); have c3 := row_cell hg3 (k := L.length * 4 + 3) (by omega); have f0 := frozen_of_row w3 g (L.length * 4) _ _ hg3; have f1 := frozen_of_row w3 g (L.length * 4 + 1) _ _ hg3; have f2 := frozen_of_row w3 g (L.length * 4 + 2) _ _ hg3; have f3 := frozen_of_row w3 g (L.length * 4 + 3) _ _ hg3; generalize cur[L.length * 4] = x0 at c0; generalize cur[L.length * 4 + 1] = x1 at c1; generalize cur[L.length * 4 + 2] = x2 at c2; generalize cur[L.length * 4 + 3] = x3 at c3))
        all_goals
          have HQ3 := Lib.hid (HKEY.out g cap3 w3 hown3 hmd3 hat4)
          clear hown3 hmd3 hg3 hcs3 hat3 hat4 c0 c1 c2 c3 f0 f1 f2 f3 r0 r1 r2 r3 s0 s1 s2 s3 t0 t1 t2 t3
          go_wp2_with fail
          go_ret
          refine ⟨.inl ⟨_, _, r, q, _, _, HSE, HQ, rfl, (HQ3.out _ ?_).1, (HQ3.out _ ?_).2.2⟩, (HQ3.out _ ?_).2.1⟩
          all_goals first | exact .inl (by with_reducible rfl) | exact .inr (by with_reducible rfl)
      · have HRA := Lib.hid hra
        clear hra hoa
        have HFZ : Hid (∀ o, Fr base p nb w (wa.alloc o)) := Lib.hid fun o => HFA.out.trans (Fr.of ((Onl.refl p wa).alloc o) (Nat.le_trans (by omega) HFA.out.size))
        have HRZ : Hid (∀ o, RdI (wa.alloc o) p s3) := Lib.hid fun o => HRA.out.keep (Go.Deep.blk_alloc_lt _ _ _ HRA.out.lt)
        go_wp2_with fail
        go_ret
        exact ⟨.inr ⟨Lib.hid (.inr ⟨_, _, HSE.out, HQ.out⟩), s3, rfl, HRZ.out _⟩, HFZ.out _⟩
    · have HR7 := Lib.hid hr7
      have HE := Lib.hid e1
      clear hr7 e1
      unfold errV
      go_wp2_with fail
      go_ret
      exact ⟨.inr ⟨Lib.hid (.inl (by unfold stepQ; rw [if_pos rfl]; exact HE.out)), s3, rfl, HR7.out⟩, HF7.out⟩
end Go.Proofs.YtlncdkeooacebaaDoor.Rw
