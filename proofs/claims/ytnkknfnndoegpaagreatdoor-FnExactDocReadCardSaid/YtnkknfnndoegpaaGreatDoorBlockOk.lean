/-
  Contract: the program's reader of braces reads, if its reader of one selection does. Conditions: as the theorem says.
-/
import Derived.Test.YtnkknfnndoegpaaGreatDoorRows
import Derived.Test.YtnkknfnndoegpaaGreatDoorSelRdC
namespace Go.Proofs.YtnkknfnndoegpaaGreatDoor.Selss
open Go.RowKit Words Decs Splits
set_option linter.unusedVariables false
set_option maxRecDepth 100000
theorem spread_name {t : Tok} {nm : ByteArray} (h : selOfP t = (3, ByteArray.empty, nm, -1)) (hl : t.length ≤ 8000) : OkS nm := by
  unfold selOfP at h
  by_cases h3 : t.take 3 = [46, 46, 46]
  · rw [if_pos h3] at h
    by_cases hon : t.drop 3 = [111, 110]
    · rw [if_pos hon] at h; cases h
    · rw [if_neg hon] at h
      injection h with _ h; injection h with _ h; injection h with h _
      rw [← h]; exact okS_ub (by rw [List.length_drop]; omega)
  · rw [if_neg h3] at h
    unfold fSel at h
    split at h
    · injection h with h _; omega
    · injection h with h _; omega
theorem selOk (n : Nat) (hb : BlockOk n) : SelOk n := by
  intro w p cap k a W hn hR hk hv
  have hl := word_len hR.sizes k
  rcases sel_cases (W.drop k) with ⟨Y, hX, hs⟩ | ⟨nm, hs, hne, hhd⟩ | ⟨key, nm, f, hs, hf, hkl, hnl, hh, hh2⟩ | ⟨hs, hhd⟩
  · exact selRd_on n w p cap k a W hn hs Y hX (Lib.hid hb) (Lib.hid hR) (Lib.hid hk) (Lib.hid hv)
  · have hnm : OkS nm := by
      exact spread_name hs hl
    refine (selRd_flat w p cap k a W hR hk hv 3 ByteArray.empty nm (-1) ⟨by unfold OkI; omega, by unfold OkS; decide, hnm, by unfold OkI; omega⟩ (by omega) (by omega) (wordB nm) (by rw [oneB_3, show (ByteArray.empty.toList == []) = true from by rw [Lib.toList_data]; rfl]; simp) hs).mono ?_
    rintro e w' ⟨k', err, rfl, he, ho, h1, h2, h3, h4⟩
    refine ⟨_, _, _, _, _, _, Sels.nil, _, k', rfl, ho, h1, h2, h3, ?_⟩
    cases hw : wordB nm with
    | false => exact .inr ⟨he.out.2 hw, noOne_head (by rw [hhd, hw]; rfl)⟩
    | true =>
      refine .inl ⟨he.out.1 hw, (sels_nil w' w'.heap.size).wide ho.size (Nat.le_refl _), ⟨by unfold OkI; omega, by unfold OkS; decide, hnm, by unfold OkI; omega⟩, ⟨(W.drop k).drop 1, by rw [hhd, hw]; rfl, .inl ⟨rfl, h4.out.2, by omega, fun h => absurd h (by omega)⟩⟩, ?_⟩
      have := h4.out.1 (rd_size hne); omega
  · exact selRd_field n w p cap k a W hn key nm f ⟨hf, by unfold OkS; omega, by unfold OkS; omega⟩ hs hh hh2 (Lib.hid hb) (Lib.hid hR) (Lib.hid hk) (Lib.hid hv)
  · refine (selRd_flat w p cap k a W hR hk hv 0 ByteArray.empty ByteArray.empty 0 ⟨by unfold OkI; omega, by unfold OkS; decide, by unfold OkS; decide, by unfold OkI; omega⟩ (by omega) (by omega) false (by rw [oneB_other (by omega) (by omega) (by omega)]) hs).mono ?_
    rintro e w' ⟨k', err, rfl, he, ho, h1, h2, h3, h4⟩
    exact ⟨_, _, _, _, _, _, Sels.nil, _, k', rfl, ho, h1, h2, h3, .inr ⟨he.out.2 rfl, noOne_head hhd⟩⟩
/-- The rows L were read off W0; V are the words behind them. -/
def Got (L : List RowS) (W0 V : List Tok) : Prop := (∀ X V', Reads X V V' ↔ Reads (consRows L X) W0 V') ∧ (∀ s V', Reads s W0 V' → ∃ X, s = consRows L X)
theorem got_start (W0 : List Tok) : Got [] W0 W0 := ⟨fun _ _ => Iff.rfl, fun s _ _ => ⟨s, rfl⟩⟩
theorem got_more {L : List RowS} {W0 V V1 : List Tok} {r : RowS} (h : Got L W0 V) (h1 : ReadsOne r.k r.key r.nm r.f r.u V V1) (hw : word V1 ≠ [125]) : Got (L ++ [r]) W0 V1 := by
  refine ⟨fun X V' => ?_, fun s V' hs => ?_⟩
  · rw [consRows_snoc, ← h.1, reads_cons]
    refine ⟨fun hx => ⟨V1, h1, .inr ⟨hw, hx⟩⟩, ?_⟩
    rintro ⟨V2, h2, h3⟩
    obtain ⟨_, rfl⟩ := reads_one_sel h1 h2
    rcases h3 with ⟨_, h4, _⟩ | ⟨_, h4⟩
    · exact absurd h4 hw
    · exact h4
  · obtain ⟨X, rfl⟩ := h.2 s V' hs
    have hx := (h.1 X V').2 hs
    cases X with
    | nil => exact hx.elim
    | cons k key nm f u X =>
      obtain ⟨V2, h2, h3⟩ := reads_cons.1 hx
      obtain ⟨⟨rfl, rfl, rfl, rfl, rfl⟩, _⟩ := reads_one_sel h1 h2
      exact ⟨X, (consRows_snoc L r X).symm⟩
theorem got_end {L : List RowS} {W0 V V1 : List Tok} {r : RowS} (h : Got L W0 V) (h1 : ReadsOne r.k r.key r.nm r.f r.u V V1) (hw : word V1 = [125]) : Reads (rowsSels (L ++ [r])) W0 (V1.drop 1) := by
  rw [← consRows_nil, consRows_snoc, ← h.1, reads_cons]
  exact ⟨V1, h1, .inl ⟨rfl, hw, rfl⟩⟩
theorem got_none {L : List RowS} {W0 V : List Tok} (h : Got L W0 V) (h1 : ¬ ∃ kd key nm f u W1, ReadsOne kd key nm f u V W1) : ¬ ∃ s V', Reads s W0 V' := by
  rintro ⟨s, V', hs⟩
  obtain ⟨X, rfl⟩ := h.2 s V' hs
  have hx := (h.1 X V').2 hs
  cases X with
  | nil => exact hx.elim
  | cons k key nm f u X =>
    obtain ⟨V2, h2, _⟩ := reads_cons.1 hx
    exact h1 ⟨_, _, _, _, _, _, h2⟩
theorem ne_empty {a : ByteArray} (h : 0 < a.size) : a ≠ ByteArray.empty := fun e => by rw [e] at h; exact absurd h (by decide)
set_option maxHeartbeats 4000000 in
theorem blockOk_succ (n : Nat) (hs : SelOk n) : BlockOk (n + 1) := by
  intro w p cap k a W hn hR hk hv
  have hplt := hR.lt
  have hsm := hR.small
  have CT := Lib.hid (rpTook w p cap k a W ⟨#[123]⟩ (ne_empty (by decide)) (by decide) hR hk)
  have HV := Lib.hid hv
  have HSel := Lib.hid hs
  clear hv hR hs
  go_enter Tryz.func42, Tryz.ntmps42
  go_wp2_with fail
  refine CT.out.mono ?_
  rintro e w1 ⟨b, rfl, ho, ht, hf⟩
  have HO1 := Lib.hid ho
  clear CT ho
  cases b
  · obtain ⟨hne, hR1⟩ := hf rfl
    have HN := Lib.hid hne
    have HR1 := Lib.hid hR1
    clear hf ht hne hR1
    go_wp2_with fail
    go_ret2
    exact ⟨_, _, k, rfl, HO1.out, Nat.le_refl _, hk, HR1.out, .inr ⟨rfl, rfl, fun ⟨s, W', h, _⟩ => HN.out h⟩⟩
  obtain ⟨hw, k1, hk1, hk2, hd, hR1⟩ := ht rfl
  have HW := Lib.hid hw
  have HD := Lib.hid hd
  have HR1 := Lib.hid hR1
  clear hf ht hw hd hR1
  go_wp2_with fail
  go_loopw [4] (fun v wr => ∃ (L : List RowS) (kc : Nat), k1 + L.length ≤ kc ∧ kc ≤ W.length ∧ Hid (Got L (W.drop k1) (W.drop kc)) ∧ OwnSel wr w.heap.size v L ∧ RdI wr p a cap W kc ∧ OnlyP p w wr) (fun v _ => 8002 - lenOf v)
  case atStart => exact ⟨[], k1, by simp, hk2, Lib.hid (got_start _), OwnSel.none_ _ _, HR1.out, HO1.out⟩
  case round =>
    obtain ⟨L, kc, hlk, hkc, hgot, hown, hR, hO⟩ := hrel
    have HOW := Lib.hid hown
    have HR := Lib.hid hR
    have HO := Lib.hid hO
    have hz := hO.size
    clear hown hR hO
    go_wp2_with fail
    refine (HSel.out wr p cap kc a W (by omega) HR.out hkc (HO.out.vars hplt HV.out)).mono ?_
    rintro e w2 ⟨kd, key, nm, f, a', cap', u, err, kx, rfl, ho2, h1, h2, hR2, hcase⟩
    have HO2 := Lib.hid (HO.out.trans ho2)
    have HR2 := Lib.hid hR2
    have HOW2 := Lib.hid (HOW.out.frame ho2.size (fun c c1 c2 => ho2.block c c2 (by omega)))
    have HLT : Hid (∀ g, u4.ownBlock = some g → g < wr.heap.size) := Lib.hid fun g hg => (HOW.out.own.lt g hg).2
    have hz2 := ho2.size
    have HHI : Hid (∀ q ∈ L, q.hi ≤ wr.heap.size) := Lib.hid fun q hq => (HOW.out.ok q hq).2.2.2.1
    clear ho2 hR2
    rcases hcase with ⟨rfl, hsx, hok, hro, hlt⟩ | ⟨rfl, hno⟩
    · have HX := Lib.hid hsx
      have HOK := Lib.hid hok
      have HRO := Lib.hid hro
      clear hsx hok hro
      have hb3 : Below w2.heap.size w2 ((w2.alloc (.cells #[.int .i64 kd, .string key, .string nm, .int .i64 f, .slice a' u.len cap'] 50)).alloc (.cells #[.int .i64 kd, .string key, .string nm, .int .i64 f, .slice a' u.len cap'] 50)) := ((Below.refl _ w2).alloc (Nat.le_refl _) _).alloc (by simp) _
      have HB3 := Lib.hid hb3
      have HC3 : Hid (((w2.alloc (.cells #[.int .i64 kd, .string key, .string nm, .int .i64 f, .slice a' u.len cap'] 50)).alloc (.cells #[.int .i64 kd, .string key, .string nm, .int .i64 f, .slice a' u.len cap'] 50)).heap[w2.heap.size + 1]? = some (.cells (RowS.cells ⟨kd, key, nm, f, a', cap', u, wr.heap.size, w2.heap.size⟩).toArray 50 (0, 0))) := Lib.hid (by
        have := heap_alloc_new (w2.alloc (.cells #[.int .i64 kd, .string key, .string nm, .int .i64 f, .slice a' u.len cap'] 50)) (.cells #[.int .i64 kd, .string key, .string nm, .int .i64 f, .slice a' u.len cap'] 50)
        rw [show (w2.alloc (.cells #[.int .i64 kd, .string key, .string nm, .int .i64 f, .slice a' u.len cap'] 50)).heap.size = w2.heap.size + 1 by simp] at this
        exact this)
      have HOW3 := Lib.hid (HOW2.out.frame hb3.size (fun c _ c2 => hb3.block c c2))
      have HX3 := Lib.hid (HX.out.below (Nat.le_refl _) hb3)
      have hz3 := hb3.size
      have hL : L.length + 1 ≤ 8001 := by omega
      have HO3 := Lib.hid (HO2.out.below (Nat.le_trans hz hz2) hb3)
      have HR3 := Lib.hid (HR2.out.below HR2.out.lt hb3)
      clear hb3
      go_wp2_with (at_builtin; refine app_sel rfl _ _ rfl w.heap.size u4 L rfl HOW3.out (w2.heap.size + 1) 1 rfl ⟨kd, key, nm, f, a', cap', u, wr.heap.size, w2.heap.size⟩ HC3.out ⟨HOK.out, HX3.out, hz, hz3, fun g hg => .inl (HLT.out g hg)⟩ HHI.out (by omega) (by omega) ?_; intro v4 w4 hown4 hb4)
      have HOW4 := Lib.hid hown4
      have HO4 := Lib.hid (HO3.out.below (Nat.le_refl _) hb4)
      have HR4 := Lib.hid (HR3.out.below hplt hb4)
      clear hown4 hb4
      refine (rpTook w4 p cap kx a W ⟨#[125]⟩ (ne_empty (by decide)) (by decide) HR4.out h2).mono ?_
      rintro e w5 ⟨b, rfl, ho5, ht, hf⟩
      have HO5 := Lib.hid (HO4.out.trans ho5)
      have HOW5 := Lib.hid (HOW4.out.frame ho5.size (fun c c1 c2 => ho5.block c c2 (by omega)))
      clear ho5
      cases b
      · obtain ⟨hne, hR5⟩ := hf rfl
        have HR5 := Lib.hid hR5
        have HG5 := Lib.hid (got_more (r := ⟨kd, key, nm, f, a', cap', u, wr.heap.size, w2.heap.size⟩) hgot.out HRO.out hne)
        clear ht hf hne hR5
        have hml : lenOf u4 = L.length := HOW.out.len.1
        have hml4 : lenOf v4 = L.length + 1 := by have := HOW4.out.len.1; simpa using this
        go_wp2_with fail
        go_roundw
        case rel => exact ⟨_, kx, by simp; omega, h2, HG5, HOW5.out, HR5.out, HO5.out⟩
        case measure => rw [hml, hml4]; omega
      · obtain ⟨hw5, k5, hk5, hk6, hd5, hR5⟩ := ht rfl
        have HR5 := Lib.hid hR5
        have HG5 := Lib.hid (got_end (r := ⟨kd, key, nm, f, a', cap', u, wr.heap.size, w2.heap.size⟩) hgot.out HRO.out hw5)
        have HD5 := Lib.hid hd5
        obtain ⟨a5, cap5, rfl, hcl, hsx5⟩ := HOW5.out.selsX (by simp; omega) HO5.out.size
        have HX5 := Lib.hid hsx5
        have HLEN := Lib.hid (rowsSels_len (L ++ [⟨kd, key, nm, f, a', cap', u, wr.heap.size, w2.heap.size⟩]))
        clear ht hf hw5 hR5 hd5 hsx5
        go_wp2_with fail
        go_ret2
        refine ⟨_, _, k5, rfl, HO5.out, by omega, hk6, HR5.out, .inl ⟨rfl, _, a5, cap5, (by rw [HLEN.out]; simp), by rw [HLEN.out]; exact HX5.out, HW.out, ?_, by omega⟩⟩
        rw [← HD.out, HD5.out]; exact HG5.out
    · have HNO := Lib.hid (got_none hgot.out hno)
      clear hno
      go_wp2_with fail
      go_ret2
      exact ⟨_, _, kx, rfl, HO2.out.below (by omega) ((Below.refl w.heap.size w2).alloc (by omega) _), by omega, h2, HR2.out.below HR2.out.lt ((Below.refl w2.heap.size w2).alloc (Nat.le_refl _) _), .inr ⟨rfl, rfl, fun ⟨s, W', h, g⟩ => HNO.out ⟨s, W', by rw [HD.out]; exact g⟩⟩⟩
theorem blockOk : ∀ n, BlockOk n
  | 0 => fun w p cap k a W h => absurd h (Nat.not_lt_zero _)
  | n + 1 => blockOk_succ n (selOk n (blockOk n))
end Go.Proofs.YtnkknfnndoegpaaGreatDoor.Selss
