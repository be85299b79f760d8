/-
  Contract: the model's reader of selections. Conditions: as each theorem says.
-/
import Derived.Test.YtnkknfnndoegpaaGreatDoorRows
import Derived.Test.YtnkknfnndoegpaaGreatDoorModRd
import Derived.Test.YtnkknfnndoegpaaGreatDoorNumP
import Derived.Deep.RegionHeld3
import Derived.Deep.QuietTactic
import Derived.BigQuiet
namespace Go.Proofs.YtnkknfnndoegpaaGreatDoor.Selss
open Go.RowKit Words Decs Splits
set_option linter.unusedVariables false
set_option maxRecDepth 100000

theorem numP_range (t : Tok) : OkI (numP t) := by
  unfold OkI
  by_cases h1 : t.length < 1 ∨ 9 < t.length ∨ (1 < t.length ∧ t.headD 0 = 48)
  · rw [numP_no h1]; omega
  · by_cases h2 : t.all digP = true
    · rw [numP_of h1 h2]
      obtain ⟨a, b⟩ := valP_range t.length t rfl h2
      have : (10 : Int) ^ t.length ≤ 10 ^ 9 := by
        have h9 : t.length ≤ 9 := by omega
        exact_mod_cast Nat.pow_le_pow_right (by omega) h9
      omega
    · have h3 : t.all digP = false := by simpa using h2
      rw [List.all_eq_false] at h3
      obtain ⟨c, hc, hd⟩ := h3
      rw [numP_bad hc (by simpa using hd)]; omega
theorem field_ok {t : Tok} (h : t.length ≤ 8000) : OkS (ub (fieldP t).1) ∧ OkS (ub (fieldP t).2.1) ∧ OkI (fieldP t).2.2 := by
  have hP := splitL_sizes 40 t
  have hH : ((splitL 40 t).headD []).length ≤ 8000 := by
    cases hs : splitL 40 t with
    | nil => simp
    | cons x l => have := hP x (by rw [hs]; simp); simp; omega
  have hK := splitL_sizes 58 ((splitL 40 t).headD [])
  refine ⟨?_, ?_, ?_⟩
  · unfold OkS fieldP; rw [ub_size]
    simp only
    cases hs : splitL 58 ((splitL 40 t).headD []) with
    | nil => simp
    | cons x l => have := hK x (by rw [hs]; simp); simp; omega
  · unfold OkS fieldP; rw [ub_size]
    simp only
    cases hs : splitL 58 ((splitL 40 t).headD []) with
    | nil => simp
    | cons x l =>
      have := hK ((x :: l).getLast (by simp)) (by rw [hs]; exact List.getLast_mem _)
      rw [List.getLastD_eq_getLast?, List.getLast?_eq_some_getLast (by simp)]
      simp only [Option.getD_some]; omega
  · unfold fieldP
    simp only
    split
    · exact numP_range _
    · unfold OkI; omega

theorem Rd.drewN {T : TypeId} {w : World} {p cap k : Nat} {a : Option Addr} {W : List Tok} (h : Rd T w p a cap W k) (n : Nat) : Rd T (w.drewN n) p a cap W k := ⟨h.hd, h.row, h.small, h.sizes⟩
theorem rdWordQ (w : World) (p cap k : Nat) (a : Option Addr) (W : List Tok) (h : Rd 36 w p a cap W k) (hk : k ≤ 1000000) :
    Calls Tryz.prog 11 #[.pointer (some ⟨p, 0, none⟩)] w fun e w' => e = .returned (.string (ub (word (W.drop k)))) ∧ ∃ m, w' = w.drewN m := by
  have ret_s : ∀ {a b : ByteArray}, a = b → Ending.returned (.string a) = .returned (.string b) := fun h => by rw [h]
  have c0 : w.cell? ⟨p, 0, none⟩ = some (.slice a W.length cap) := cell_of h.hd rfl
  have c1 : w.cell? ⟨p, 1, none⟩ = some (.int .i64 k) := cell_of h.hd rfl
  have hsm := h.small
  by_cases hlt : k < W.length
  · have hx : W[k]? = some W[k] := List.getElem?_eq_getElem hlt
    obtain ⟨b, off, rfl, hb, hc⟩ := h.row k _ hx
    have hf := Lib.hid (show ub W[k] = ub (word (W.drop k)) by rw [word_drop, List.getD_eq_getElem?_getD, hx]; rfl)
    have hli : (k : Int) < (W.length : Int) := by omega
    generalize W[k] = x at hx hc hf
    generalize W.length = n at *
    clear h hx hlt
    go_enter Tryz.func11, Tryz.ntmps11
    go_wp2_with fail
    go_region
    go_wp2_with fail
    go_region
    go_wp2_with fail
    go_ret
    exact ⟨ret_s hf.out, 2, rfl⟩
  · have hf := Lib.hid (show ByteArray.empty = ub (word (W.drop k)) by rw [List.drop_eq_nil_of_le (by omega)]; rfl)
    have hli : (W.length : Int) ≤ (k : Int) := by omega
    have hlj : ¬ ((k : Int) < (W.length : Int)) := by omega
    generalize W.length = n at *
    clear h hlt
    go_enter Tryz.func11, Tryz.ntmps11
    go_wp2_with fail
    go_region
    go_wp2_with fail
    go_ret
    exact ⟨ret_s hf.out, 1, rfl⟩
/-- Where a round stands behind its head: the selection in block g, the reader at kc. -/
theorem pLoop_step {sub : List Tok → Sels × List Tok} {m : Nat} {t : Tok} {W : List Tok} (ht : t ≠ [125]) :
    pLoop sub (m + 1) (t :: W) = if (headP t W).1 ≠ 3 ∧ word (headP t W).2.2.2.2 = [123] then
      (.cons (headP t W).1 (ub (headP t W).2.1) (ub (headP t W).2.2.1) (headP t W).2.2.2.1 (sub (headP t W).2.2.2.2).1 (pLoop sub m (sub (headP t W).2.2.2.2).2).1, (pLoop sub m (sub (headP t W).2.2.2.2).2).2)
    else (.cons (headP t W).1 (ub (headP t W).2.1) (ub (headP t W).2.2.1) (headP t W).2.2.2.1 .nil (pLoop sub m (headP t W).2.2.2.2).1, (pLoop sub m (headP t W).2.2.2.2).2) := by
  conv => lhs; unfold pLoop
  rw [if_neg ht]

theorem dummyN {P : Prop} (h : Nat → P) : P := h 0
theorem ext_take (t : Tok) : ((ub t).extract 0 3).toList = t.take 3 := by
  rw [Lib.toList_data, Lib.extract_from_zero]; simp [ub]
theorem ext_drop (t : Tok) : (ub t).extract 3 (ub t).size = ub (t.drop 3) := by
  apply bl_inj
  unfold bl
  rw [Lib.extract_data]
  simp [ub, ByteArray.size]
  exact List.take_of_length_le (by simp)
theorem set5_other (w : World) (g : Nat) (v0 v1 v2 v3 v4 : Value) (c : Nat) (h : c ≠ g) : (set5 w g v0 v1 v2 v3 v4).heap[c]? = w.heap[c]? := by
  unfold Selss.set5
  repeat rw [Go.Deep.blk_setCell_other _ ⟨g, _, none⟩ _ c h]
theorem come_sub {d : Nat} {W0 W' R : List Tok} {t key nm : Tok} {kd f : Int} {L : List RowS} (h : Come (pSels d) W0 L (t :: W')) (hL : L.length ≤ 60) (ht : t ≠ [125]) (hh : headP t W' = (kd, key, nm, f, R)) (hk : kd ≠ 3) (hw : word R = [123]) (r : RowS)
    (hr : r.k = kd ∧ r.key = ub key ∧ r.nm = ub nm ∧ r.f = f ∧ r.u = (pSels d R).1) : Come (pSels d) W0 (L ++ [r]) (pSels d R).2 := by
  refine come_more (m := 60 - L.length) h (by omega) ?_
  obtain ⟨h1, h2, h3, h4, h5⟩ := hr
  rw [pLoop_step ht, hh, if_pos ⟨hk, hw⟩, h1, h2, h3, h4, h5]
theorem come_flat {d : Nat} {W0 W' R : List Tok} {t key nm : Tok} {kd f : Int} {L : List RowS} (h : Come (pSels d) W0 L (t :: W')) (hL : L.length ≤ 60) (ht : t ≠ [125]) (hh : headP t W' = (kd, key, nm, f, R)) (hw : kd = 3 ∨ word R ≠ [123]) (r : RowS)
    (hr : r.k = kd ∧ r.key = ub key ∧ r.nm = ub nm ∧ r.f = f ∧ r.u = .nil) : Come (pSels d) W0 (L ++ [r]) R := by
  refine come_more (m := 60 - L.length) h (by omega) ?_
  obtain ⟨h1, h2, h3, h4, h5⟩ := hr
  rw [pLoop_step ht, hh, if_neg (fun e => by rcases hw with x | x; exact e.1 x; exact x e.2), h1, h2, h3, h4, h5]
/-- A store far from a row of the call's own leaves it. -/
theorem OwnSel.far {w w' : World} {base g : Nat} {v : Value} {L : List RowS} (h : OwnSel w base v L) (hz : w'.heap.size = w.heap.size) (hoth : ∀ c, c ≠ g → w'.heap[c]? = w.heap[c]?) (hv : ∀ gb, v.ownBlock = some gb → gb ≠ g) (hL : ∀ q ∈ L, q.hi ≤ g) : OwnSel w' base v L := by
  refine ⟨?_, h.order, fun r hr => ?_⟩
  · obtain ⟨hl, ⟨hv', hn⟩ | ⟨gb, cap, cur, hv', hb, hg, hc, hm, hs, ht⟩⟩ := h.own
    · exact ⟨hl, .inl ⟨hv', hn⟩⟩
    · exact ⟨hl, .inr ⟨gb, cap, cur, hv', hb, (hoth gb (hv gb (by rw [hv']; rfl))).trans hg, hc, hm, hs, ht⟩⟩
  · obtain ⟨h1, h2, h3, h4, h5⟩ := h.ok r hr
    exact ⟨h1, h2.block (fun c c1 c2 => hoth c (by have := hL r hr; omega)), h3, by omega, h5⟩

set_option maxHeartbeats 4000000 in
theorem modOk_succ (d : Nat) (hd : d ≤ 100) (ih : ModOk d) : ModOk (d + 1) := by
  intro w p cap k a W hR hk
  have hplt := hR.lt
  have hsm := hR.small
  have IH := Lib.hid ih
  have HWL := Lib.hid (fun k => word_len hR.sizes k)
  have HA : Hid (∀ o, Below w.heap.size w (w.alloc o)) := Lib.hid fun o => (Below.refl _ _).alloc (Nat.le_refl _) o
  have HR0 : Hid (∀ o, RdS (w.alloc o) p a cap W k) := Lib.hid fun o => hR.below hplt (HA.out o)
  have HOW : Hid (OwnSel (w.alloc (.cells #[] 50)) w.heap.size (.slice (some ⟨w.heap.size, 0, none⟩) 0 0) []) := Lib.hid (OwnSel.made w w.heap.size (Nat.le_refl _))
  clear hR ih
  go_enter Tryz.func10, Tryz.ntmps10
  go_wp2_with fail
  refine (rdNext _ p cap k a W (HR0.out _) (by omega)).mono ?_
  rintro e w1 ⟨rfl, hR1, ho⟩
  have HR1 := Lib.hid hR1
  have HO1 := Lib.hid (((OnlyP.refl p w).below (Nat.le_refl _) (HA.out _)).trans ho)
  have HOW1 := Lib.hid (HOW.out.frame ho.size (fun c c1 c2 => ho.block c c2 (by omega)))
  have HX : Hid (SelsX w1 w.heap.size w1.heap.size (some ⟨w.heap.size, 0, none⟩) 0 .nil) := by
    obtain ⟨a5, cap5, h5, h6, hsx⟩ := HOW1.out.selsX (by simp) HO1.out.size
    injection h5 with h5 h7 h8
    rw [← h5] at hsx; exact Lib.hid hsx
  clear hR1 ho HR0 HOW
  have HDR := Lib.hid (show W.drop (k + 1) = (W.drop k).drop 1 by rw [List.drop_drop])
  by_cases hw : word (W.drop k) = [123]
  · have hx : (ub (word (W.drop k))).toList = [123] := by rw [toList_ub]; exact hw
    have hxb : ((ub (word (W.drop k))).toList == [123]) = true := by rw [hx]; rfl
    have HP : Hid (pSels (d + 1) (W.drop k) = ((pLoop (pSels d) 61 (W.drop (k + 1))).1, (pLoop (pSels d) 61 (W.drop (k + 1))).2.drop 1)) := Lib.hid (by
      rw [pSels, if_pos hw, HDR.out])
    have hdi : ¬ (((d + 1 : Nat) : Int) ≤ 0) := by omega
    have hdi2 : 0 < (((d + 1 : Nat) : Int)) := by omega
    clear HX hw
    generalize ub (word (W.drop k)) = x at *
    go_wp2_with fail
    go_loopw [5] (fun v wr => ∃ (L : List RowS) (kc : Nat), L.length ≤ 61 ∧ k + 1 ≤ kc ∧ kc ≤ max k W.length + 1 + 10 * (d + 1) ∧ Hid (Come (pSels d) (W.drop (k + 1)) L (W.drop kc)) ∧ OwnSel wr w.heap.size v L ∧ RdS wr p a cap W kc ∧ OnlyP p w wr) (fun v _ => 61 - lenOf v)
    case atStart => exact ⟨[], k + 1, by simp, by omega, by omega, Lib.hid (come_start _ _), HOW1.out, HR1.out, HO1.out⟩
    case round =>
      obtain ⟨L, kc, hL, hkc1, hkc2, hcome, hown, hR, hO⟩ := hrel
      have HOW := Lib.hid hown
      have HR := Lib.hid hR
      have HO := Lib.hid hO
      have hz := hO.size
      clear hown hR hO
      obtain ⟨hln, ao, co, rfl⟩ := HOW.out.len
      have c0 : wr.cell? ⟨p, 0, none⟩ = some (.slice a W.length cap) := cell_of HR.out.hd rfl
      have c1 : wr.cell? ⟨p, 1, none⟩ = some (.int .i64 kc) := cell_of HR.out.hd rfl
      have CW := Lib.hid (fun n => rdWordQ (wr.drewN n) p cap kc a W (HR.out.drewN n) (by omega))
      have f1 := frozen_of_row wr p 1 _ _ HR.out.hd
      have HEND : Hid (∀ n, RdS ((wr.drewN n).setCell ⟨p, 1, none⟩ (.int .i64 ((kc : Int) + 1))) p a cap W (kc + 1) ∧ OnlyP p w ((wr.drewN n).setCell ⟨p, 1, none⟩ (.int .i64 ((kc : Int) + 1))) ∧ SelsX ((wr.drewN n).setCell ⟨p, 1, none⟩ (.int .i64 ((kc : Int) + 1))) w.heap.size ((wr.drewN n).setCell ⟨p, 1, none⟩ (.int .i64 ((kc : Int) + 1))).heap.size ao L.length (rowsSels L)) := Lib.hid fun n => by
        have hRn := HR.out.drewN n
        refine ⟨⟨heap_setCell_same (wr.drewN n) p 1 _ _ _ hRn.hd, fun i x hx => ?_, hRn.small, hRn.sizes⟩, (HO.out.below (Nat.le_refl _) (⟨rfl, rfl, rfl, Nat.le_refl _, fun _ _ => rfl⟩ : Below _ wr (wr.drewN n))).trans ⟨rfl, rfl, rfl, by simp, fun q _ hq => Go.Deep.blk_setCell_other (wr.drewN n) ⟨p, 1, none⟩ _ q hq⟩, ?_⟩
        · obtain ⟨b, off, ha, hb, hc⟩ := hRn.row i x hx
          have hne : b ≠ p := by omega
          exact ⟨b, off, ha, hb, (World.cell?_setCell_other _ _ _ _ (by simp)).trans hc⟩
        · obtain ⟨a5, cap5, h5, h6, hsx⟩ := HOW.out.selsX (by omega) hz
          injection h5 with h5 h7 h8
          rw [← h5] at hsx
          exact (hsx.block (w' := (wr.drewN n).setCell ⟨p, 1, none⟩ (.int .i64 ((kc : Int) + 1))) fun c x1 x2 => (Go.Deep.blk_setCell_other (wr.drewN n) ⟨p, 1, none⟩ _ c (by show c ≠ p; omega)).trans rfl).wide (Nat.le_refl _) (by simp)
      by_cases hstop : word (W.drop kc) = [125]
      · have y1 : (ub (word (W.drop kc))).toList = [125] := by rw [toList_ub]; exact hstop
        have y2 : ((ub (word (W.drop kc))).toList == [125]) = true := by rw [y1]; rfl
        have HE := Lib.hid (come_end hcome.out (.inr (.inr hstop)) hL)
        have HP1 : Hid ((pSels (d + 1) (W.drop k)).1 = rowsSels L) := Lib.hid (by rw [HP.out]; exact HE.out.1)
        have HP2 : Hid (W.drop (kc + 1) = (pSels (d + 1) (W.drop k)).2) := Lib.hid (by rw [HP.out, HE.out.2, List.drop_drop])
        clear hstop
        generalize ub (word (W.drop kc)) = y at *
        go_wp2_with fail
        go_quiet ((go_at_call 11; exact Calls.quiet_of (CW.out _)))
        go_wp2_with fail
        all_goals go_ret
        all_goals exact ⟨ao, co, kc + 1, by rw [HP1.out, rowsSels_len]; rfl, by rw [HP1.out, rowsSels_len]; exact (HEND.out _).2.2, (HEND.out _).1, HP2, by omega, by omega, (HEND.out _).2.1⟩
      have y1 : (ub (word (W.drop kc))).toList ≠ [125] := by rw [toList_ub]; exact hstop
      have y2 : ((ub (word (W.drop kc))).toList == [125]) = false := beq_eq_false_iff_ne.2 y1
      by_cases hlt : kc < W.length
      · have hli : (kc : Int) < (W.length : Int) := by omega
        by_cases hll : L.length = 61
        · have HE := Lib.hid (come_end hcome.out (.inr (.inl hll)) hL)
          have HP1 : Hid ((pSels (d + 1) (W.drop k)).1 = rowsSels L) := Lib.hid (by rw [HP.out]; exact HE.out.1)
          have HP2 : Hid (W.drop (kc + 1) = (pSels (d + 1) (W.drop k)).2) := Lib.hid (by rw [HP.out, HE.out.2, List.drop_drop])
          have hlj : ¬ ((L.length : Int) ≤ 60) := by omega
          have hlk : (60 : Int) < (L.length : Int) := by omega
          clear hstop hll
          generalize ub (word (W.drop kc)) = y at *
          go_wp2_with fail
          go_quiet ((go_at_call 11; exact Calls.quiet_of (CW.out _)))
          go_wp2_with fail
          all_goals go_ret
          all_goals exact ⟨ao, co, kc + 1, by rw [HP1.out, rowsSels_len]; rfl, by rw [HP1.out, rowsSels_len]; exact (HEND.out _).2.2, (HEND.out _).1, HP2, by omega, by omega, (HEND.out _).2.1⟩
        have hlj : (L.length : Int) ≤ 60 := by omega
        have HT : Hid (word (W.drop kc) ≠ [125]) := Lib.hid hstop
        have CN := Lib.hid (fun w' (h : RdS w' p a cap W kc) => rdNext w' p cap kc a W h (by omega))
        obtain ⟨y, hy⟩ : ∃ y, ub (word (W.drop kc)) = y := ⟨_, rfl⟩
        rw [hy] at CW CN y1 y2
        have HY := Lib.hid hy
        have hyt : y.toList = word (W.drop kc) := by rw [← hy, toList_ub]
        have hyz : y.size ≤ 8000 := by rw [← hy, ub_size]; exact HWL.out kc
        have HLT : Hid (∀ g, (Value.slice ao L.length co).ownBlock = some g → g < wr.heap.size) := Lib.hid fun g hg => (HOW.out.own.lt g hg).2
        have HHI : Hid (∀ q ∈ L, q.hi ≤ wr.heap.size) := Lib.hid fun q hq => (HOW.out.ok q hq).2.2.2.1
        clear hstop hy
        by_cases hon : word (W.drop kc) = [46, 46, 46, 111, 110]
        · have z1 : y.toList = [46, 46, 46, 111, 110] := by rw [hyt]; exact hon
          have z2 : (y.toList == [46, 46, 46, 111, 110]) = true := by rw [z1]; rfl
          have HHP : Hid (headP (word (W.drop kc)) (W.drop (kc + 1)) = (2, [], word (W.drop (kc + 1)), -1, W.drop (kc + 1 + 1))) := Lib.hid (by unfold headP; rw [if_pos hon, List.drop_drop])
          clear hyt hon
          go_wp2_with fail
          go_quiet ((go_at_call 11; exact Calls.quiet_of (CW.out _)))
          go_wp2_with fail
          refine (CN.out _ (HR.out.drewN nq)).mono ?_
          rintro e w2 ⟨rfl, hR2, ho2⟩
          have ho2' : OnlyP p wr w2 := ((OnlyP.refl p wr).below (Nat.le_refl _) (⟨rfl, rfl, rfl, Nat.le_refl _, fun _ _ => rfl⟩ : Below _ wr (wr.drewN nq))).trans ho2
          have HO2 := Lib.hid (HO.out.trans ho2')
          have HR2 := Lib.hid hR2
          have HOW2 := Lib.hid (HOW.out.frame ho2'.size (fun c c1 c2 => ho2'.block c c2 (by omega)))
          have hz2 := ho2'.size
          clear hR2 ho2 ho2' c0 c1 f1 HEND HR HO HOW CW CN
          have hA2 : Below w2.heap.size w2 (w2.alloc (.cells #[.int .i64 2, .string ⟨#[]⟩, .string ⟨#[]⟩, .int .i64 (-1), .slice none 0 0] 50)) := (Below.refl _ _).alloc (Nat.le_refl _) _
          have hx2 := heap_alloc_new w2 (.cells #[.int .i64 2, .string ⟨#[]⟩, .string ⟨#[]⟩, .int .i64 (-1), .slice none 0 0] 50)
          have OA := Lib.hid (HO2.out.below (Nat.le_trans hz hz2) hA2)
          have RA := Lib.hid (HR2.out.below HR2.out.lt hA2)
          have OWA := Lib.hid (HOW2.out.frame hA2.size (fun c _ c2 => hA2.block c c2))
          clear hA2
          go_wp2_with fail
          refine (rdNext _ p cap (kc + 1) a W RA.out (by omega)).mono ?_
          rintro e w3 ⟨rfl, hR3, ho3⟩
          have hs3 := (ho3.block w2.heap.size (lt_of_get hx2) (by omega)).trans hx2
          have O3 := Lib.hid (OA.out.trans ho3)
          have OW3 := Lib.hid (OWA.out.frame ho3.size (fun c c1 c2 => ho3.block c c2 (by omega)))
          obtain ⟨nm, hnm⟩ : ∃ nm, ub (word (W.drop (kc + 1))) = nm := ⟨_, rfl⟩
          rw [hnm]
          have HNM := Lib.hid hnm
          have HOK : Hid (OkI 2 ∧ OkS ⟨#[]⟩ ∧ OkS nm ∧ OkI (-1)) := Lib.hid ⟨by unfold OkI; omega, by unfold OkS; decide, by rw [← hnm]; exact okS_ub (HWL.out _), by unfold OkI; omega⟩
          have R3 := Lib.hid hR3
          clear hnm hR3 ho3 hx2
          have hgs := lt_of_get hs3
          have hs := set_cell2 hs3 (.string nm)
          have RZ := Lib.hid (Rd.put R3.out (g := w2.heap.size) (j := 2) (by omega) (.string nm))
          have OZ := Lib.hid (O3.out.put (g := w2.heap.size) (j := 2) (by omega) (.string nm))
          have OWZ := Lib.hid (OW3.out.far (w' := w3.setCell ⟨w2.heap.size, 2, none⟩ (.string nm)) (g := w2.heap.size) (by simp) (fun c hc => set_other w3 hc _) (fun gb hgb => by have := HLT.out gb hgb; omega) (fun q hq => by have := HHI.out q hq; omega))
          have ⟨⟨e0, e1, e2, e3, e4⟩, p0, p1, p2, p3, p4⟩ := keep5 hs3
          have HSZ := Lib.hid hs
          clear hs
          go_wp2_with fail
          have hs := HSZ.out
          clear e0 e1 e2 e3 e4 p0 p1 p2 p3 p4 hs3 hgs HSZ R3 O3 OW3 OA RA OWA HO2 HR2 HOW2
          generalize w3.setCell ⟨w2.heap.size, 2, none⟩ (.string nm) = wz at *
          obtain ⟨kz, hkz⟩ : ∃ kz, kc + 1 + 1 = kz := ⟨_, rfl⟩
          rw [hkz] at RZ HHP
          have HSUB : Hid (word (W.drop kz) = [123] → ∀ u, u = (pSels d (W.drop kz)).1 → ∀ V', V' = (pSels d (W.drop kz)).2 → ∀ a' cap' lo hi, Come (pSels d) (W.drop (k + 1)) (L ++ [⟨2, ⟨#[]⟩, nm, (-1), a', cap', u, lo, hi⟩]) V') := Lib.hid fun hw u hu V' hv a' cap' lo hi => by
            subst hu; subst hv
            have hc := hcome.out
            rw [drop_word hlt] at hc
            exact come_sub hc (by omega) HT.out HHP.out (by omega) hw _ ⟨rfl, rfl, HNM.out.symm, rfl, rfl⟩
          have HFLAT : Hid ((((2 : Int) = 3) ∨ word (W.drop kz) ≠ [123]) → ∀ a' cap' lo hi, Come (pSels d) (W.drop (k + 1)) (L ++ [⟨2, ⟨#[]⟩, nm, (-1), a', cap', .nil, lo, hi⟩]) (W.drop kz)) := Lib.hid fun hw a' cap' lo hi => by
            have hc := hcome.out
            rw [drop_word hlt] at hc
            exact come_flat hc (by omega) HT.out HHP.out hw _ ⟨rfl, rfl, HNM.out.symm, rfl, rfl⟩
          generalize w2.heap.size = g at *
          have hgz := lt_of_get hs
          have hpg : p ≠ g := by omega
          have c0z : wz.cell? ⟨p, 0, none⟩ = some (.slice a W.length cap) := cell_of RZ.out.hd rfl
          have c1z : wz.cell? ⟨p, 1, none⟩ = some (.int .i64 kz) := cell_of RZ.out.hd rfl
          have CWZ := Lib.hid (rdWordQ wz p cap kz a W RZ.out (by omega))
          have ⟨⟨e0, e1, e2, e3, e4⟩, p0, p1, p2, p3, p4⟩ := keep5 hs
          by_cases hw : word (W.drop kz) = [123]
          · have HW := Lib.hid hw
            have z1 : (ub (word (W.drop kz))).toList = [123] := by rw [toList_ub]; exact hw
            have z2 : ((ub (word (W.drop kz))).toList == [123]) = true := by rw [z1]; rfl
            clear hw
            generalize ub (word (W.drop kz)) = yz at *
            refine CWZ.out.mono ?_
            rintro e wq0 ⟨rfl, nq, rfl⟩
            have hsq : (wz.drewN nq).heap[g]? = _ := hs
            have RQ := Lib.hid (RZ.out.drewN nq)
            have OQ : Hid (OnlyP p w (wz.drewN nq)) := Lib.hid (OZ.out.below (Nat.le_refl _) (⟨rfl, rfl, rfl, Nat.le_refl _, fun _ _ => rfl⟩ : Below _ wz (wz.drewN nq)))
            have OWQ : Hid (OwnSel (wz.drewN nq) w.heap.size (.slice ao L.length co) L) := Lib.hid (OWZ.out.frame (w' := wz.drewN nq) (Nat.le_refl _) fun _ _ _ => rfl)
            have hszq : wz.heap.size ≤ (wz.drewN nq).heap.size := Nat.le_refl _
            clear e0 e1 e2 e3 e4 p0 p1 p2 p3 p4 hs RZ OZ OWZ c0z c1z CWZ
            generalize wz.drewN nq = wq at *
            have hs := hsq
            clear hsq
            have ⟨⟨e0, e1, e2, e3, e4⟩, p0, p1, p2, p3, p4⟩ := keep5 hs
            have hgq := lt_of_get hs
            go_wp2_with fail
            refine (IH.out wq p cap kz a W RQ.out (by omega)).mono ?_
            rintro e w5 ⟨a', cap', kv, rfl, hsx, hR5, hdv, h1, h2, ho5⟩
            have hs5 := (ho5.block g hgq (by omega)).trans hs
            have hz5 := ho5.size
            obtain ⟨u, hu⟩ : ∃ u, (pSels d (W.drop kz)).1 = u := ⟨_, rfl⟩
            rw [hu] at hsx ⊢
            have HU := Lib.hid hu
            have hs6 := set_cell4 hs5 (.slice a' u.len cap')
            have hoth : ∀ c, c ≠ g → (w5.setCell ⟨g, 4, none⟩ (.slice a' u.len cap')).heap[c]? = w5.heap[c]? := fun c hc => set_other w5 hc _
            have HX6 := Lib.hid (hsx.block (w' := w5.setCell ⟨g, 4, none⟩ (.slice a' u.len cap')) fun c x1 x2 => hoth c (by omega))
            have O6 := Lib.hid ((OQ.out.trans ho5).put (g := g) (j := 4) (by omega) (.slice a' u.len cap'))
            have R6 := Lib.hid (Rd.put hR5 (g := g) (j := 4) (by omega) (.slice a' u.len cap'))
            have OW5 := Lib.hid (OWQ.out.frame ho5.size (fun c c1 c2 => ho5.block c c2 (by omega)))
            have HOWNB : ∀ gb, (Value.slice ao L.length co).ownBlock = some gb → gb ≠ g := fun gb hgb => by have := HLT.out gb hgb; omega
            have OW6 := Lib.hid (OW5.out.far (w' := w5.setCell ⟨g, 4, none⟩ (.slice a' u.len cap')) (by simp) hoth HOWNB (fun q hq => by have := HHI.out q hq; omega))
            have HDV := hdv
            have hsz6 : (w5.setCell ⟨g, 4, none⟩ (.slice a' u.len cap')).heap.size = w5.heap.size := by simp
            have ⟨⟨s0, s1, s2, s3, s4⟩, q0, q1, q2, q3, q4⟩ := keep5 hs5
            have ⟨⟨t0, t1, t2, t3, t4⟩, r0, r1, r2, r3, r4⟩ := keep5 hs6
            clear hsx hR5 hdv ho5 hu e0 e1 e2 e3 e4 p0 p1 p2 p3 p4 hs RQ OQ OWQ OW5
            have hs := hs6
            have RQ := R6
            have OQ := O6
            have OWQ := OW6
            have hb3 : Below (w5.setCell ⟨g, 4, none⟩ (.slice a' u.len cap')).heap.size (w5.setCell ⟨g, 4, none⟩ (.slice a' u.len cap')) ((w5.setCell ⟨g, 4, none⟩ (.slice a' u.len cap')).alloc (.cells #[.int .i64 2, .string ⟨#[]⟩, .string nm, .int .i64 (-1), .slice a' u.len cap'] 50)) := (Below.refl _ (w5.setCell ⟨g, 4, none⟩ (.slice a' u.len cap'))).alloc (Nat.le_refl _) _
            have HC3 : Hid (((w5.setCell ⟨g, 4, none⟩ (.slice a' u.len cap')).alloc (.cells #[.int .i64 2, .string ⟨#[]⟩, .string nm, .int .i64 (-1), .slice a' u.len cap'] 50)).heap[w5.heap.size]? = some (.cells (RowS.cells ⟨2, ⟨#[]⟩, nm, (-1), a', cap', u, wq.heap.size, w5.heap.size⟩).toArray 50 (0, 0))) := Lib.hid (by rw [← hsz6]; exact heap_alloc_new (w5.setCell ⟨g, 4, none⟩ (.slice a' u.len cap')) _)
            have HOW3 := Lib.hid (OWQ.out.frame hb3.size (fun c _ c2 => hb3.block c c2))
            have HX3 := Lib.hid ((HX6.out).below (Nat.le_of_eq hsz6.symm) hb3)
            have hz3 : w5.heap.size ≤ ((w5.setCell ⟨g, 4, none⟩ (.slice a' u.len cap')).alloc (.cells #[.int .i64 2, .string ⟨#[]⟩, .string nm, .int .i64 (-1), .slice a' u.len cap'] 50)).heap.size := by have := hb3.size; omega
            have HO3 := Lib.hid (OQ.out.below OQ.out.size hb3)
            have HR3 := Lib.hid (RQ.out.below RQ.out.lt hb3)
            have HLO : Hid (∀ q ∈ L, q.hi ≤ wq.heap.size) := Lib.hid fun q hq => Nat.le_trans (HHI.out q hq) (by omega)
            have HOB : Hid (∀ g, (Value.slice ao L.length co).ownBlock = some g → g < wq.heap.size) := Lib.hid fun g hg => Nat.lt_of_lt_of_le (HLT.out g hg) (by omega)
            have hlo : w.heap.size ≤ wq.heap.size := by omega
            have hwz3 : w.heap.size ≤ ((w5.setCell ⟨g, 4, none⟩ (.slice a' u.len cap')).alloc (.cells #[.int .i64 2, .string ⟨#[]⟩, .string nm, .int .i64 (-1), .slice a' u.len cap'] 50)).heap.size := by omega
            have ⟨⟨e0, e1, e2, e3, e4⟩, p0, p1, p2, p3, p4⟩ := keep5 hs
            clear hb3
            go_wp2_with (at_builtin; refine app_sel rfl _ _ rfl w.heap.size (.slice ao L.length co) L rfl HOW3.out w5.heap.size 1 rfl ⟨2, ⟨#[]⟩, nm, (-1), a', cap', u, wq.heap.size, w5.heap.size⟩ HC3.out ⟨HOK.out, HX3.out, hlo, hz3, fun g hg => .inl (HOB.out g hg)⟩ HLO.out (by omega) hwz3 ?_; intro v4 w4 hown4 hb4)
            have HOW4 := Lib.hid hown4
            have HO4 := Lib.hid (HO3.out.below (Nat.le_refl _) hb4)
            have HR4 := Lib.hid (HR3.out.below hplt hb4)
            have hml4 : lenOf v4 = L.length + 1 := by have := hown4.len.1; simpa using this
            clear hown4 hb4
            have HCM := Lib.hid (HSUB.out HW.out _ HU.out.symm _ HDV.out a' cap' wq.heap.size w5.heap.size)
            go_roundw
            case rel => exact ⟨L ++ [⟨2, ⟨#[]⟩, nm, (-1), a', cap', u, wq.heap.size, w5.heap.size⟩], kv, by simp; omega, by omega, by omega, HCM, HOW4.out, HR4.out, HO4.out⟩
            case measure => rw [hml4]; show 61 - (L.length + 1) < 61 - L.length; omega
          · have HW := Lib.hid hw
            have z1 : (ub (word (W.drop kz))).toList ≠ [123] := by rw [toList_ub]; exact hw
            have z2 : ((ub (word (W.drop kz))).toList == [123]) = false := beq_eq_false_iff_ne.2 z1
            clear hw
            generalize ub (word (W.drop kz)) = yz at *
            refine CWZ.out.mono ?_
            rintro e wq0 ⟨rfl, nq, rfl⟩
            have hsq : (wz.drewN nq).heap[g]? = _ := hs
            have RQ := Lib.hid (RZ.out.drewN nq)
            have OQ : Hid (OnlyP p w (wz.drewN nq)) := Lib.hid (OZ.out.below (Nat.le_refl _) (⟨rfl, rfl, rfl, Nat.le_refl _, fun _ _ => rfl⟩ : Below _ wz (wz.drewN nq)))
            have OWQ : Hid (OwnSel (wz.drewN nq) w.heap.size (.slice ao L.length co) L) := Lib.hid (OWZ.out.frame (w' := wz.drewN nq) (Nat.le_refl _) fun _ _ _ => rfl)
            have hszq : wz.heap.size ≤ (wz.drewN nq).heap.size := Nat.le_refl _
            clear e0 e1 e2 e3 e4 p0 p1 p2 p3 p4 hs RZ OZ OWZ c0z c1z CWZ
            generalize wz.drewN nq = wq at *
            have hs := hsq
            clear hsq
            have hb3 : Below wq.heap.size wq (wq.alloc (.cells #[.int .i64 2, .string ⟨#[]⟩, .string nm, .int .i64 (-1), .slice none 0 0] 50)) := (Below.refl _ wq).alloc (Nat.le_refl _) _
            have HC3 : Hid ((wq.alloc (.cells #[.int .i64 2, .string ⟨#[]⟩, .string nm, .int .i64 (-1), .slice none 0 0] 50)).heap[wq.heap.size]? = some (.cells (RowS.cells ⟨2, ⟨#[]⟩, nm, (-1), none, 0, .nil, wq.heap.size, wq.heap.size⟩).toArray 50 (0, 0))) := Lib.hid (heap_alloc_new wq _)
            have HOW3 := Lib.hid (OWQ.out.frame hb3.size (fun c _ c2 => hb3.block c c2))
            have HX3 := Lib.hid ((show SelsX wq wq.heap.size wq.heap.size none 0 .nil from ⟨rfl, Nat.zero_le _, Nat.le_refl _, .inl rfl⟩).below (Nat.le_refl _) hb3)
            have hz3 : wq.heap.size ≤ (wq.alloc (.cells #[.int .i64 2, .string ⟨#[]⟩, .string nm, .int .i64 (-1), .slice none 0 0] 50)).heap.size := hb3.size
            have HO3 := Lib.hid (OQ.out.below OQ.out.size hb3)
            have HR3 := Lib.hid (RQ.out.below RQ.out.lt hb3)
            have HLO : Hid (∀ q ∈ L, q.hi ≤ wq.heap.size) := Lib.hid fun q hq => Nat.le_trans (HHI.out q hq) (by omega)
            have HOB : Hid (∀ g, (Value.slice ao L.length co).ownBlock = some g → g < wq.heap.size) := Lib.hid fun g hg => Nat.lt_of_lt_of_le (HLT.out g hg) (by omega)
            have hlo : w.heap.size ≤ wq.heap.size := by omega
            have hwz3 : w.heap.size ≤ (wq.alloc (.cells #[.int .i64 2, .string ⟨#[]⟩, .string nm, .int .i64 (-1), .slice none 0 0] 50)).heap.size := by omega
            have ⟨⟨e0, e1, e2, e3, e4⟩, p0, p1, p2, p3, p4⟩ := keep5 hs
            clear hb3
            go_wp2_with (at_builtin; refine app_sel rfl _ _ rfl w.heap.size (.slice ao L.length co) L rfl HOW3.out wq.heap.size 1 rfl ⟨2, ⟨#[]⟩, nm, (-1), none, 0, .nil, wq.heap.size, wq.heap.size⟩ HC3.out ⟨HOK.out, HX3.out, hlo, hz3, fun g hg => .inl (HOB.out g hg)⟩ HLO.out (by omega) hwz3 ?_; intro v4 w4 hown4 hb4)
            have HOW4 := Lib.hid hown4
            have HO4 := Lib.hid (HO3.out.below (Nat.le_refl _) hb4)
            have HR4 := Lib.hid (HR3.out.below hplt hb4)
            have hml4 : lenOf v4 = L.length + 1 := by have := hown4.len.1; simpa using this
            clear hown4 hb4
            have HCM := Lib.hid (HFLAT.out (.inr HW.out) none 0 wq.heap.size wq.heap.size)
            go_roundw
            case rel => exact ⟨L ++ [⟨2, ⟨#[]⟩, nm, (-1), none, 0, .nil, wq.heap.size, wq.heap.size⟩], kz, by simp; omega, by omega, by omega, HCM, HOW4.out, HR4.out, HO4.out⟩
            case measure => rw [hml4]; show 61 - (L.length + 1) < 61 - L.length; omega
        have z1 : y.toList ≠ [46, 46, 46, 111, 110] := by rw [hyt]; exact hon
        have z2 : (y.toList == [46, 46, 46, 111, 110]) = false := beq_eq_false_iff_ne.2 z1
        by_cases hsp : 3 < (word (W.drop kc)).length ∧ (word (W.drop kc)).take 3 = [46, 46, 46]
        · have hyl := Lib.hid (show y.size = (word (W.drop kc)).length by rw [← HY.out, ub_size])
          have hy3 : (3 : Int) < (y.size : Int) := by have := hyl.out; omega
          have hy4 : (3 : Int) ≤ (y.size : Int) := by omega
          have x1 : (y.extract 0 3).toList = [46, 46, 46] := by rw [← HY.out, ext_take]; exact hsp.2
          have x2 : ((y.extract 0 3).toList == [46, 46, 46]) = true := by rw [x1]; rfl
          have hnm : y.extract 3 y.size = ub ((word (W.drop kc)).drop 3) := by rw [← HY.out]; exact ext_drop _
          have HOK : Hid (OkI 3 ∧ OkS ⟨#[]⟩ ∧ OkS (y.extract 3 y.size) ∧ OkI (-1)) := Lib.hid ⟨by unfold OkI; omega, by unfold OkS; decide, by rw [hnm]; exact okS_ub (by rw [List.length_drop]; have := HWL.out kc; omega), by unfold OkI; omega⟩
          have HHP : Hid (headP (word (W.drop kc)) (W.drop (kc + 1)) = (3, [], (word (W.drop kc)).drop 3, -1, W.drop (kc + 1))) := Lib.hid (by unfold headP; rw [if_neg hon, if_pos hsp])
          obtain ⟨nm, hne⟩ : ∃ nm, y.extract 3 y.size = nm := ⟨_, rfl⟩
          have HNM := Lib.hid (hne.symm.trans hnm)
          rw [hne] at HOK
          have HNE := Lib.hid hne
          clear hyt hnm hne hon hsp
          go_wp2_with fail
          go_quiet ((go_at_call 11; exact Calls.quiet_of (CW.out _)))
          go_wp2_with fail
          refine (CN.out _ (HR.out.drewN nq)).mono ?_
          rintro e w2 ⟨rfl, hR2, ho2⟩
          have ho2' : OnlyP p wr w2 := ((OnlyP.refl p wr).below (Nat.le_refl _) (⟨rfl, rfl, rfl, Nat.le_refl _, fun _ _ => rfl⟩ : Below _ wr (wr.drewN nq))).trans ho2
          have HO2 := Lib.hid (HO.out.trans ho2')
          have HR2 := Lib.hid hR2
          have HOW2 := Lib.hid (HOW.out.frame ho2'.size (fun c c1 c2 => ho2'.block c c2 (by omega)))
          have hz2 := ho2'.size
          clear hR2 ho2 ho2' c0 c1 f1 HEND HR HO HOW CW CN
          have hcq : ∀ e3, e3 = y.extract 3 y.size → e3 = nm := fun _ h => h.trans HNE.out
          have HCM : Hid (Come (pSels d) (W.drop (k + 1)) (L ++ [⟨3, ⟨#[]⟩, nm, (-1), none, 0, .nil, w2.heap.size, w2.heap.size⟩]) (W.drop (kc + 1))) := Lib.hid (by
            have hc := hcome.out
            rw [drop_word hlt] at hc
            exact come_flat hc (by omega) HT.out HHP.out (.inl rfl) _ ⟨rfl, rfl, HNM.out, rfl, rfl⟩)
          rw [show nm = y.extract 3 y.size from HNE.out.symm] at HCM HOK
          clear HNM HNE hcq
          have hb3 : Below w2.heap.size w2 ((w2.alloc (.cells #[.int .i64 3, .string ⟨#[]⟩, .string (y.extract 3 y.size), .int .i64 (-1), .slice none 0 0] 50)).alloc (.cells #[.int .i64 3, .string ⟨#[]⟩, .string (y.extract 3 y.size), .int .i64 (-1), .slice none 0 0] 50)) := ((Below.refl _ w2).alloc (Nat.le_refl _) _).alloc (by simp) _
          have HC3 : Hid (((w2.alloc (.cells #[.int .i64 3, .string ⟨#[]⟩, .string (y.extract 3 y.size), .int .i64 (-1), .slice none 0 0] 50)).alloc (.cells #[.int .i64 3, .string ⟨#[]⟩, .string (y.extract 3 y.size), .int .i64 (-1), .slice none 0 0] 50)).heap[w2.heap.size + 1]? = some (.cells (RowS.cells ⟨3, ⟨#[]⟩, (y.extract 3 y.size), (-1), none, 0, .nil, w2.heap.size, w2.heap.size⟩).toArray 50 (0, 0))) := Lib.hid (by
            have := heap_alloc_new (w2.alloc (.cells #[.int .i64 3, .string ⟨#[]⟩, .string (y.extract 3 y.size), .int .i64 (-1), .slice none 0 0] 50)) (.cells #[.int .i64 3, .string ⟨#[]⟩, .string (y.extract 3 y.size), .int .i64 (-1), .slice none 0 0] 50)
            rw [show (w2.alloc (.cells #[.int .i64 3, .string ⟨#[]⟩, .string (y.extract 3 y.size), .int .i64 (-1), .slice none 0 0] 50)).heap.size = w2.heap.size + 1 by simp] at this
            exact this)
          have HOW3 := Lib.hid (HOW2.out.frame hb3.size (fun c _ c2 => hb3.block c c2))
          have HX3 : Hid (SelsX ((w2.alloc (.cells #[.int .i64 3, .string ⟨#[]⟩, .string (y.extract 3 y.size), .int .i64 (-1), .slice none 0 0] 50)).alloc (.cells #[.int .i64 3, .string ⟨#[]⟩, .string (y.extract 3 y.size), .int .i64 (-1), .slice none 0 0] 50)) w2.heap.size w2.heap.size none 0 .nil) := Lib.hid ⟨rfl, Nat.zero_le _, Nat.le_refl _, .inl rfl⟩
          have hz3 := hb3.size
          have HO3 := Lib.hid (HO2.out.below (Nat.le_trans hz hz2) hb3)
          have HR3 := Lib.hid (HR2.out.below HR2.out.lt hb3)
          have HLO : Hid (∀ q ∈ L, q.hi ≤ w2.heap.size) := Lib.hid fun q hq => Nat.le_trans (HHI.out q hq) hz2
          have HOB : Hid (∀ g, (Value.slice ao L.length co).ownBlock = some g → g < w2.heap.size) := Lib.hid fun g hg => Nat.lt_of_lt_of_le (HLT.out g hg) hz2
          have hlo : w.heap.size ≤ w2.heap.size := Nat.le_trans hz hz2
          have hwz3 : w.heap.size ≤ ((w2.alloc (.cells #[.int .i64 3, .string ⟨#[]⟩, .string (y.extract 3 y.size), .int .i64 (-1), .slice none 0 0] 50)).alloc (.cells #[.int .i64 3, .string ⟨#[]⟩, .string (y.extract 3 y.size), .int .i64 (-1), .slice none 0 0] 50)).heap.size := Nat.le_trans hlo hz3
          clear hb3
          go_wp2_with (at_builtin; refine app_sel rfl _ _ rfl w.heap.size (.slice ao L.length co) L rfl HOW3.out (w2.heap.size + 1) 1 rfl ⟨3, ⟨#[]⟩, (y.extract 3 y.size), (-1), none, 0, .nil, w2.heap.size, w2.heap.size⟩ HC3.out ⟨HOK.out, HX3.out, hlo, hz3, fun g hg => .inl (HOB.out g hg)⟩ HLO.out (by omega) hwz3 ?_; intro v4 w4 hown4 hb4)
          have HOW4 := Lib.hid hown4
          have HO4 := Lib.hid (HO3.out.below (Nat.le_refl _) hb4)
          have HR4 := Lib.hid (HR3.out.below hplt hb4)
          have hml4 : lenOf v4 = L.length + 1 := by have := hown4.len.1; simpa using this
          clear hown4 hb4
          go_roundw
          case rel => exact ⟨L ++ [⟨3, ⟨#[]⟩, (y.extract 3 y.size), (-1), none, 0, .nil, w2.heap.size, w2.heap.size⟩], kc + 1, by simp; omega, by omega, by omega, HCM, HOW4.out, HR4.out, HO4.out⟩
          case measure => rw [hml4]; show 61 - (L.length + 1) < 61 - L.length; omega
        have hyl := Lib.hid (show y.size = (word (W.drop kc)).length by rw [← HY.out, ub_size])
        by_cases h3s : 3 < (word (W.drop kc)).length
        · have hy3 : (3 : Int) < (y.size : Int) := by have := hyl.out; omega
          have hy4 : (3 : Int) ≤ (y.size : Int) := by omega
          have x1 : (y.extract 0 3).toList ≠ [46, 46, 46] := by rw [← HY.out, ext_take]; exact fun e => hsp ⟨h3s, e⟩
          have x2 : ((y.extract 0 3).toList == [46, 46, 46]) = false := beq_eq_false_iff_ne.2 x1
          clear h3s
          have HHP : Hid (headP (word (W.drop kc)) (W.drop (kc + 1)) = (1, (fieldP (word (W.drop kc))).1, (fieldP (word (W.drop kc))).2.1, (fieldP (word (W.drop kc))).2.2, W.drop (kc + 1))) := Lib.hid (by unfold headP; rw [if_neg hon, if_neg hsp])
          have hbl : bl y = word (W.drop kc) := by rw [← HY.out, bl_ub]
          have CF := Lib.hid (fun w' => specField y hyz w')
          rw [hbl] at CF
          obtain ⟨key, hkey⟩ : ∃ z, ub (fieldP (word (W.drop kc))).1 = z := ⟨_, rfl⟩
          obtain ⟨nm, hnm⟩ : ∃ z, ub (fieldP (word (W.drop kc))).2.1 = z := ⟨_, rfl⟩
          obtain ⟨f, hf⟩ : ∃ z, (fieldP (word (W.drop kc))).2.2 = z := ⟨_, rfl⟩
          have HOK : Hid (OkI 1 ∧ OkS key ∧ OkS nm ∧ OkI f) := Lib.hid (by
            obtain ⟨h1, h2, h3⟩ := field_ok (HWL.out kc)
            exact ⟨by unfold OkI; omega, hkey ▸ h1, hnm ▸ h2, hf ▸ h3⟩)
          rw [hkey, hnm, hf] at CF
          have HEQ := Lib.hid (And.intro hkey.symm (And.intro hnm.symm hf.symm))
          clear hyt hon hsp hbl hkey hnm hf
          go_wp2_with fail
          go_quiet ((go_at_call 11; exact Calls.quiet_of (CW.out _)))
          go_wp2_with fail
          refine (CN.out _ (HR.out.drewN nq)).mono ?_
          rintro e w2 ⟨rfl, hR2, ho2⟩
          have ho2' : OnlyP p wr w2 := ((OnlyP.refl p wr).below (Nat.le_refl _) (⟨rfl, rfl, rfl, Nat.le_refl _, fun _ _ => rfl⟩ : Below _ wr (wr.drewN nq))).trans ho2
          have HO2 := Lib.hid (HO.out.trans ho2')
          have HR2 := Lib.hid hR2
          have HOW2 := Lib.hid (HOW.out.frame ho2'.size (fun c c1 c2 => ho2'.block c c2 (by omega)))
          have hz2 := ho2'.size
          clear hR2 ho2 ho2' c0 c1 f1 HEND HR HO HOW CW CN
          have hA2 : Below w2.heap.size w2 (w2.alloc (.cells #[.int .i64 0, .string ⟨#[]⟩, .string ⟨#[]⟩, .int .i64 (-1), .slice none 0 0] 50)) := (Below.refl _ _).alloc (Nat.le_refl _) _
          have hx2 := heap_alloc_new w2 (.cells #[.int .i64 0, .string ⟨#[]⟩, .string ⟨#[]⟩, .int .i64 (-1), .slice none 0 0] 50)
          have OA := Lib.hid (HO2.out.below (Nat.le_trans hz hz2) hA2)
          have RA := Lib.hid (HR2.out.below HR2.out.lt hA2)
          have OWA := Lib.hid (HOW2.out.frame hA2.size (fun c _ c2 => hA2.block c c2))
          have HAZ := Lib.hid hA2
          clear hA2
          go_wp2_with fail
          refine (CF.out _).mono ?_
          rintro e w3 ⟨rfl, hb3⟩
          have hs3 := (hb3.block w2.heap.size (lt_of_get hx2)).trans hx2
          have O3 := Lib.hid (OA.out.below OA.out.size hb3)
          have R3 := Lib.hid (RA.out.below RA.out.lt hb3)
          have OW3 := Lib.hid (OWA.out.frame hb3.size (fun c c1 c2 => hb3.block c c2))
          clear hx2 hb3
          have hgs := lt_of_get hs3
          have hs := set5_block hs3 (.int .i64 1) (.string key) (.string nm) (.int .i64 f) (.slice none 0 0)
          have RZ := Lib.hid (Rd.set5 R3.out (g := w2.heap.size) (by omega) (.int .i64 1) (.string key) (.string nm) (.int .i64 f) (.slice none 0 0))
          have OZ := Lib.hid (O3.out.set5 (g := w2.heap.size) (by omega) (.int .i64 1) (.string key) (.string nm) (.int .i64 f) (.slice none 0 0))
          have OWZ := Lib.hid (OW3.out.far (w' := set5 w3 w2.heap.size (.int .i64 1) (.string key) (.string nm) (.int .i64 f) (.slice none 0 0)) (g := w2.heap.size) (set5_size _ _ _ _ _ _ _) (fun c hc => set5_other w3 w2.heap.size _ _ _ _ _ c hc) (fun gb hgb => by have := HLT.out gb hgb; omega) (fun q hq => by have := HHI.out q hq; omega))
          have ⟨⟨e0, e1, e2, e3, e4⟩, p0, p1, p2, p3, p4⟩ := keep5 hs3
          have HSZ := Lib.hid hs
          clear hs
          go_wp2_with fail
          have hs := HSZ.out
          clear e0 e1 e2 e3 e4 p0 p1 p2 p3 p4 hs3 hgs HSZ R3 O3 OW3 OA RA OWA HO2 HR2 HOW2 HAZ CF
          change Calls _ _ _ (set5 w3 w2.heap.size (.int .i64 1) (.string key) (.string nm) (.int .i64 f) (.slice none 0 0)) _
          generalize set5 w3 w2.heap.size (.int .i64 1) (.string key) (.string nm) (.int .i64 f) (.slice none 0 0) = wz at *
          obtain ⟨kz, hkz⟩ : ∃ kz, kc + 1 = kz := ⟨_, rfl⟩
          have HHP2 : Hid (headP (word (W.drop kc)) (W.drop (kc + 1)) = (1, (fieldP (word (W.drop kc))).1, (fieldP (word (W.drop kc))).2.1, (fieldP (word (W.drop kc))).2.2, W.drop kz)) := Lib.hid (by rw [← hkz]; exact HHP.out)
          rw [hkz] at RZ
          have HSUB : Hid (word (W.drop kz) = [123] → ∀ u, u = (pSels d (W.drop kz)).1 → ∀ V', V' = (pSels d (W.drop kz)).2 → ∀ a' cap' lo hi, Come (pSels d) (W.drop (k + 1)) (L ++ [⟨1, key, nm, f, a', cap', u, lo, hi⟩]) V') := Lib.hid fun hw u hu V' hv a' cap' lo hi => by
            subst hu; subst hv
            have hc := hcome.out
            rw [drop_word hlt] at hc
            exact come_sub hc (by omega) HT.out HHP2.out (by omega) hw _ ⟨rfl, HEQ.out.1, HEQ.out.2.1, HEQ.out.2.2, rfl⟩
          have HFLAT : Hid ((((1 : Int) = 3) ∨ word (W.drop kz) ≠ [123]) → ∀ a' cap' lo hi, Come (pSels d) (W.drop (k + 1)) (L ++ [⟨1, key, nm, f, a', cap', .nil, lo, hi⟩]) (W.drop kz)) := Lib.hid fun hw a' cap' lo hi => by
            have hc := hcome.out
            rw [drop_word hlt] at hc
            exact come_flat hc (by omega) HT.out HHP2.out hw _ ⟨rfl, HEQ.out.1, HEQ.out.2.1, HEQ.out.2.2, rfl⟩
          generalize w2.heap.size = g at *
          have hgz := lt_of_get hs
          have hpg : p ≠ g := by omega
          have c0z : wz.cell? ⟨p, 0, none⟩ = some (.slice a W.length cap) := cell_of RZ.out.hd rfl
          have c1z : wz.cell? ⟨p, 1, none⟩ = some (.int .i64 kz) := cell_of RZ.out.hd rfl
          have CWZ := Lib.hid (rdWordQ wz p cap kz a W RZ.out (by omega))
          have ⟨⟨e0, e1, e2, e3, e4⟩, p0, p1, p2, p3, p4⟩ := keep5 hs
          by_cases hw : word (W.drop kz) = [123]
          · have HW := Lib.hid hw
            have z1 : (ub (word (W.drop kz))).toList = [123] := by rw [toList_ub]; exact hw
            have z2 : ((ub (word (W.drop kz))).toList == [123]) = true := by rw [z1]; rfl
            clear hw
            generalize ub (word (W.drop kz)) = yz at *
            refine CWZ.out.mono ?_
            rintro e wq0 ⟨rfl, nq, rfl⟩
            have hsq : (wz.drewN nq).heap[g]? = _ := hs
            have RQ := Lib.hid (RZ.out.drewN nq)
            have OQ : Hid (OnlyP p w (wz.drewN nq)) := Lib.hid (OZ.out.below (Nat.le_refl _) (⟨rfl, rfl, rfl, Nat.le_refl _, fun _ _ => rfl⟩ : Below _ wz (wz.drewN nq)))
            have OWQ : Hid (OwnSel (wz.drewN nq) w.heap.size (.slice ao L.length co) L) := Lib.hid (OWZ.out.frame (w' := wz.drewN nq) (Nat.le_refl _) fun _ _ _ => rfl)
            have hszq : wz.heap.size ≤ (wz.drewN nq).heap.size := Nat.le_refl _
            clear e0 e1 e2 e3 e4 p0 p1 p2 p3 p4 hs RZ OZ OWZ c0z c1z CWZ
            generalize wz.drewN nq = wq at *
            have hs := hsq
            clear hsq
            have ⟨⟨e0, e1, e2, e3, e4⟩, p0, p1, p2, p3, p4⟩ := keep5 hs
            have hgq := lt_of_get hs
            go_wp2_with fail
            refine (IH.out wq p cap kz a W RQ.out (by omega)).mono ?_
            rintro e w5 ⟨a', cap', kv, rfl, hsx, hR5, hdv, h1, h2, ho5⟩
            have hs5 := (ho5.block g hgq (by omega)).trans hs
            have hz5 := ho5.size
            obtain ⟨u, hu⟩ : ∃ u, (pSels d (W.drop kz)).1 = u := ⟨_, rfl⟩
            rw [hu] at hsx ⊢
            have HU := Lib.hid hu
            have hs6 := set_cell4 hs5 (.slice a' u.len cap')
            have hoth : ∀ c, c ≠ g → (w5.setCell ⟨g, 4, none⟩ (.slice a' u.len cap')).heap[c]? = w5.heap[c]? := fun c hc => set_other w5 hc _
            have HX6 := Lib.hid (hsx.block (w' := w5.setCell ⟨g, 4, none⟩ (.slice a' u.len cap')) fun c x1 x2 => hoth c (by omega))
            have O6 := Lib.hid ((OQ.out.trans ho5).put (g := g) (j := 4) (by omega) (.slice a' u.len cap'))
            have R6 := Lib.hid (Rd.put hR5 (g := g) (j := 4) (by omega) (.slice a' u.len cap'))
            have OW5 := Lib.hid (OWQ.out.frame ho5.size (fun c c1 c2 => ho5.block c c2 (by omega)))
            have HOWNB : ∀ gb, (Value.slice ao L.length co).ownBlock = some gb → gb ≠ g := fun gb hgb => by have := HLT.out gb hgb; omega
            have OW6 := Lib.hid (OW5.out.far (w' := w5.setCell ⟨g, 4, none⟩ (.slice a' u.len cap')) (by simp) hoth HOWNB (fun q hq => by have := HHI.out q hq; omega))
            have HDV := hdv
            have hsz6 : (w5.setCell ⟨g, 4, none⟩ (.slice a' u.len cap')).heap.size = w5.heap.size := by simp
            have ⟨⟨s0, s1, s2, s3, s4⟩, q0, q1, q2, q3, q4⟩ := keep5 hs5
            have ⟨⟨t0, t1, t2, t3, t4⟩, r0, r1, r2, r3, r4⟩ := keep5 hs6
            clear hsx hR5 hdv ho5 hu e0 e1 e2 e3 e4 p0 p1 p2 p3 p4 hs RQ OQ OWQ OW5
            have hs := hs6
            have RQ := R6
            have OQ := O6
            have OWQ := OW6
            have hb3 : Below (w5.setCell ⟨g, 4, none⟩ (.slice a' u.len cap')).heap.size (w5.setCell ⟨g, 4, none⟩ (.slice a' u.len cap')) ((w5.setCell ⟨g, 4, none⟩ (.slice a' u.len cap')).alloc (.cells #[.int .i64 1, .string key, .string nm, .int .i64 f, .slice a' u.len cap'] 50)) := (Below.refl _ (w5.setCell ⟨g, 4, none⟩ (.slice a' u.len cap'))).alloc (Nat.le_refl _) _
            have HC3 : Hid (((w5.setCell ⟨g, 4, none⟩ (.slice a' u.len cap')).alloc (.cells #[.int .i64 1, .string key, .string nm, .int .i64 f, .slice a' u.len cap'] 50)).heap[w5.heap.size]? = some (.cells (RowS.cells ⟨1, key, nm, f, a', cap', u, wq.heap.size, w5.heap.size⟩).toArray 50 (0, 0))) := Lib.hid (by rw [← hsz6]; exact heap_alloc_new (w5.setCell ⟨g, 4, none⟩ (.slice a' u.len cap')) _)
            have HOW3 := Lib.hid (OWQ.out.frame hb3.size (fun c _ c2 => hb3.block c c2))
            have HX3 := Lib.hid ((HX6.out).below (Nat.le_of_eq hsz6.symm) hb3)
            have hz3 : w5.heap.size ≤ ((w5.setCell ⟨g, 4, none⟩ (.slice a' u.len cap')).alloc (.cells #[.int .i64 1, .string key, .string nm, .int .i64 f, .slice a' u.len cap'] 50)).heap.size := by have := hb3.size; omega
            have HO3 := Lib.hid (OQ.out.below OQ.out.size hb3)
            have HR3 := Lib.hid (RQ.out.below RQ.out.lt hb3)
            have HLO : Hid (∀ q ∈ L, q.hi ≤ wq.heap.size) := Lib.hid fun q hq => Nat.le_trans (HHI.out q hq) (by omega)
            have HOB : Hid (∀ g, (Value.slice ao L.length co).ownBlock = some g → g < wq.heap.size) := Lib.hid fun g hg => Nat.lt_of_lt_of_le (HLT.out g hg) (by omega)
            have hlo : w.heap.size ≤ wq.heap.size := by omega
            have hwz3 : w.heap.size ≤ ((w5.setCell ⟨g, 4, none⟩ (.slice a' u.len cap')).alloc (.cells #[.int .i64 1, .string key, .string nm, .int .i64 f, .slice a' u.len cap'] 50)).heap.size := by omega
            have ⟨⟨e0, e1, e2, e3, e4⟩, p0, p1, p2, p3, p4⟩ := keep5 hs
            clear hb3
            go_wp2_with (at_builtin; refine app_sel rfl _ _ rfl w.heap.size (.slice ao L.length co) L rfl HOW3.out w5.heap.size 1 rfl ⟨1, key, nm, f, a', cap', u, wq.heap.size, w5.heap.size⟩ HC3.out ⟨HOK.out, HX3.out, hlo, hz3, fun g hg => .inl (HOB.out g hg)⟩ HLO.out (by omega) hwz3 ?_; intro v4 w4 hown4 hb4)
            have HOW4 := Lib.hid hown4
            have HO4 := Lib.hid (HO3.out.below (Nat.le_refl _) hb4)
            have HR4 := Lib.hid (HR3.out.below hplt hb4)
            have hml4 : lenOf v4 = L.length + 1 := by have := hown4.len.1; simpa using this
            clear hown4 hb4
            have HCM := Lib.hid (HSUB.out HW.out _ HU.out.symm _ HDV.out a' cap' wq.heap.size w5.heap.size)
            go_roundw
            case rel => exact ⟨L ++ [⟨1, key, nm, f, a', cap', u, wq.heap.size, w5.heap.size⟩], kv, by simp; omega, by omega, by omega, HCM, HOW4.out, HR4.out, HO4.out⟩
            case measure => rw [hml4]; show 61 - (L.length + 1) < 61 - L.length; omega
          · have HW := Lib.hid hw
            have z1 : (ub (word (W.drop kz))).toList ≠ [123] := by rw [toList_ub]; exact hw
            have z2 : ((ub (word (W.drop kz))).toList == [123]) = false := beq_eq_false_iff_ne.2 z1
            clear hw
            generalize ub (word (W.drop kz)) = yz at *
            refine CWZ.out.mono ?_
            rintro e wq0 ⟨rfl, nq, rfl⟩
            have hsq : (wz.drewN nq).heap[g]? = _ := hs
            have RQ := Lib.hid (RZ.out.drewN nq)
            have OQ : Hid (OnlyP p w (wz.drewN nq)) := Lib.hid (OZ.out.below (Nat.le_refl _) (⟨rfl, rfl, rfl, Nat.le_refl _, fun _ _ => rfl⟩ : Below _ wz (wz.drewN nq)))
            have OWQ : Hid (OwnSel (wz.drewN nq) w.heap.size (.slice ao L.length co) L) := Lib.hid (OWZ.out.frame (w' := wz.drewN nq) (Nat.le_refl _) fun _ _ _ => rfl)
            have hszq : wz.heap.size ≤ (wz.drewN nq).heap.size := Nat.le_refl _
            clear e0 e1 e2 e3 e4 p0 p1 p2 p3 p4 hs RZ OZ OWZ c0z c1z CWZ
            generalize wz.drewN nq = wq at *
            have hs := hsq
            clear hsq
            have hb3 : Below wq.heap.size wq (wq.alloc (.cells #[.int .i64 1, .string key, .string nm, .int .i64 f, .slice none 0 0] 50)) := (Below.refl _ wq).alloc (Nat.le_refl _) _
            have HC3 : Hid ((wq.alloc (.cells #[.int .i64 1, .string key, .string nm, .int .i64 f, .slice none 0 0] 50)).heap[wq.heap.size]? = some (.cells (RowS.cells ⟨1, key, nm, f, none, 0, .nil, wq.heap.size, wq.heap.size⟩).toArray 50 (0, 0))) := Lib.hid (heap_alloc_new wq _)
            have HOW3 := Lib.hid (OWQ.out.frame hb3.size (fun c _ c2 => hb3.block c c2))
            have HX3 := Lib.hid ((show SelsX wq wq.heap.size wq.heap.size none 0 .nil from ⟨rfl, Nat.zero_le _, Nat.le_refl _, .inl rfl⟩).below (Nat.le_refl _) hb3)
            have hz3 : wq.heap.size ≤ (wq.alloc (.cells #[.int .i64 1, .string key, .string nm, .int .i64 f, .slice none 0 0] 50)).heap.size := hb3.size
            have HO3 := Lib.hid (OQ.out.below OQ.out.size hb3)
            have HR3 := Lib.hid (RQ.out.below RQ.out.lt hb3)
            have HLO : Hid (∀ q ∈ L, q.hi ≤ wq.heap.size) := Lib.hid fun q hq => Nat.le_trans (HHI.out q hq) (by omega)
            have HOB : Hid (∀ g, (Value.slice ao L.length co).ownBlock = some g → g < wq.heap.size) := Lib.hid fun g hg => Nat.lt_of_lt_of_le (HLT.out g hg) (by omega)
            have hlo : w.heap.size ≤ wq.heap.size := by omega
            have hwz3 : w.heap.size ≤ (wq.alloc (.cells #[.int .i64 1, .string key, .string nm, .int .i64 f, .slice none 0 0] 50)).heap.size := by omega
            have ⟨⟨e0, e1, e2, e3, e4⟩, p0, p1, p2, p3, p4⟩ := keep5 hs
            clear hb3
            go_wp2_with (at_builtin; refine app_sel rfl _ _ rfl w.heap.size (.slice ao L.length co) L rfl HOW3.out wq.heap.size 1 rfl ⟨1, key, nm, f, none, 0, .nil, wq.heap.size, wq.heap.size⟩ HC3.out ⟨HOK.out, HX3.out, hlo, hz3, fun g hg => .inl (HOB.out g hg)⟩ HLO.out (by omega) hwz3 ?_; intro v4 w4 hown4 hb4)
            have HOW4 := Lib.hid hown4
            have HO4 := Lib.hid (HO3.out.below (Nat.le_refl _) hb4)
            have HR4 := Lib.hid (HR3.out.below hplt hb4)
            have hml4 : lenOf v4 = L.length + 1 := by have := hown4.len.1; simpa using this
            clear hown4 hb4
            have HCM := Lib.hid (HFLAT.out (.inr HW.out) none 0 wq.heap.size wq.heap.size)
            go_roundw
            case rel => exact ⟨L ++ [⟨1, key, nm, f, none, 0, .nil, wq.heap.size, wq.heap.size⟩], kz, by simp; omega, by omega, by omega, HCM, HOW4.out, HR4.out, HO4.out⟩
            case measure => rw [hml4]; show 61 - (L.length + 1) < 61 - L.length; omega
        have hy3 : (y.size : Int) ≤ 3 := by have := hyl.out; omega
        have hy4 : ¬ (3 : Int) < (y.size : Int) := by omega
        clear h3s
        have HHP : Hid (headP (word (W.drop kc)) (W.drop (kc + 1)) = (1, (fieldP (word (W.drop kc))).1, (fieldP (word (W.drop kc))).2.1, (fieldP (word (W.drop kc))).2.2, W.drop (kc + 1))) := Lib.hid (by unfold headP; rw [if_neg hon, if_neg hsp])
        have hbl : bl y = word (W.drop kc) := by rw [← HY.out, bl_ub]
        have CF := Lib.hid (fun w' => specField y hyz w')
        rw [hbl] at CF
        obtain ⟨key, hkey⟩ : ∃ z, ub (fieldP (word (W.drop kc))).1 = z := ⟨_, rfl⟩
        obtain ⟨nm, hnm⟩ : ∃ z, ub (fieldP (word (W.drop kc))).2.1 = z := ⟨_, rfl⟩
        obtain ⟨f, hf⟩ : ∃ z, (fieldP (word (W.drop kc))).2.2 = z := ⟨_, rfl⟩
        have HOK : Hid (OkI 1 ∧ OkS key ∧ OkS nm ∧ OkI f) := Lib.hid (by
          obtain ⟨h1, h2, h3⟩ := field_ok (HWL.out kc)
          exact ⟨by unfold OkI; omega, hkey ▸ h1, hnm ▸ h2, hf ▸ h3⟩)
        rw [hkey, hnm, hf] at CF
        have HEQ := Lib.hid (And.intro hkey.symm (And.intro hnm.symm hf.symm))
        clear hyt hon hsp hbl hkey hnm hf
        go_wp2_with fail
        go_quiet ((go_at_call 11; exact Calls.quiet_of (CW.out _)))
        go_wp2_with fail
        refine (CN.out _ (HR.out.drewN nq)).mono ?_
        rintro e w2 ⟨rfl, hR2, ho2⟩
        have ho2' : OnlyP p wr w2 := ((OnlyP.refl p wr).below (Nat.le_refl _) (⟨rfl, rfl, rfl, Nat.le_refl _, fun _ _ => rfl⟩ : Below _ wr (wr.drewN nq))).trans ho2
        have HO2 := Lib.hid (HO.out.trans ho2')
        have HR2 := Lib.hid hR2
        have HOW2 := Lib.hid (HOW.out.frame ho2'.size (fun c c1 c2 => ho2'.block c c2 (by omega)))
        have hz2 := ho2'.size
        clear hR2 ho2 ho2' c0 c1 f1 HEND HR HO HOW CW CN
        have hA2 : Below w2.heap.size w2 (w2.alloc (.cells #[.int .i64 0, .string ⟨#[]⟩, .string ⟨#[]⟩, .int .i64 (-1), .slice none 0 0] 50)) := (Below.refl _ _).alloc (Nat.le_refl _) _
        have hx2 := heap_alloc_new w2 (.cells #[.int .i64 0, .string ⟨#[]⟩, .string ⟨#[]⟩, .int .i64 (-1), .slice none 0 0] 50)
        have OA := Lib.hid (HO2.out.below (Nat.le_trans hz hz2) hA2)
        have RA := Lib.hid (HR2.out.below HR2.out.lt hA2)
        have OWA := Lib.hid (HOW2.out.frame hA2.size (fun c _ c2 => hA2.block c c2))
        have HAZ := Lib.hid hA2
        clear hA2
        go_wp2_with fail
        refine (CF.out _).mono ?_
        rintro e w3 ⟨rfl, hb3⟩
        have hs3 := (hb3.block w2.heap.size (lt_of_get hx2)).trans hx2
        have O3 := Lib.hid (OA.out.below OA.out.size hb3)
        have R3 := Lib.hid (RA.out.below RA.out.lt hb3)
        have OW3 := Lib.hid (OWA.out.frame hb3.size (fun c c1 c2 => hb3.block c c2))
        clear hx2 hb3
        have hgs := lt_of_get hs3
        have hs := set5_block hs3 (.int .i64 1) (.string key) (.string nm) (.int .i64 f) (.slice none 0 0)
        have RZ := Lib.hid (Rd.set5 R3.out (g := w2.heap.size) (by omega) (.int .i64 1) (.string key) (.string nm) (.int .i64 f) (.slice none 0 0))
        have OZ := Lib.hid (O3.out.set5 (g := w2.heap.size) (by omega) (.int .i64 1) (.string key) (.string nm) (.int .i64 f) (.slice none 0 0))
        have OWZ := Lib.hid (OW3.out.far (w' := set5 w3 w2.heap.size (.int .i64 1) (.string key) (.string nm) (.int .i64 f) (.slice none 0 0)) (g := w2.heap.size) (set5_size _ _ _ _ _ _ _) (fun c hc => set5_other w3 w2.heap.size _ _ _ _ _ c hc) (fun gb hgb => by have := HLT.out gb hgb; omega) (fun q hq => by have := HHI.out q hq; omega))
        have ⟨⟨e0, e1, e2, e3, e4⟩, p0, p1, p2, p3, p4⟩ := keep5 hs3
        have HSZ := Lib.hid hs
        clear hs
        go_wp2_with fail
        have hs := HSZ.out
        clear e0 e1 e2 e3 e4 p0 p1 p2 p3 p4 hs3 hgs HSZ R3 O3 OW3 OA RA OWA HO2 HR2 HOW2 HAZ CF
        change Calls _ _ _ (set5 w3 w2.heap.size (.int .i64 1) (.string key) (.string nm) (.int .i64 f) (.slice none 0 0)) _
        generalize set5 w3 w2.heap.size (.int .i64 1) (.string key) (.string nm) (.int .i64 f) (.slice none 0 0) = wz at *
        obtain ⟨kz, hkz⟩ : ∃ kz, kc + 1 = kz := ⟨_, rfl⟩
        have HHP2 : Hid (headP (word (W.drop kc)) (W.drop (kc + 1)) = (1, (fieldP (word (W.drop kc))).1, (fieldP (word (W.drop kc))).2.1, (fieldP (word (W.drop kc))).2.2, W.drop kz)) := Lib.hid (by rw [← hkz]; exact HHP.out)
        rw [hkz] at RZ
        have HSUB : Hid (word (W.drop kz) = [123] → ∀ u, u = (pSels d (W.drop kz)).1 → ∀ V', V' = (pSels d (W.drop kz)).2 → ∀ a' cap' lo hi, Come (pSels d) (W.drop (k + 1)) (L ++ [⟨1, key, nm, f, a', cap', u, lo, hi⟩]) V') := Lib.hid fun hw u hu V' hv a' cap' lo hi => by
          subst hu; subst hv
          have hc := hcome.out
          rw [drop_word hlt] at hc
          exact come_sub hc (by omega) HT.out HHP2.out (by omega) hw _ ⟨rfl, HEQ.out.1, HEQ.out.2.1, HEQ.out.2.2, rfl⟩
        have HFLAT : Hid ((((1 : Int) = 3) ∨ word (W.drop kz) ≠ [123]) → ∀ a' cap' lo hi, Come (pSels d) (W.drop (k + 1)) (L ++ [⟨1, key, nm, f, a', cap', .nil, lo, hi⟩]) (W.drop kz)) := Lib.hid fun hw a' cap' lo hi => by
          have hc := hcome.out
          rw [drop_word hlt] at hc
          exact come_flat hc (by omega) HT.out HHP2.out hw _ ⟨rfl, HEQ.out.1, HEQ.out.2.1, HEQ.out.2.2, rfl⟩
        generalize w2.heap.size = g at *
        have hgz := lt_of_get hs
        have hpg : p ≠ g := by omega
        have c0z : wz.cell? ⟨p, 0, none⟩ = some (.slice a W.length cap) := cell_of RZ.out.hd rfl
        have c1z : wz.cell? ⟨p, 1, none⟩ = some (.int .i64 kz) := cell_of RZ.out.hd rfl
        have CWZ := Lib.hid (rdWordQ wz p cap kz a W RZ.out (by omega))
        have ⟨⟨e0, e1, e2, e3, e4⟩, p0, p1, p2, p3, p4⟩ := keep5 hs
        by_cases hw : word (W.drop kz) = [123]
        · have HW := Lib.hid hw
          have z1 : (ub (word (W.drop kz))).toList = [123] := by rw [toList_ub]; exact hw
          have z2 : ((ub (word (W.drop kz))).toList == [123]) = true := by rw [z1]; rfl
          clear hw
          generalize ub (word (W.drop kz)) = yz at *
          refine CWZ.out.mono ?_
          rintro e wq0 ⟨rfl, nq, rfl⟩
          have hsq : (wz.drewN nq).heap[g]? = _ := hs
          have RQ := Lib.hid (RZ.out.drewN nq)
          have OQ : Hid (OnlyP p w (wz.drewN nq)) := Lib.hid (OZ.out.below (Nat.le_refl _) (⟨rfl, rfl, rfl, Nat.le_refl _, fun _ _ => rfl⟩ : Below _ wz (wz.drewN nq)))
          have OWQ : Hid (OwnSel (wz.drewN nq) w.heap.size (.slice ao L.length co) L) := Lib.hid (OWZ.out.frame (w' := wz.drewN nq) (Nat.le_refl _) fun _ _ _ => rfl)
          have hszq : wz.heap.size ≤ (wz.drewN nq).heap.size := Nat.le_refl _
          clear e0 e1 e2 e3 e4 p0 p1 p2 p3 p4 hs RZ OZ OWZ c0z c1z CWZ
          generalize wz.drewN nq = wq at *
          have hs := hsq
          clear hsq
          have ⟨⟨e0, e1, e2, e3, e4⟩, p0, p1, p2, p3, p4⟩ := keep5 hs
          have hgq := lt_of_get hs
          go_wp2_with fail
          refine (IH.out wq p cap kz a W RQ.out (by omega)).mono ?_
          rintro e w5 ⟨a', cap', kv, rfl, hsx, hR5, hdv, h1, h2, ho5⟩
          have hs5 := (ho5.block g hgq (by omega)).trans hs
          have hz5 := ho5.size
          obtain ⟨u, hu⟩ : ∃ u, (pSels d (W.drop kz)).1 = u := ⟨_, rfl⟩
          rw [hu] at hsx ⊢
          have HU := Lib.hid hu
          have hs6 := set_cell4 hs5 (.slice a' u.len cap')
          have hoth : ∀ c, c ≠ g → (w5.setCell ⟨g, 4, none⟩ (.slice a' u.len cap')).heap[c]? = w5.heap[c]? := fun c hc => set_other w5 hc _
          have HX6 := Lib.hid (hsx.block (w' := w5.setCell ⟨g, 4, none⟩ (.slice a' u.len cap')) fun c x1 x2 => hoth c (by omega))
          have O6 := Lib.hid ((OQ.out.trans ho5).put (g := g) (j := 4) (by omega) (.slice a' u.len cap'))
          have R6 := Lib.hid (Rd.put hR5 (g := g) (j := 4) (by omega) (.slice a' u.len cap'))
          have OW5 := Lib.hid (OWQ.out.frame ho5.size (fun c c1 c2 => ho5.block c c2 (by omega)))
          have HOWNB : ∀ gb, (Value.slice ao L.length co).ownBlock = some gb → gb ≠ g := fun gb hgb => by have := HLT.out gb hgb; omega
          have OW6 := Lib.hid (OW5.out.far (w' := w5.setCell ⟨g, 4, none⟩ (.slice a' u.len cap')) (by simp) hoth HOWNB (fun q hq => by have := HHI.out q hq; omega))
          have HDV := hdv
          have hsz6 : (w5.setCell ⟨g, 4, none⟩ (.slice a' u.len cap')).heap.size = w5.heap.size := by simp
          have ⟨⟨s0, s1, s2, s3, s4⟩, q0, q1, q2, q3, q4⟩ := keep5 hs5
          have ⟨⟨t0, t1, t2, t3, t4⟩, r0, r1, r2, r3, r4⟩ := keep5 hs6
          clear hsx hR5 hdv ho5 hu e0 e1 e2 e3 e4 p0 p1 p2 p3 p4 hs RQ OQ OWQ OW5
          have hs := hs6
          have RQ := R6
          have OQ := O6
          have OWQ := OW6
          have hb3 : Below (w5.setCell ⟨g, 4, none⟩ (.slice a' u.len cap')).heap.size (w5.setCell ⟨g, 4, none⟩ (.slice a' u.len cap')) ((w5.setCell ⟨g, 4, none⟩ (.slice a' u.len cap')).alloc (.cells #[.int .i64 1, .string key, .string nm, .int .i64 f, .slice a' u.len cap'] 50)) := (Below.refl _ (w5.setCell ⟨g, 4, none⟩ (.slice a' u.len cap'))).alloc (Nat.le_refl _) _
          have HC3 : Hid (((w5.setCell ⟨g, 4, none⟩ (.slice a' u.len cap')).alloc (.cells #[.int .i64 1, .string key, .string nm, .int .i64 f, .slice a' u.len cap'] 50)).heap[w5.heap.size]? = some (.cells (RowS.cells ⟨1, key, nm, f, a', cap', u, wq.heap.size, w5.heap.size⟩).toArray 50 (0, 0))) := Lib.hid (by rw [← hsz6]; exact heap_alloc_new (w5.setCell ⟨g, 4, none⟩ (.slice a' u.len cap')) _)
          have HOW3 := Lib.hid (OWQ.out.frame hb3.size (fun c _ c2 => hb3.block c c2))
          have HX3 := Lib.hid ((HX6.out).below (Nat.le_of_eq hsz6.symm) hb3)
          have hz3 : w5.heap.size ≤ ((w5.setCell ⟨g, 4, none⟩ (.slice a' u.len cap')).alloc (.cells #[.int .i64 1, .string key, .string nm, .int .i64 f, .slice a' u.len cap'] 50)).heap.size := by have := hb3.size; omega
          have HO3 := Lib.hid (OQ.out.below OQ.out.size hb3)
          have HR3 := Lib.hid (RQ.out.below RQ.out.lt hb3)
          have HLO : Hid (∀ q ∈ L, q.hi ≤ wq.heap.size) := Lib.hid fun q hq => Nat.le_trans (HHI.out q hq) (by omega)
          have HOB : Hid (∀ g, (Value.slice ao L.length co).ownBlock = some g → g < wq.heap.size) := Lib.hid fun g hg => Nat.lt_of_lt_of_le (HLT.out g hg) (by omega)
          have hlo : w.heap.size ≤ wq.heap.size := by omega
          have hwz3 : w.heap.size ≤ ((w5.setCell ⟨g, 4, none⟩ (.slice a' u.len cap')).alloc (.cells #[.int .i64 1, .string key, .string nm, .int .i64 f, .slice a' u.len cap'] 50)).heap.size := by omega
          have ⟨⟨e0, e1, e2, e3, e4⟩, p0, p1, p2, p3, p4⟩ := keep5 hs
          clear hb3
          go_wp2_with (at_builtin; refine app_sel rfl _ _ rfl w.heap.size (.slice ao L.length co) L rfl HOW3.out w5.heap.size 1 rfl ⟨1, key, nm, f, a', cap', u, wq.heap.size, w5.heap.size⟩ HC3.out ⟨HOK.out, HX3.out, hlo, hz3, fun g hg => .inl (HOB.out g hg)⟩ HLO.out (by omega) hwz3 ?_; intro v4 w4 hown4 hb4)
          have HOW4 := Lib.hid hown4
          have HO4 := Lib.hid (HO3.out.below (Nat.le_refl _) hb4)
          have HR4 := Lib.hid (HR3.out.below hplt hb4)
          have hml4 : lenOf v4 = L.length + 1 := by have := hown4.len.1; simpa using this
          clear hown4 hb4
          have HCM := Lib.hid (HSUB.out HW.out _ HU.out.symm _ HDV.out a' cap' wq.heap.size w5.heap.size)
          go_roundw
          case rel => exact ⟨L ++ [⟨1, key, nm, f, a', cap', u, wq.heap.size, w5.heap.size⟩], kv, by simp; omega, by omega, by omega, HCM, HOW4.out, HR4.out, HO4.out⟩
          case measure => rw [hml4]; show 61 - (L.length + 1) < 61 - L.length; omega
        · have HW := Lib.hid hw
          have z1 : (ub (word (W.drop kz))).toList ≠ [123] := by rw [toList_ub]; exact hw
          have z2 : ((ub (word (W.drop kz))).toList == [123]) = false := beq_eq_false_iff_ne.2 z1
          clear hw
          generalize ub (word (W.drop kz)) = yz at *
          refine CWZ.out.mono ?_
          rintro e wq0 ⟨rfl, nq, rfl⟩
          have hsq : (wz.drewN nq).heap[g]? = _ := hs
          have RQ := Lib.hid (RZ.out.drewN nq)
          have OQ : Hid (OnlyP p w (wz.drewN nq)) := Lib.hid (OZ.out.below (Nat.le_refl _) (⟨rfl, rfl, rfl, Nat.le_refl _, fun _ _ => rfl⟩ : Below _ wz (wz.drewN nq)))
          have OWQ : Hid (OwnSel (wz.drewN nq) w.heap.size (.slice ao L.length co) L) := Lib.hid (OWZ.out.frame (w' := wz.drewN nq) (Nat.le_refl _) fun _ _ _ => rfl)
          have hszq : wz.heap.size ≤ (wz.drewN nq).heap.size := Nat.le_refl _
          clear e0 e1 e2 e3 e4 p0 p1 p2 p3 p4 hs RZ OZ OWZ c0z c1z CWZ
          generalize wz.drewN nq = wq at *
          have hs := hsq
          clear hsq
          have hb3 : Below wq.heap.size wq (wq.alloc (.cells #[.int .i64 1, .string key, .string nm, .int .i64 f, .slice none 0 0] 50)) := (Below.refl _ wq).alloc (Nat.le_refl _) _
          have HC3 : Hid ((wq.alloc (.cells #[.int .i64 1, .string key, .string nm, .int .i64 f, .slice none 0 0] 50)).heap[wq.heap.size]? = some (.cells (RowS.cells ⟨1, key, nm, f, none, 0, .nil, wq.heap.size, wq.heap.size⟩).toArray 50 (0, 0))) := Lib.hid (heap_alloc_new wq _)
          have HOW3 := Lib.hid (OWQ.out.frame hb3.size (fun c _ c2 => hb3.block c c2))
          have HX3 := Lib.hid ((show SelsX wq wq.heap.size wq.heap.size none 0 .nil from ⟨rfl, Nat.zero_le _, Nat.le_refl _, .inl rfl⟩).below (Nat.le_refl _) hb3)
          have hz3 : wq.heap.size ≤ (wq.alloc (.cells #[.int .i64 1, .string key, .string nm, .int .i64 f, .slice none 0 0] 50)).heap.size := hb3.size
          have HO3 := Lib.hid (OQ.out.below OQ.out.size hb3)
          have HR3 := Lib.hid (RQ.out.below RQ.out.lt hb3)
          have HLO : Hid (∀ q ∈ L, q.hi ≤ wq.heap.size) := Lib.hid fun q hq => Nat.le_trans (HHI.out q hq) (by omega)
          have HOB : Hid (∀ g, (Value.slice ao L.length co).ownBlock = some g → g < wq.heap.size) := Lib.hid fun g hg => Nat.lt_of_lt_of_le (HLT.out g hg) (by omega)
          have hlo : w.heap.size ≤ wq.heap.size := by omega
          have hwz3 : w.heap.size ≤ (wq.alloc (.cells #[.int .i64 1, .string key, .string nm, .int .i64 f, .slice none 0 0] 50)).heap.size := by omega
          have ⟨⟨e0, e1, e2, e3, e4⟩, p0, p1, p2, p3, p4⟩ := keep5 hs
          clear hb3
          go_wp2_with (at_builtin; refine app_sel rfl _ _ rfl w.heap.size (.slice ao L.length co) L rfl HOW3.out wq.heap.size 1 rfl ⟨1, key, nm, f, none, 0, .nil, wq.heap.size, wq.heap.size⟩ HC3.out ⟨HOK.out, HX3.out, hlo, hz3, fun g hg => .inl (HOB.out g hg)⟩ HLO.out (by omega) hwz3 ?_; intro v4 w4 hown4 hb4)
          have HOW4 := Lib.hid hown4
          have HO4 := Lib.hid (HO3.out.below (Nat.le_refl _) hb4)
          have HR4 := Lib.hid (HR3.out.below hplt hb4)
          have hml4 : lenOf v4 = L.length + 1 := by have := hown4.len.1; simpa using this
          clear hown4 hb4
          have HCM := Lib.hid (HFLAT.out (.inr HW.out) none 0 wq.heap.size wq.heap.size)
          go_roundw
          case rel => exact ⟨L ++ [⟨1, key, nm, f, none, 0, .nil, wq.heap.size, wq.heap.size⟩], kz, by simp; omega, by omega, by omega, HCM, HOW4.out, HR4.out, HO4.out⟩
          case measure => rw [hml4]; show 61 - (L.length + 1) < 61 - L.length; omega
      · have HE := Lib.hid (come_end hcome.out (.inl (List.drop_eq_nil_of_le (by omega))) hL)
        have HP1 : Hid ((pSels (d + 1) (W.drop k)).1 = rowsSels L) := Lib.hid (by rw [HP.out]; exact HE.out.1)
        have HP2 : Hid (W.drop (kc + 1) = (pSels (d + 1) (W.drop k)).2) := Lib.hid (by rw [HP.out, HE.out.2, List.drop_drop])
        have hli : ¬ (kc : Int) < (W.length : Int) := by omega
        have hlm : (W.length : Int) ≤ (kc : Int) := by omega
        clear hstop
        generalize ub (word (W.drop kc)) = y at *
        go_wp2_with fail
        go_quiet ((go_at_call 11; exact Calls.quiet_of (CW.out _)))
        go_wp2_with fail
        all_goals go_ret
        all_goals exact ⟨ao, co, kc + 1, by rw [HP1.out, rowsSels_len]; rfl, by rw [HP1.out, rowsSels_len]; exact (HEND.out _).2.2, (HEND.out _).1, HP2, by omega, by omega, (HEND.out _).2.1⟩
  · have hx : (ub (word (W.drop k))).toList ≠ [123] := by rw [toList_ub]; exact hw
    have hxb : ((ub (word (W.drop k))).toList == [123]) = false := beq_eq_false_iff_ne.2 hx
    have HP : Hid (pSels (d + 1) (W.drop k) = (.nil, (W.drop k).drop 1)) := Lib.hid (by rw [pSels, if_neg hw])
    clear hw
    generalize ub (word (W.drop k)) = x at *
    go_wp2_with fail
    all_goals go_ret
    all_goals exact ⟨_, _, k + 1, by rw [HP.out]; rfl, by rw [HP.out]; exact HX.out, HR1.out, Lib.hid (by rw [HP.out]; exact HDR.out), by omega, by omega, HO1.out⟩
end Go.Proofs.YtnkknfnndoegpaaGreatDoor.Selss
