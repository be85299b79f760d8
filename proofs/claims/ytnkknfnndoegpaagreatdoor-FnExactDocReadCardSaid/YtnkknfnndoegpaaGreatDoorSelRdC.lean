/-
  Contracts: the program's reader of one selection reads, if its reader of braces does: a field, an on. Conditions: as each theorem says.
-/
import Derived.Test.YtnkknfnndoegpaaGreatDoorRows
import Derived.Test.YtnkknfnndoegpaaGreatDoorSelRdB
namespace Go.Proofs.YtnkknfnndoegpaaGreatDoor.Selss
open Go.RowKit Words Decs Splits
set_option linter.unusedVariables false
set_option maxRecDepth 100000

theorem set_cell4 {w : World} {g : Nat} {x0 x1 x2 x3 x4 : Value} {T : TypeId} (h : w.heap[g]? = some (.cells #[x0, x1, x2, x3, x4] T (0, 0))) (v : Value) : (w.setCell ⟨g, 4, none⟩ v).heap[g]? = some (.cells #[x0, x1, x2, x3, v] T (0, 0)) :=
  (heap_setCell_same w g 4 _ _ _ h)
theorem set_cell2 {w : World} {g : Nat} {x0 x1 x2 x3 x4 : Value} {T : TypeId} (h : w.heap[g]? = some (.cells #[x0, x1, x2, x3, x4] T (0, 0))) (v : Value) : (w.setCell ⟨g, 2, none⟩ v).heap[g]? = some (.cells #[x0, x1, v, x3, x4] T (0, 0)) :=
  (heap_setCell_same w g 2 _ _ _ h)
theorem set_other (w : World) {c g i : Nat} (h : c ≠ g) (v : Value) : (w.setCell ⟨g, i, none⟩ v).heap[c]? = w.heap[c]? := Go.Deep.blk_setCell_other _ _ _ _ h

set_option maxHeartbeats 4000000 in
theorem selRd_field (n : Nat) (w : World) (p cap k : Nat) (a : Option Addr) (W : List Tok) (hn : W.length - k < n) (key nm : ByteArray) (f : Int) (hok : OkI f ∧ OkS key ∧ OkS nm) (hsel : selOfP (word (W.drop k)) = (1, key, nm, f)) (hh : oneB 1 key nm f 0 = true → W.drop k ≠ [] ∧ headF (W.drop k) = some (1, key, nm, f, (W.drop k).drop 1)) (hh2 : oneB 1 key nm f 0 = false → headF (W.drop k) = none) :
    Hid (BlockOk n) → Hid (RdI w p a cap W k) → Hid (k ≤ W.length) → Hid (Vars p w) → Calls Tryz.prog 59 #[.pointer (some ⟨p, 0, none⟩)] w fun e w' => ∃ kd key nm f a' cap' u err k', e = .returned (.tuple #[.agg #[.int .i64 kd, .string key, .string nm, .int .i64 f, .slice a' u.len cap'], err]) ∧ OnlyP p w w' ∧ k ≤ k' ∧ k' ≤ W.length ∧ RdI w' p a cap W k' ∧
    ((err = .nilIface ∧ SelsX w' w.heap.size w'.heap.size a' u.len u ∧ (OkI kd ∧ OkS key ∧ OkS nm ∧ OkI f) ∧ ReadsOne kd key nm f u (W.drop k) (W.drop k') ∧ k < k') ∨
     (err = (.iface 60 (.agg #[.int .i64 3])) ∧ ¬ ∃ kd key nm f u W1, ReadsOne kd key nm f u (W.drop k) W1)) := by
  intro HB HR HKL HV
  have hplt := HR.out.lt
  have CN := Lib.hid (show ∀ w', Below w.heap.size w w' → _ from fun w' hb => rpNext w' p cap k a W (HR.out.below hplt hb) HKL.out)
  have CS : Hid (∀ w', OnlyP p w w' → Calls Tryz.prog 71 #[.string (ub (word (W.drop k)))] w' fun e w'' => e = .returned (selV (1, key, nm, f)) ∧ Below w'.heap.size w' w'') := Lib.hid fun w' hb => by
    have := implSelOf (ub (word (W.drop k))) (by rw [ub_size']; exact word_len HR.out.sizes k) w' p (hb.vars hplt HV.out) (by have := hb.size; omega)
    rw [bl_ub, hsel] at this; exact this
  have HA : Hid (∀ o, Below w.heap.size w (w.alloc o)) := Lib.hid fun o => (Below.refl _ _).alloc (Nat.le_refl _) o
  have hk0 : Hid ((w.alloc (.cells #[.int .i64 0, .string ⟨#[]⟩, .string ⟨#[]⟩, .int .i64 0, .slice none 0 0] 50)).heap[w.heap.size]? = some (.cells #[.int .i64 0, .string ⟨#[]⟩, .string ⟨#[]⟩, .int .i64 0, .slice none 0 0] 50 (0, 0))) := Lib.hid (heap_alloc_new w _)
  have HWL := Lib.hid (fun k => word_len HR.out.sizes k)
  clear hsel
  simp only [selV] at CS
  generalize hx : ub (word (W.drop k)) = x at CN CS
  go_enter Tryz.func59, Tryz.ntmps59
  go_wp2_with fail
  refine (CN.out _ (HA.out _)).mono ?_
  rintro e w1 ⟨rfl, ⟨k1, h1, h2, h3, h4, h5⟩, ho⟩
  have hk1 := (ho.block w.heap.size (by simp) (by omega)).trans hk0.out
  have HO1 := Lib.hid (((OnlyP.refl p w).below (Nat.le_refl _) (HA.out _)).trans ho)
  have HR1 := Lib.hid h5
  have HK1 := Lib.hid (And.intro h1 (And.intro h2 (And.intro h3 h4)))
  have hz1 := HO1.out.size
  clear h1 h2 h3 h4 h5 ho
  go_wp2_with fail
  refine (CS.out _ HO1.out).mono ?_
  rintro e w2 ⟨rfl, hb2⟩
  have hk2 := (hb2.block w.heap.size (lt_of_get hk1)).trans hk1
  have HO2 := Lib.hid (HO1.out.below hz1 hb2)
  have HR2 := Lib.hid (HR1.out.below HR1.out.lt hb2)
  have hz2 := HO2.out.size
  have hwg' := lt_of_get hk2
  have ⟨⟨e0, e1, e2, e3, e4⟩, p0, p1, p2, p3, p4⟩ := keep5 hk2
  clear hb2 hk1
  go_wp2_with fail
  have HA2 : Hid (∀ o, Below w2.heap.size w2 (w2.alloc o)) := Lib.hid fun o => (Below.refl _ _).alloc (Nat.le_refl _) o
  have hrc : (w2.alloc (.cells #[.int .i64 1, .string key, .string nm, .int .i64 f, .slice none 0 0] 50)).heap[w.heap.size]? = _ := ((HA2.out _).block w.heap.size (lt_of_get hk2)).trans hk2
  have hsc := heap_alloc_new w2 (.cells #[.int .i64 1, .string key, .string nm, .int .i64 f, .slice none 0 0] 50)
  have OC := Lib.hid (HO2.out.below hz2 (HA2.out (.cells #[.int .i64 1, .string key, .string nm, .int .i64 f, .slice none 0 0] 50)))
  have RC := Lib.hid (HR2.out.below HR2.out.lt (HA2.out (.cells #[.int .i64 1, .string key, .string nm, .int .i64 f, .slice none 0 0] 50)))
  have hwg : w.heap.size ≤ w2.heap.size := hz2
  generalize hkc : k1 = kc at *
  have HK : Hid (k ≤ kc ∧ kc ≤ W.length ∧ True) := Lib.hid ⟨HK1.out.1, HK1.out.2.1, trivial⟩
  have HOK : Hid (OkI 1 ∧ OkS key ∧ OkS nm ∧ OkI f) := Lib.hid ⟨by unfold OkI; omega, hok.2.1, hok.2.2, hok.1⟩
  obtain ⟨r0, hr0⟩ : ∃ r, oneB 1 key nm f 0 = r := ⟨_, rfl⟩
  obtain ⟨rb, hrb⟩ : ∃ r, r0 = r := ⟨_, rfl⟩
  have HR0 := Lib.hid hr0
  have HRB : Hid (∀ m, 0 < m → oneB 1 key nm f m = rb) := Lib.hid fun m _ => by rw [oneB_len1, hr0, hrb]
  have HLT : Hid (r0 = true → k < kc) := Lib.hid fun e => by
    have hne := (hh (hr0.trans e)).1
    have hk : k < W.length := by
      rcases Nat.lt_or_ge k W.length with g | g
      · exact g
      · exact absurd (List.drop_eq_nil_of_le g) hne
    have := HK1.out.2.2.1 hk; omega
  have HYES : Hid (rb = true → word (W.drop kc) = [123] → ∀ s V, Reads s ((W.drop kc).drop 1) V → ReadsOne 1 key nm f s (W.drop k) V) := Lib.hid fun e hw s V hr => ⟨_, (hh (hr0.trans (hrb.trans e))).2, .inr ⟨by omega, by rw [← HK1.out.2.2.2]; exact hw, by rw [← HK1.out.2.2.2]; exact hr⟩⟩
  have HY0 : Hid (r0 = true → word (W.drop kc) ≠ [123] → ReadsOne 1 key nm f .nil (W.drop k) (W.drop kc)) := Lib.hid fun e hw => ⟨_, (hh (hr0.trans e)).2, .inl ⟨rfl, HK1.out.2.2.2, by omega, fun _ => by rw [← HK1.out.2.2.2]; exact hw⟩⟩
  have HN0 : Hid (r0 = false → ¬ ∃ kd key nm f u W1, ReadsOne kd key nm f u (W.drop k) W1) := Lib.hid fun e => noOne_head (hh2 (hr0.trans e))
  have HNH : Hid (rb = false → ¬ ∃ kd key nm f u W1, ReadsOne kd key nm f u (W.drop k) W1) := Lib.hid fun e => HN0.out (hrb.trans e)
  have HNB : Hid (word (W.drop kc) = [123] → (¬ ∃ s V, word (W.drop kc) = [123] ∧ Reads s ((W.drop kc).drop 1) V) → ¬ ∃ kd key nm f u W1, ReadsOne kd key nm f u (W.drop k) W1) := Lib.hid fun hw hno => by
    cases hb : r0 with
    | false => exact HN0.out hb
    | true => exact noOne_block (hh (hr0.trans hb)).2 (by omega) (by rw [← HK1.out.2.2.2]; exact hw) (by rw [← HK1.out.2.2.2]; exact hno)
  clear e0 e1 e2 e3 e4 p0 p1 p2 p3 p4 hk2 hh hh2 hok hr0 hrb hkc HR CN CS HA hk0 hx HR1 HO1 HR2 HO2
  generalize w2.alloc (.cells #[.int .i64 1, .string key, .string nm, .int .i64 f, .slice none 0 0] 50) = wc at *
  generalize w2.heap.size = g at *
  refine (rpPeek wc p cap kc a W RC.out HK.out.2.1).mono ?_
  rintro e w3 ⟨rfl, hb3⟩
  have hr := (hb3.block w.heap.size (lt_of_get hrc)).trans hrc
  have hs := (hb3.block g (lt_of_get hsc)).trans hsc
  have RF := Lib.hid (RC.out.below RC.out.lt hb3)
  have OF := Lib.hid (OC.out.below OC.out.size hb3)
  clear hb3 hrc hsc
  have ⟨⟨e0, e1, e2, e3, e4⟩, p0, p1, p2, p3, p4⟩ := keep5 hr
  have ⟨⟨s0, s1, s2, s3, s4⟩, q0, q1, q2, q3, q4⟩ := keep5 hs
  have hz3 := OF.out.size
  by_cases hw : word (W.drop kc) = [123]
  · have HW := Lib.hid hw
    have y1 : (ub (word (W.drop kc))).toList = [123] := by rw [toList_ub]; exact hw
    have y2 : ((ub (word (W.drop kc))).toList == [123]) = true := by rw [y1]; rfl
    have CB := Lib.hid (HB.out w3 p cap kc a W (by have := HK.out; omega) RF.out HK.out.2.1 (OF.out.vars hplt HV.out))
    have hgs : g < w3.heap.size := lt_of_get hs
    clear hw
    generalize ub (word (W.drop kc)) = y at *
    go_wp2_with fail
    refine CB.out.mono ?_
    rintro e w4 ⟨v, err, k2, rfl, ho4, h1, h2, hR4, hcase⟩
    replace hr := (ho4.block w.heap.size (lt_of_get hr) (by omega)).trans hr
    replace hs := (ho4.block g (lt_of_get hs) (by omega)).trans hs
    replace OF := Lib.hid (OF.out.trans ho4)
    replace RF := Lib.hid hR4
    have HK2 := Lib.hid (And.intro h1 h2)
    clear ho4 hR4 h1 h2 e0 e1 e2 e3 e4 p0 p1 p2 p3 p4 s0 s1 s2 s3 s4 q0 q1 q2 q3 q4
    have ⟨⟨e0, e1, e2, e3, e4⟩, p0, p1, p2, p3, p4⟩ := keep5 hr
    have ⟨⟨s0, s1, s2, s3, s4⟩, q0, q1, q2, q3, q4⟩ := keep5 hs
    have hz4 := OF.out.size
    rcases hcase with ⟨rfl, s, a', cap', rfl, hsx, hwd, hreads, hlt⟩ | ⟨rfl, rfl, hno⟩
    · have HX := Lib.hid hsx
      have HRd := Lib.hid (And.intro hreads hlt)
      have hlen := hsx.2.1
      have hpos : Hid (0 < s.len) := Lib.hid (by cases s with
        | nil => exact hreads.elim
        | cons => simp [Sels.len])
      clear hsx hreads hlt hwd
      have hs5 := set_cell4 hs (.slice a' s.len cap')
      have hr5 := ((set_other w4 (i := 4) (show w.heap.size ≠ g by omega) (.slice a' s.len cap')).trans hr)
      have O5 := Lib.hid (OF.out.put (g := g) (j := 4) hwg (.slice a' s.len cap'))
      have R5 := Lib.hid (Rd.put RF.out (g := g) (j := 4) (by omega) (.slice a' s.len cap'))
      have X5 : Hid (SelsX (w4.setCell ⟨g, 4, none⟩ (.slice a' s.len cap')) w3.heap.size w4.heap.size a' s.len s) := Lib.hid (HX.out.block fun c c1 _ => set_other w4 (by omega) _)
      have CR : Hid (∀ w', Calls Tryz.prog 72 #[.agg #[.int .i64 1, .string key, .string nm, .int .i64 f, .slice a' s.len cap']] w' fun e w'' => e = .returned (.bool rb) ∧ Below w'.heap.size w' w'') := Lib.hid fun w' => by
        have := implSelRight w' 1 key nm f a' cap' s.len HOK.out (by omega)
        rw [HRB.out s.len hpos.out] at this; exact this
      clear OF RF HX hr hs
      go_wp2_with fail
      refine (CR.out _).mono ?_
      rintro e w6 ⟨rfl, hb6⟩
      have hr := (hb6.block w.heap.size (lt_of_get hr5)).trans hr5
      have hs := (hb6.block g (lt_of_get hs5)).trans hs5
      have OF := Lib.hid (O5.out.below O5.out.size hb6)
      have RF := Lib.hid (R5.out.below R5.out.lt hb6)
      have X6 := Lib.hid (X5.out.below (by simp) hb6)
      have hz6 := OF.out.size
      have hz3' : w.heap.size < w3.heap.size := by omega
      have hz46 : w4.heap.size ≤ w6.heap.size := by have := hb6.size; simpa using this
      clear hb6 hr5 hs5 O5 R5 X5 e0 e1 e2 e3 e4 p0 p1 p2 p3 p4 s0 s1 s2 s3 s4 q0 q1 q2 q3 q4
      have ⟨⟨e0, e1, e2, e3, e4⟩, p0, p1, p2, p3, p4⟩ := keep5 hr
      have ⟨⟨s0, s1, s2, s3, s4⟩, q0, q1, q2, q3, q4⟩ := keep5 hs
      cases rb
      · have HFX := Lib.hid (set5_block hr (.int .i64 1) (.string key) (.string nm) (.int .i64 f) (.slice a' s.len cap'))
        have HOF := Lib.hid (OF.out.set5 (g := w.heap.size) (Nat.le_refl _) (.int .i64 1) (.string key) (.string nm) (.int .i64 f) (.slice a' s.len cap'))
        have HRF := Lib.hid (Rd.set5 RF.out (g := w.heap.size) hplt (.int .i64 1) (.string key) (.string nm) (.int .i64 f) (.slice a' s.len cap'))
        have HSF : Hid (SelsX (set5 w6 w.heap.size (.int .i64 1) (.string key) (.string nm) (.int .i64 f) (.slice a' s.len cap')) w.heap.size (set5 w6 w.heap.size (.int .i64 1) (.string key) (.string nm) (.int .i64 f) (.slice a' s.len cap')).heap.size a' s.len s) := Lib.hid ((SelsX.set5 X6.out (g := w.heap.size) hz3' (.int .i64 1) (.string key) (.string nm) (.int .i64 f) (.slice a' s.len cap')).wide hz3 (by rw [set5_size]; exact hz46))
        clear hr hs
        go_wp2_with fail
        change bodyPost _ _ _ _ _ (set5 w6 w.heap.size (.int .i64 1) (.string key) (.string nm) (.int .i64 f) (.slice a' s.len cap'))
        generalize set5 w6 w.heap.size (.int .i64 1) (.string key) (.string nm) (.int .i64 f) (.slice a' s.len cap') = WF at *
        have ⟨⟨f0, f1, f2, f3, f4⟩, _⟩ := keep5 HFX.out
        exact bodyPost_ret (v := .tuple #[.agg #[.int .i64 1, .string key, .string nm, .int .i64 f, .slice a' s.len cap'], .iface 60 (.agg #[.int .i64 3])]) (by simp [results, Tryz.results59, go_sem, f0, f1, f2, f3, f4]) rfl ⟨_, _, _, _, _, _, s, _, _, rfl, HOF.out, Nat.le_trans HK.out.1 HK2.out.1, HK2.out.2, HRF.out, .inr ⟨rfl, HNH.out (by trivial)⟩⟩

      · have HFX := Lib.hid (set5_block hr (.int .i64 1) (.string key) (.string nm) (.int .i64 f) (.slice a' s.len cap'))
        have HOF := Lib.hid (OF.out.set5 (g := w.heap.size) (Nat.le_refl _) (.int .i64 1) (.string key) (.string nm) (.int .i64 f) (.slice a' s.len cap'))
        have HRF := Lib.hid (Rd.set5 RF.out (g := w.heap.size) hplt (.int .i64 1) (.string key) (.string nm) (.int .i64 f) (.slice a' s.len cap'))
        have HSF : Hid (SelsX (set5 w6 w.heap.size (.int .i64 1) (.string key) (.string nm) (.int .i64 f) (.slice a' s.len cap')) w.heap.size (set5 w6 w.heap.size (.int .i64 1) (.string key) (.string nm) (.int .i64 f) (.slice a' s.len cap')).heap.size a' s.len s) := Lib.hid ((SelsX.set5 X6.out (g := w.heap.size) hz3' (.int .i64 1) (.string key) (.string nm) (.int .i64 f) (.slice a' s.len cap')).wide hz3 (by rw [set5_size]; exact hz46))
        clear hr hs
        go_wp2_with fail
        change bodyPost _ _ _ _ _ (set5 w6 w.heap.size (.int .i64 1) (.string key) (.string nm) (.int .i64 f) (.slice a' s.len cap'))
        generalize set5 w6 w.heap.size (.int .i64 1) (.string key) (.string nm) (.int .i64 f) (.slice a' s.len cap') = WF at *
        have ⟨⟨f0, f1, f2, f3, f4⟩, _⟩ := keep5 HFX.out
        exact bodyPost_ret (v := .tuple #[.agg #[.int .i64 1, .string key, .string nm, .int .i64 f, .slice a' s.len cap'], .nilIface]) (by simp [results, Tryz.results59, go_sem, f0, f1, f2, f3, f4]) rfl ⟨_, _, _, _, _, _, s, _, _, rfl, HOF.out, Nat.le_trans HK.out.1 HK2.out.1, HK2.out.2, HRF.out, .inl ⟨rfl, HSF.out, HOK.out, HYES.out (by trivial) HW.out _ _ HRd.out.1, Nat.lt_of_le_of_lt HK.out.1 HRd.out.2⟩⟩

    · have HNO := Lib.hid hno
      clear hno
      have hs5 := set_cell4 hs (.slice none 0 0)
      have hr5 := ((set_other w4 (i := 4) (show w.heap.size ≠ g by omega) (.slice none 0 0)).trans hr)
      have O5 := Lib.hid (OF.out.put (g := g) (j := 4) hwg (.slice none 0 0))
      have R5 := Lib.hid (Rd.put RF.out (g := g) (j := 4) (by omega) (.slice none 0 0))
      clear OF RF hr hs
      have hz5 : w.heap.size ≤ (w4.setCell ⟨g, 4, none⟩ (.slice none 0 0)).heap.size := O5.out.size
      have hr := hr5
      have OF := O5
      have RF := R5
      have hs := hs5
      have HFX := Lib.hid (set5_block hr (.int .i64 1) (.string key) (.string nm) (.int .i64 f) (.slice none 0 0))
      have HOF := Lib.hid (OF.out.set5 (g := w.heap.size) (Nat.le_refl _) (.int .i64 1) (.string key) (.string nm) (.int .i64 f) (.slice none 0 0))
      have HRF := Lib.hid (Rd.set5 RF.out (g := w.heap.size) hplt (.int .i64 1) (.string key) (.string nm) (.int .i64 f) (.slice none 0 0))
      have HSF : Hid (SelsX (set5 (w4.setCell ⟨g, 4, none⟩ (.slice none 0 0)) w.heap.size (.int .i64 1) (.string key) (.string nm) (.int .i64 f) (.slice none 0 0)) w.heap.size (set5 (w4.setCell ⟨g, 4, none⟩ (.slice none 0 0)) w.heap.size (.int .i64 1) (.string key) (.string nm) (.int .i64 f) (.slice none 0 0)).heap.size none Sels.nil.len Sels.nil) := Lib.hid ⟨rfl, Nat.zero_le _, by rw [set5_size]; exact hz5, .inl rfl⟩
      clear hr hs hr5 hs5
      go_wp2_with fail
      change bodyPost _ _ _ _ _ (set5 (w4.setCell ⟨g, 4, none⟩ (.slice none 0 0)) w.heap.size (.int .i64 1) (.string key) (.string nm) (.int .i64 f) (.slice none 0 0))
      generalize set5 (w4.setCell ⟨g, 4, none⟩ (.slice none 0 0)) w.heap.size (.int .i64 1) (.string key) (.string nm) (.int .i64 f) (.slice none 0 0) = WF at *
      have ⟨⟨f0, f1, f2, f3, f4⟩, _⟩ := keep5 HFX.out
      exact bodyPost_ret (v := .tuple #[.agg #[.int .i64 1, .string key, .string nm, .int .i64 f, .slice none 0 0], .iface 60 (.agg #[.int .i64 3])]) (by simp [results, Tryz.results59, go_sem, f0, f1, f2, f3, f4]) rfl ⟨_, _, _, _, _, _, Sels.nil, _, _, rfl, HOF.out, Nat.le_trans HK.out.1 HK2.out.1, HK2.out.2, HRF.out, .inr ⟨rfl, HNB.out HW.out HNO.out⟩⟩

  · have HW := Lib.hid hw
    have y1 : (ub (word (W.drop kc))).toList ≠ [123] := by rw [toList_ub]; exact hw
    have y2 : ((ub (word (W.drop kc))).toList == [123]) = false := beq_eq_false_iff_ne.2 y1
    have CR : Hid (∀ w', Calls Tryz.prog 72 #[.agg #[.int .i64 1, .string key, .string nm, .int .i64 f, .slice none 0 0]] w' fun e w'' => e = .returned (.bool r0) ∧ Below w'.heap.size w' w'') := Lib.hid fun w' => by
      have := implSelRight w' 1 key nm f none 0 0 HOK.out (by omega)
      rw [HR0.out] at this; exact this
    clear hw
    generalize ub (word (W.drop kc)) = y at *
    go_wp2_with fail
    refine (CR.out _).mono ?_
    rintro e w6 ⟨rfl, hb6⟩
    replace hr := (hb6.block w.heap.size (lt_of_get hr)).trans hr
    replace hs := (hb6.block g (lt_of_get hs)).trans hs
    replace OF := Lib.hid (OF.out.below OF.out.size hb6)
    replace RF := Lib.hid (RF.out.below RF.out.lt hb6)
    have hz5 := OF.out.size
    clear hb6 e0 e1 e2 e3 e4 p0 p1 p2 p3 p4 s0 s1 s2 s3 s4 q0 q1 q2 q3 q4
    have ⟨⟨e0, e1, e2, e3, e4⟩, p0, p1, p2, p3, p4⟩ := keep5 hr
    have ⟨⟨s0, s1, s2, s3, s4⟩, q0, q1, q2, q3, q4⟩ := keep5 hs
    cases r0
    · have HFX := Lib.hid (set5_block hr (.int .i64 1) (.string key) (.string nm) (.int .i64 f) (.slice none 0 0))
      have HOF := Lib.hid (OF.out.set5 (g := w.heap.size) (Nat.le_refl _) (.int .i64 1) (.string key) (.string nm) (.int .i64 f) (.slice none 0 0))
      have HRF := Lib.hid (Rd.set5 RF.out (g := w.heap.size) hplt (.int .i64 1) (.string key) (.string nm) (.int .i64 f) (.slice none 0 0))
      have HSF : Hid (SelsX (set5 w6 w.heap.size (.int .i64 1) (.string key) (.string nm) (.int .i64 f) (.slice none 0 0)) w.heap.size (set5 w6 w.heap.size (.int .i64 1) (.string key) (.string nm) (.int .i64 f) (.slice none 0 0)).heap.size none Sels.nil.len Sels.nil) := Lib.hid ⟨rfl, Nat.zero_le _, by rw [set5_size]; exact hz5, .inl rfl⟩
      clear hr hs
      go_wp2_with fail
      change bodyPost _ _ _ _ _ (set5 w6 w.heap.size (.int .i64 1) (.string key) (.string nm) (.int .i64 f) (.slice none 0 0))
      generalize set5 w6 w.heap.size (.int .i64 1) (.string key) (.string nm) (.int .i64 f) (.slice none 0 0) = WF at *
      have ⟨⟨f0, f1, f2, f3, f4⟩, _⟩ := keep5 HFX.out
      exact bodyPost_ret (v := .tuple #[.agg #[.int .i64 1, .string key, .string nm, .int .i64 f, .slice none 0 0], .iface 60 (.agg #[.int .i64 3])]) (by simp [results, Tryz.results59, go_sem, f0, f1, f2, f3, f4]) rfl ⟨_, _, _, _, _, _, Sels.nil, _, _, rfl, HOF.out, HK.out.1, HK.out.2.1, HRF.out, .inr ⟨rfl, HN0.out (by trivial)⟩⟩

    · have HFX := Lib.hid (set5_block hr (.int .i64 1) (.string key) (.string nm) (.int .i64 f) (.slice none 0 0))
      have HOF := Lib.hid (OF.out.set5 (g := w.heap.size) (Nat.le_refl _) (.int .i64 1) (.string key) (.string nm) (.int .i64 f) (.slice none 0 0))
      have HRF := Lib.hid (Rd.set5 RF.out (g := w.heap.size) hplt (.int .i64 1) (.string key) (.string nm) (.int .i64 f) (.slice none 0 0))
      have HSF : Hid (SelsX (set5 w6 w.heap.size (.int .i64 1) (.string key) (.string nm) (.int .i64 f) (.slice none 0 0)) w.heap.size (set5 w6 w.heap.size (.int .i64 1) (.string key) (.string nm) (.int .i64 f) (.slice none 0 0)).heap.size none Sels.nil.len Sels.nil) := Lib.hid ⟨rfl, Nat.zero_le _, by rw [set5_size]; exact hz5, .inl rfl⟩
      clear hr hs
      go_wp2_with fail
      change bodyPost _ _ _ _ _ (set5 w6 w.heap.size (.int .i64 1) (.string key) (.string nm) (.int .i64 f) (.slice none 0 0))
      generalize set5 w6 w.heap.size (.int .i64 1) (.string key) (.string nm) (.int .i64 f) (.slice none 0 0) = WF at *
      have ⟨⟨f0, f1, f2, f3, f4⟩, _⟩ := keep5 HFX.out
      exact bodyPost_ret (v := .tuple #[.agg #[.int .i64 1, .string key, .string nm, .int .i64 f, .slice none 0 0], .nilIface]) (by simp [results, Tryz.results59, go_sem, f0, f1, f2, f3, f4]) rfl ⟨_, _, _, _, _, _, Sels.nil, _, _, rfl, HOF.out, HK.out.1, HK.out.2.1, HRF.out, .inl ⟨rfl, HSF.out, HOK.out, HY0.out (by trivial) HW.out, HLT.out (by trivial)⟩⟩

set_option maxHeartbeats 4000000 in
theorem selRd_on (n : Nat) (w : World) (p cap k : Nat) (a : Option Addr) (W : List Tok) (hn : W.length - k < n) (hsel : selOfP (word (W.drop k)) = (2, ByteArray.empty, ByteArray.empty, -1)) (Y : List Tok) (hX : W.drop k = [46, 46, 46, 111, 110] :: Y) :
    Hid (BlockOk n) → Hid (RdI w p a cap W k) → Hid (k ≤ W.length) → Hid (Vars p w) → Calls Tryz.prog 59 #[.pointer (some ⟨p, 0, none⟩)] w fun e w' => ∃ kd key nm f a' cap' u err k', e = .returned (.tuple #[.agg #[.int .i64 kd, .string key, .string nm, .int .i64 f, .slice a' u.len cap'], err]) ∧ OnlyP p w w' ∧ k ≤ k' ∧ k' ≤ W.length ∧ RdI w' p a cap W k' ∧
    ((err = .nilIface ∧ SelsX w' w.heap.size w'.heap.size a' u.len u ∧ (OkI kd ∧ OkS key ∧ OkS nm ∧ OkI f) ∧ ReadsOne kd key nm f u (W.drop k) (W.drop k') ∧ k < k') ∨
     (err = (.iface 60 (.agg #[.int .i64 3])) ∧ ¬ ∃ kd key nm f u W1, ReadsOne kd key nm f u (W.drop k) W1)) := by
  intro HB HR HKL HV
  have hplt := HR.out.lt
  have CN := Lib.hid (show ∀ w', Below w.heap.size w w' → _ from fun w' hb => rpNext w' p cap k a W (HR.out.below hplt hb) HKL.out)
  have CS : Hid (∀ w', OnlyP p w w' → Calls Tryz.prog 71 #[.string (ub (word (W.drop k)))] w' fun e w'' => e = .returned (selV (2, ByteArray.empty, ByteArray.empty, -1)) ∧ Below w'.heap.size w' w'') := Lib.hid fun w' hb => by
    have := implSelOf (ub (word (W.drop k))) (by rw [ub_size']; exact word_len HR.out.sizes k) w' p (hb.vars hplt HV.out) (by have := hb.size; omega)
    rw [bl_ub, hsel] at this; exact this
  have HA : Hid (∀ o, Below w.heap.size w (w.alloc o)) := Lib.hid fun o => (Below.refl _ _).alloc (Nat.le_refl _) o
  have hk0 : Hid ((w.alloc (.cells #[.int .i64 0, .string ⟨#[]⟩, .string ⟨#[]⟩, .int .i64 0, .slice none 0 0] 50)).heap[w.heap.size]? = some (.cells #[.int .i64 0, .string ⟨#[]⟩, .string ⟨#[]⟩, .int .i64 0, .slice none 0 0] 50 (0, 0))) := Lib.hid (heap_alloc_new w _)
  have HWL := Lib.hid (fun k => word_len HR.out.sizes k)
  clear hsel
  simp only [selV] at CS
  generalize hx : ub (word (W.drop k)) = x at CN CS
  go_enter Tryz.func59, Tryz.ntmps59
  go_wp2_with fail
  refine (CN.out _ (HA.out _)).mono ?_
  rintro e w1 ⟨rfl, ⟨k1, h1, h2, h3, h4, h5⟩, ho⟩
  have hk1 := (ho.block w.heap.size (by simp) (by omega)).trans hk0.out
  have HO1 := Lib.hid (((OnlyP.refl p w).below (Nat.le_refl _) (HA.out _)).trans ho)
  have HR1 := Lib.hid h5
  have HK1 := Lib.hid (And.intro h1 (And.intro h2 (And.intro h3 h4)))
  have hz1 := HO1.out.size
  clear h1 h2 h3 h4 h5 ho
  go_wp2_with fail
  refine (CS.out _ HO1.out).mono ?_
  rintro e w2 ⟨rfl, hb2⟩
  have hk2 := (hb2.block w.heap.size (lt_of_get hk1)).trans hk1
  have HO2 := Lib.hid (HO1.out.below hz1 hb2)
  have HR2 := Lib.hid (HR1.out.below HR1.out.lt hb2)
  have hz2 := HO2.out.size
  have hwg' := lt_of_get hk2
  have ⟨⟨e0, e1, e2, e3, e4⟩, p0, p1, p2, p3, p4⟩ := keep5 hk2
  clear hb2 hk1
  go_wp2_with fail
  have HA2 : Hid (∀ o, Below w2.heap.size w2 (w2.alloc o)) := Lib.hid fun o => (Below.refl _ _).alloc (Nat.le_refl _) o
  have hrc : (w2.alloc (.cells #[.int .i64 2, .string ByteArray.empty, .string ByteArray.empty, .int .i64 (-1), .slice none 0 0] 50)).heap[w.heap.size]? = _ := ((HA2.out _).block w.heap.size (lt_of_get hk2)).trans hk2
  have hsc := heap_alloc_new w2 (.cells #[.int .i64 2, .string ByteArray.empty, .string ByteArray.empty, .int .i64 (-1), .slice none 0 0] 50)
  have OC := Lib.hid (HO2.out.below hz2 (HA2.out (.cells #[.int .i64 2, .string ByteArray.empty, .string ByteArray.empty, .int .i64 (-1), .slice none 0 0] 50)))
  have RC := Lib.hid (HR2.out.below HR2.out.lt (HA2.out (.cells #[.int .i64 2, .string ByteArray.empty, .string ByteArray.empty, .int .i64 (-1), .slice none 0 0] 50)))
  have hwg : w.heap.size ≤ w2.heap.size := hz2
  clear e0 e1 e2 e3 e4 p0 p1 p2 p3 p4 hk2 HR CN CS HA hk0 hx HR1 HO1 HR2 HO2
  generalize w2.alloc (.cells #[.int .i64 2, .string ByteArray.empty, .string ByteArray.empty, .int .i64 (-1), .slice none 0 0] 50) = wa at *
  generalize w2.heap.size = g at *
  refine (rpNext wa p cap k1 a W RC.out HK1.out.2.1).mono ?_
  rintro e wb ⟨rfl, ⟨kc, h1, h2, h3, h4, h5⟩, ho⟩
  have hga := lt_of_get hsc
  have hra := (ho.block w.heap.size (lt_of_get hrc) (by omega)).trans hrc
  have hsa := (ho.block g (lt_of_get hsc) (by omega)).trans hsc
  have OB := Lib.hid (OC.out.trans ho)
  obtain ⟨nm, hnm⟩ : ∃ nm, ub (word (W.drop k1)) = nm := ⟨_, rfl⟩
  rw [hnm]
  have hWk : k < W.length := by
    rcases Nat.lt_or_ge k W.length with g | g
    · exact g
    · rw [List.drop_eq_nil_of_le g] at hX; cases hX
  have hk1 : k1 = k + 1 := HK1.out.2.2.1 hWk
  have hdY : W.drop k1 = Y := by rw [HK1.out.2.2.2, hX]; rfl
  have hdc : W.drop kc = Y.drop 1 := by rw [h4, hdY]
  have hhd : headF (W.drop k) = if typeB nm = true then some (2, ByteArray.empty, nm, -1, W.drop kc) else none := by
    rw [hX, headF_cons, if_pos rfl, ← hdY, hnm, ← h4]
  have HK : Hid (k ≤ kc ∧ kc ≤ W.length ∧ k < kc) := Lib.hid ⟨by omega, h2, by omega⟩
  have HOK : Hid (OkI 2 ∧ OkS ByteArray.empty ∧ OkS nm ∧ OkI (-1)) := Lib.hid ⟨by unfold OkI; omega, by unfold OkS; decide, by rw [← hnm]; exact okS_ub (HWL.out k1), by unfold OkI; omega⟩
  obtain ⟨r0, hr0⟩ : ∃ r : Bool, false = r := ⟨_, rfl⟩
  obtain ⟨rb, hrb⟩ : ∃ r, typeB nm = r := ⟨_, rfl⟩
  have HR0 : Hid (oneB 2 ByteArray.empty nm (-1) 0 = false) := Lib.hid (by rw [oneB_2]; simp)
  have HRB : Hid (∀ m, 0 < m → oneB 2 ByteArray.empty nm (-1) m = rb) := Lib.hid fun m hm => by rw [oneB_2, hrb, decide_eq_true hm, show (ByteArray.empty.toList == []) = true from by rw [Lib.toList_data]; rfl]; simp
  have HNH : Hid (rb = false → ¬ ∃ kd key nm f u W1, ReadsOne kd key nm f u (W.drop k) W1) := Lib.hid fun e => noOne_head (by rw [hhd, hrb, e]; rfl)
  have HYES : Hid (rb = true → word (W.drop kc) = [123] → ∀ s V, Reads s ((W.drop kc).drop 1) V → ReadsOne 2 ByteArray.empty nm (-1) s (W.drop k) V) := Lib.hid fun e hw s V hr => ⟨W.drop kc, by rw [hhd, hrb, e]; rfl, .inr ⟨by omega, hw, hr⟩⟩
  have HN0 : Hid (word (W.drop kc) ≠ [123] → ¬ ∃ kd key nm f u W1, ReadsOne kd key nm f u (W.drop k) W1) := Lib.hid fun hw => by
    cases hb : rb with
    | false => exact HNH.out hb
    | true => exact noOne_on (by rw [hhd, hrb, hb]; rfl) hw
  have HNB : Hid (word (W.drop kc) = [123] → (¬ ∃ s V, word (W.drop kc) = [123] ∧ Reads s ((W.drop kc).drop 1) V) → ¬ ∃ kd key nm f u W1, ReadsOne kd key nm f u (W.drop k) W1) := Lib.hid fun hw hno => by
    cases hb : rb with
    | false => exact HNH.out hb
    | true => exact noOne_block (f := -1) (by rw [hhd, hrb, hb]; rfl) (by omega) hw hno
  have RB := Lib.hid h5
  clear h1 h2 h3 h4 h5 ho hrc hsc OC RC hnm hdY hdc hhd hrb hr0 hX hk1 hWk HWL HK1
  have hgb := lt_of_get hsa
  have ⟨⟨e0, e1, e2, e3, e4⟩, p0, p1, p2, p3, p4⟩ := keep5 hra
  have ⟨⟨s0, s1, s2, s3, s4⟩, q0, q1, q2, q3, q4⟩ := keep5 hsa
  have hsc := set_cell2 hsa (.string nm)
  have hrc := ((set_other wb (i := 2) (show w.heap.size ≠ g by omega) (.string nm)).trans hra)
  have OC := Lib.hid (OB.out.put (g := g) (j := 2) hwg (.string nm))
  have RC := Lib.hid (Rd.put RB.out (g := g) (j := 2) (by omega) (.string nm))
  go_wp2_with fail
  clear e0 e1 e2 e3 e4 p0 p1 p2 p3 p4 s0 s1 s2 s3 s4 q0 q1 q2 q3 q4 hra hsa OB RB
  generalize wb.setCell ⟨g, 2, none⟩ (.string nm) = wc at *
  refine (rpPeek wc p cap kc a W RC.out HK.out.2.1).mono ?_
  rintro e w3 ⟨rfl, hb3⟩
  have hr := (hb3.block w.heap.size (lt_of_get hrc)).trans hrc
  have hs := (hb3.block g (lt_of_get hsc)).trans hsc
  have RF := Lib.hid (RC.out.below RC.out.lt hb3)
  have OF := Lib.hid (OC.out.below OC.out.size hb3)
  clear hb3 hrc hsc
  have ⟨⟨e0, e1, e2, e3, e4⟩, p0, p1, p2, p3, p4⟩ := keep5 hr
  have ⟨⟨s0, s1, s2, s3, s4⟩, q0, q1, q2, q3, q4⟩ := keep5 hs
  have hz3 := OF.out.size
  by_cases hw : word (W.drop kc) = [123]
  · have HW := Lib.hid hw
    have y1 : (ub (word (W.drop kc))).toList = [123] := by rw [toList_ub]; exact hw
    have y2 : ((ub (word (W.drop kc))).toList == [123]) = true := by rw [y1]; rfl
    have CB := Lib.hid (HB.out w3 p cap kc a W (by have := HK.out; omega) RF.out HK.out.2.1 (OF.out.vars hplt HV.out))
    have hgs : g < w3.heap.size := lt_of_get hs
    clear hw
    generalize ub (word (W.drop kc)) = y at *
    go_wp2_with fail
    refine CB.out.mono ?_
    rintro e w4 ⟨v, err, k2, rfl, ho4, h1, h2, hR4, hcase⟩
    replace hr := (ho4.block w.heap.size (lt_of_get hr) (by omega)).trans hr
    replace hs := (ho4.block g (lt_of_get hs) (by omega)).trans hs
    replace OF := Lib.hid (OF.out.trans ho4)
    replace RF := Lib.hid hR4
    have HK2 := Lib.hid (And.intro h1 h2)
    clear ho4 hR4 h1 h2 e0 e1 e2 e3 e4 p0 p1 p2 p3 p4 s0 s1 s2 s3 s4 q0 q1 q2 q3 q4
    have ⟨⟨e0, e1, e2, e3, e4⟩, p0, p1, p2, p3, p4⟩ := keep5 hr
    have ⟨⟨s0, s1, s2, s3, s4⟩, q0, q1, q2, q3, q4⟩ := keep5 hs
    have hz4 := OF.out.size
    rcases hcase with ⟨rfl, s, a', cap', rfl, hsx, hwd, hreads, hlt⟩ | ⟨rfl, rfl, hno⟩
    · have HX := Lib.hid hsx
      have HRd := Lib.hid (And.intro hreads hlt)
      have hlen := hsx.2.1
      have hpos : Hid (0 < s.len) := Lib.hid (by cases s with
        | nil => exact hreads.elim
        | cons => simp [Sels.len])
      clear hsx hreads hlt hwd
      have hs5 := set_cell4 hs (.slice a' s.len cap')
      have hr5 := ((set_other w4 (i := 4) (show w.heap.size ≠ g by omega) (.slice a' s.len cap')).trans hr)
      have O5 := Lib.hid (OF.out.put (g := g) (j := 4) hwg (.slice a' s.len cap'))
      have R5 := Lib.hid (Rd.put RF.out (g := g) (j := 4) (by omega) (.slice a' s.len cap'))
      have X5 : Hid (SelsX (w4.setCell ⟨g, 4, none⟩ (.slice a' s.len cap')) w3.heap.size w4.heap.size a' s.len s) := Lib.hid (HX.out.block fun c c1 _ => set_other w4 (by omega) _)
      have CR : Hid (∀ w', Calls Tryz.prog 72 #[.agg #[.int .i64 2, .string ByteArray.empty, .string nm, .int .i64 (-1), .slice a' s.len cap']] w' fun e w'' => e = .returned (.bool rb) ∧ Below w'.heap.size w' w'') := Lib.hid fun w' => by
        have := implSelRight w' 2 ByteArray.empty nm (-1) a' cap' s.len HOK.out (by omega)
        rw [HRB.out s.len hpos.out] at this; exact this
      clear OF RF HX hr hs
      go_wp2_with fail
      refine (CR.out _).mono ?_
      rintro e w6 ⟨rfl, hb6⟩
      have hr := (hb6.block w.heap.size (lt_of_get hr5)).trans hr5
      have hs := (hb6.block g (lt_of_get hs5)).trans hs5
      have OF := Lib.hid (O5.out.below O5.out.size hb6)
      have RF := Lib.hid (R5.out.below R5.out.lt hb6)
      have X6 := Lib.hid (X5.out.below (by simp) hb6)
      have hz6 := OF.out.size
      have hz3' : w.heap.size < w3.heap.size := by omega
      have hz46 : w4.heap.size ≤ w6.heap.size := by have := hb6.size; simpa using this
      clear hb6 hr5 hs5 O5 R5 X5 e0 e1 e2 e3 e4 p0 p1 p2 p3 p4 s0 s1 s2 s3 s4 q0 q1 q2 q3 q4
      have ⟨⟨e0, e1, e2, e3, e4⟩, p0, p1, p2, p3, p4⟩ := keep5 hr
      have ⟨⟨s0, s1, s2, s3, s4⟩, q0, q1, q2, q3, q4⟩ := keep5 hs
      cases rb
      · have HFX := Lib.hid (set5_block hr (.int .i64 2) (.string ByteArray.empty) (.string nm) (.int .i64 (-1)) (.slice a' s.len cap'))
        have HOF := Lib.hid (OF.out.set5 (g := w.heap.size) (Nat.le_refl _) (.int .i64 2) (.string ByteArray.empty) (.string nm) (.int .i64 (-1)) (.slice a' s.len cap'))
        have HRF := Lib.hid (Rd.set5 RF.out (g := w.heap.size) hplt (.int .i64 2) (.string ByteArray.empty) (.string nm) (.int .i64 (-1)) (.slice a' s.len cap'))
        have HSF : Hid (SelsX (set5 w6 w.heap.size (.int .i64 2) (.string ByteArray.empty) (.string nm) (.int .i64 (-1)) (.slice a' s.len cap')) w.heap.size (set5 w6 w.heap.size (.int .i64 2) (.string ByteArray.empty) (.string nm) (.int .i64 (-1)) (.slice a' s.len cap')).heap.size a' s.len s) := Lib.hid ((SelsX.set5 X6.out (g := w.heap.size) hz3' (.int .i64 2) (.string ByteArray.empty) (.string nm) (.int .i64 (-1)) (.slice a' s.len cap')).wide hz3 (by rw [set5_size]; exact hz46))
        clear hr hs
        go_wp2_with fail
        change bodyPost _ _ _ _ _ (set5 w6 w.heap.size (.int .i64 2) (.string ByteArray.empty) (.string nm) (.int .i64 (-1)) (.slice a' s.len cap'))
        generalize set5 w6 w.heap.size (.int .i64 2) (.string ByteArray.empty) (.string nm) (.int .i64 (-1)) (.slice a' s.len cap') = WF at *
        have ⟨⟨f0, f1, f2, f3, f4⟩, _⟩ := keep5 HFX.out
        exact bodyPost_ret (v := .tuple #[.agg #[.int .i64 2, .string ByteArray.empty, .string nm, .int .i64 (-1), .slice a' s.len cap'], .iface 60 (.agg #[.int .i64 3])]) (by simp [results, Tryz.results59, go_sem, f0, f1, f2, f3, f4]) rfl ⟨_, _, _, _, _, _, s, _, _, rfl, HOF.out, Nat.le_trans HK.out.1 HK2.out.1, HK2.out.2, HRF.out, .inr ⟨rfl, HNH.out (by trivial)⟩⟩

      · have HFX := Lib.hid (set5_block hr (.int .i64 2) (.string ByteArray.empty) (.string nm) (.int .i64 (-1)) (.slice a' s.len cap'))
        have HOF := Lib.hid (OF.out.set5 (g := w.heap.size) (Nat.le_refl _) (.int .i64 2) (.string ByteArray.empty) (.string nm) (.int .i64 (-1)) (.slice a' s.len cap'))
        have HRF := Lib.hid (Rd.set5 RF.out (g := w.heap.size) hplt (.int .i64 2) (.string ByteArray.empty) (.string nm) (.int .i64 (-1)) (.slice a' s.len cap'))
        have HSF : Hid (SelsX (set5 w6 w.heap.size (.int .i64 2) (.string ByteArray.empty) (.string nm) (.int .i64 (-1)) (.slice a' s.len cap')) w.heap.size (set5 w6 w.heap.size (.int .i64 2) (.string ByteArray.empty) (.string nm) (.int .i64 (-1)) (.slice a' s.len cap')).heap.size a' s.len s) := Lib.hid ((SelsX.set5 X6.out (g := w.heap.size) hz3' (.int .i64 2) (.string ByteArray.empty) (.string nm) (.int .i64 (-1)) (.slice a' s.len cap')).wide hz3 (by rw [set5_size]; exact hz46))
        clear hr hs
        go_wp2_with fail
        change bodyPost _ _ _ _ _ (set5 w6 w.heap.size (.int .i64 2) (.string ByteArray.empty) (.string nm) (.int .i64 (-1)) (.slice a' s.len cap'))
        generalize set5 w6 w.heap.size (.int .i64 2) (.string ByteArray.empty) (.string nm) (.int .i64 (-1)) (.slice a' s.len cap') = WF at *
        have ⟨⟨f0, f1, f2, f3, f4⟩, _⟩ := keep5 HFX.out
        exact bodyPost_ret (v := .tuple #[.agg #[.int .i64 2, .string ByteArray.empty, .string nm, .int .i64 (-1), .slice a' s.len cap'], .nilIface]) (by simp [results, Tryz.results59, go_sem, f0, f1, f2, f3, f4]) rfl ⟨_, _, _, _, _, _, s, _, _, rfl, HOF.out, Nat.le_trans HK.out.1 HK2.out.1, HK2.out.2, HRF.out, .inl ⟨rfl, HSF.out, HOK.out, HYES.out (by trivial) HW.out _ _ HRd.out.1, Nat.lt_of_le_of_lt HK.out.1 HRd.out.2⟩⟩

    · have HNO := Lib.hid hno
      clear hno
      have hs5 := set_cell4 hs (.slice none 0 0)
      have hr5 := ((set_other w4 (i := 4) (show w.heap.size ≠ g by omega) (.slice none 0 0)).trans hr)
      have O5 := Lib.hid (OF.out.put (g := g) (j := 4) hwg (.slice none 0 0))
      have R5 := Lib.hid (Rd.put RF.out (g := g) (j := 4) (by omega) (.slice none 0 0))
      clear OF RF hr hs
      have hz5 : w.heap.size ≤ (w4.setCell ⟨g, 4, none⟩ (.slice none 0 0)).heap.size := O5.out.size
      have hr := hr5
      have OF := O5
      have RF := R5
      have hs := hs5
      have HFX := Lib.hid (set5_block hr (.int .i64 2) (.string ByteArray.empty) (.string nm) (.int .i64 (-1)) (.slice none 0 0))
      have HOF := Lib.hid (OF.out.set5 (g := w.heap.size) (Nat.le_refl _) (.int .i64 2) (.string ByteArray.empty) (.string nm) (.int .i64 (-1)) (.slice none 0 0))
      have HRF := Lib.hid (Rd.set5 RF.out (g := w.heap.size) hplt (.int .i64 2) (.string ByteArray.empty) (.string nm) (.int .i64 (-1)) (.slice none 0 0))
      have HSF : Hid (SelsX (set5 (w4.setCell ⟨g, 4, none⟩ (.slice none 0 0)) w.heap.size (.int .i64 2) (.string ByteArray.empty) (.string nm) (.int .i64 (-1)) (.slice none 0 0)) w.heap.size (set5 (w4.setCell ⟨g, 4, none⟩ (.slice none 0 0)) w.heap.size (.int .i64 2) (.string ByteArray.empty) (.string nm) (.int .i64 (-1)) (.slice none 0 0)).heap.size none Sels.nil.len Sels.nil) := Lib.hid ⟨rfl, Nat.zero_le _, by rw [set5_size]; exact hz5, .inl rfl⟩
      clear hr hs hr5 hs5
      go_wp2_with fail
      change bodyPost _ _ _ _ _ (set5 (w4.setCell ⟨g, 4, none⟩ (.slice none 0 0)) w.heap.size (.int .i64 2) (.string ByteArray.empty) (.string nm) (.int .i64 (-1)) (.slice none 0 0))
      generalize set5 (w4.setCell ⟨g, 4, none⟩ (.slice none 0 0)) w.heap.size (.int .i64 2) (.string ByteArray.empty) (.string nm) (.int .i64 (-1)) (.slice none 0 0) = WF at *
      have ⟨⟨f0, f1, f2, f3, f4⟩, _⟩ := keep5 HFX.out
      exact bodyPost_ret (v := .tuple #[.agg #[.int .i64 2, .string ByteArray.empty, .string nm, .int .i64 (-1), .slice none 0 0], .iface 60 (.agg #[.int .i64 3])]) (by simp [results, Tryz.results59, go_sem, f0, f1, f2, f3, f4]) rfl ⟨_, _, _, _, _, _, Sels.nil, _, _, rfl, HOF.out, Nat.le_trans HK.out.1 HK2.out.1, HK2.out.2, HRF.out, .inr ⟨rfl, HNB.out HW.out HNO.out⟩⟩

  · have HW := Lib.hid hw
    have y1 : (ub (word (W.drop kc))).toList ≠ [123] := by rw [toList_ub]; exact hw
    have y2 : ((ub (word (W.drop kc))).toList == [123]) = false := beq_eq_false_iff_ne.2 y1
    have CR : Hid (∀ w', Calls Tryz.prog 72 #[.agg #[.int .i64 2, .string ByteArray.empty, .string nm, .int .i64 (-1), .slice none 0 0]] w' fun e w'' => e = .returned (.bool false) ∧ Below w'.heap.size w' w'') := Lib.hid fun w' => by
      have := implSelRight w' 2 ByteArray.empty nm (-1) none 0 0 HOK.out (by omega)
      rw [HR0.out] at this; exact this
    clear hw
    generalize ub (word (W.drop kc)) = y at *
    go_wp2_with fail
    refine (CR.out _).mono ?_
    rintro e w6 ⟨rfl, hb6⟩
    replace hr := (hb6.block w.heap.size (lt_of_get hr)).trans hr
    replace hs := (hb6.block g (lt_of_get hs)).trans hs
    replace OF := Lib.hid (OF.out.below OF.out.size hb6)
    replace RF := Lib.hid (RF.out.below RF.out.lt hb6)
    have hz5 := OF.out.size
    clear hb6 e0 e1 e2 e3 e4 p0 p1 p2 p3 p4 s0 s1 s2 s3 s4 q0 q1 q2 q3 q4
    have ⟨⟨e0, e1, e2, e3, e4⟩, p0, p1, p2, p3, p4⟩ := keep5 hr
    have ⟨⟨s0, s1, s2, s3, s4⟩, q0, q1, q2, q3, q4⟩ := keep5 hs
    have HFX := Lib.hid (set5_block hr (.int .i64 2) (.string ByteArray.empty) (.string nm) (.int .i64 (-1)) (.slice none 0 0))
    have HOF := Lib.hid (OF.out.set5 (g := w.heap.size) (Nat.le_refl _) (.int .i64 2) (.string ByteArray.empty) (.string nm) (.int .i64 (-1)) (.slice none 0 0))
    have HRF := Lib.hid (Rd.set5 RF.out (g := w.heap.size) hplt (.int .i64 2) (.string ByteArray.empty) (.string nm) (.int .i64 (-1)) (.slice none 0 0))
    have HSF : Hid (SelsX (set5 w6 w.heap.size (.int .i64 2) (.string ByteArray.empty) (.string nm) (.int .i64 (-1)) (.slice none 0 0)) w.heap.size (set5 w6 w.heap.size (.int .i64 2) (.string ByteArray.empty) (.string nm) (.int .i64 (-1)) (.slice none 0 0)).heap.size none Sels.nil.len Sels.nil) := Lib.hid ⟨rfl, Nat.zero_le _, by rw [set5_size]; exact hz5, .inl rfl⟩
    clear hr hs
    go_wp2_with fail
    change bodyPost _ _ _ _ _ (set5 w6 w.heap.size (.int .i64 2) (.string ByteArray.empty) (.string nm) (.int .i64 (-1)) (.slice none 0 0))
    generalize set5 w6 w.heap.size (.int .i64 2) (.string ByteArray.empty) (.string nm) (.int .i64 (-1)) (.slice none 0 0) = WF at *
    have ⟨⟨f0, f1, f2, f3, f4⟩, _⟩ := keep5 HFX.out
    exact bodyPost_ret (v := .tuple #[.agg #[.int .i64 2, .string ByteArray.empty, .string nm, .int .i64 (-1), .slice none 0 0], .iface 60 (.agg #[.int .i64 3])]) (by simp [results, Tryz.results59, go_sem, f0, f1, f2, f3, f4]) rfl ⟨_, _, _, _, _, _, Sels.nil, _, _, rfl, HOF.out, HK.out.1, HK.out.2.1, HRF.out, .inr ⟨rfl, HN0.out HW.out⟩⟩
end Go.Proofs.YtnkknfnndoegpaaGreatDoor.Selss
