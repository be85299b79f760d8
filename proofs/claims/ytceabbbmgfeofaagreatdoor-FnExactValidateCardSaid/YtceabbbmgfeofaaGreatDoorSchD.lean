/-
  What is right of what there is, plainly; and contracts: spec.l04Part, SchemaRight answer so; of what was there nothing is changed. Conditions: in memory.
-/
import Derived.Test.YtceabbbmgfeofaaGreatDoorRows
import Derived.Test.YtceabbbmgfeofaaGreatDoorSchC
import Derived.Deep.RegionHeld3
namespace Go.Proofs.YtceabbbmgfeofaaGreatDoor.Rw
open Go.RowKit Words
set_option linter.unusedVariables false
set_option maxRecDepth 100000

noncomputable def memberB (s : List TypeP) (l : List ByteArray) (i : Nat) (m : ByteArray) : Bool := ((typeIn m s).kind == 2) && !inB m (l.take i)
noncomputable def membersAll (s : List TypeP) (l : List ByteArray) : List ByteArray → Nat → Bool
  | [], _ => true
  | x :: r, i => memberB s l i x && membersAll s l r (i + 1)
theorem membersAll_drop {s : List TypeP} {l : List ByteArray} {i : Nat} {x : ByteArray} (h : l[i]? = some x) : membersAll s l (l.drop i) i = (memberB s l i x && membersAll s l (l.drop (i + 1)) (i + 1)) := by
  obtain ⟨hl, rfl⟩ := List.getElem?_eq_some_iff.1 h
  rw [List.drop_eq_getElem_cons hl, membersAll]
noncomputable def leafB (t : TypeP) : Bool := (((decide (0 ≤ t.bytes) && decide (t.bytes ≤ 100)) && ((t.fields.length : Int) == 0))) && ((t.members.length : Int) == 0)
noncomputable def objB (s : List TypeP) (t : TypeP) : Bool := ((t.bytes == 0) && ((t.members.length : Int) == 0)) && fieldsB s t.fields
noncomputable def oneTB (s : List TypeP) (t : TypeP) : Bool := membersAll s t.members t.members 0 && ((((t.bytes == 0) && ((t.fields.length : Int) == 0)) && decide (1 ≤ t.members.length)) && decide (t.members.length ≤ 5))
noncomputable def partB (s : List TypeP) (t : TypeP) : Bool :=
  if t.kind = 1 then leafB t else if t.kind = 2 then objB s t else if t.kind = 3 then oneTB s t else false

set_option maxHeartbeats 4000000 in
theorem specPart (w : World) (A B : Nat) (v : Value) (s : List TypeP) (hv : SchemaAt w A B v s) (u : Value) (t : TypeP) (hu : TypeAt w A B u t) (hB : B ≤ w.heap.size) :
    Calls Tryz.prog 103 #[v, u] w fun e w' => e = .returned (.bool (partB s t)) ∧ Below w.heap.size w w' := by
  have CT : Hid (∀ (w' : World) (nm : ByteArray), OkS nm → Below w.heap.size w w' → Calls Tryz.prog 50 #[v, .string nm] w' fun e w'' => (∃ a ca c cc, e = .returned (.agg ((typeIn nm s).cells a ca c cc).toArray) ∧ TypeAt w'' A B (.agg ((typeIn nm s).cells a ca c cc).toArray) (typeIn nm s)) ∧ Below w'.heap.size w' w'') := Lib.hid fun w' nm hn h => specType w' A B v s nm hn (hv.below hB h) (Nat.le_trans hB h.size)
  obtain ⟨a, ca, c, cc, rfl, hk, ⟨h2, hca⟩, h3, hcc⟩ := hu
  have CF : Hid (∀ (w' : World), Below w.heap.size w w' → Calls Tryz.prog 149 #[v, .slice a t.fields.length ca] w' fun e w'' => e = .returned (.bool (fieldsB s t.fields)) ∧ Below w'.heap.size w' w'') := Lib.hid fun w' h => specFields w' A B v s (hv.below hB h) a _ ca t.fields (h2.below fieldLies hB h) (Nat.le_trans hB h.size)
  obtain ⟨av, cv, rfl, hd, hcv⟩ := hv
  obtain ⟨nm, kd, by_, fs, ms⟩ := t
  obtain ⟨hk, ⟨hs1, hs2⟩, hs3, hs4⟩ := hk
  simp only [TypeP.cells] at hk hs1 hs2 hs3 hs4 h2 h3 hca hcc CF ⊢
  have HM := Lib.hid h3
  have hml := h3.2.1
  have hfl := h2.2.1
  clear hd h2 h3
  have C1 : Hid (∀ w, Calls Tryz.prog 146 #[.int .i64 by_, .int .i64 0, .int .i64 100] w fun e w' => e = .returned (.bool (decide (0 ≤ by_) && decide (by_ ≤ 100))) ∧ w = w') := Lib.hid fun w => specIs _ _ _ ⟨hs3, hs4⟩ (by unfold OkI; omega) (by unfold OkI; omega) _
  have HA : Hid (∀ o1 o2, Below w.heap.size w ((w.alloc o1).alloc o2)) := Lib.hid fun o1 o2 => ((Below.refl _ _).alloc (Nat.le_refl _) o1).alloc (by simp) o2
  obtain ⟨e1, he1⟩ : ∃ p, (by_ == 0) = p := ⟨_, rfl⟩
  obtain ⟨e2, he2⟩ : ∃ p, ((fs.length : Int) == 0) = p := ⟨_, rfl⟩
  obtain ⟨e3, he3⟩ : ∃ p, ((ms.length : Int) == 0) = p := ⟨_, rfl⟩
  obtain ⟨p1, hp1⟩ : ∃ p, (decide (0 ≤ by_) && decide (by_ ≤ 100)) = p := ⟨_, rfl⟩
  obtain ⟨p2, hp2⟩ : ∃ p, fieldsB s fs = p := ⟨_, rfl⟩
  have hL := Lib.hid (show leafB ⟨nm, kd, by_, fs, ms⟩ = ((p1 && e2) && e3) by unfold leafB; simp only [hp1, he2, he3])
  have hO := Lib.hid (show objB s ⟨nm, kd, by_, fs, ms⟩ = ((e1 && e3) && p2) by unfold objB; simp only [hp2, he1, he3])
  rw [hp1] at C1
  rw [hp2] at CF
  have hP := Lib.hid (show partB s ⟨nm, kd, by_, fs, ms⟩ = if kd = 1 then leafB ⟨nm, kd, by_, fs, ms⟩ else if kd = 2 then objB s ⟨nm, kd, by_, fs, ms⟩ else if kd = 3 then oneTB s ⟨nm, kd, by_, fs, ms⟩ else false from rfl)
  clear hp1 hp2
  by_cases k1 : kd = 1
  · have hf := Lib.hid (show partB s ⟨nm, kd, by_, fs, ms⟩ = ((p1 && e2) && e3) by rw [hP.out, if_pos k1, hL.out])
    have k1b : (kd == 1) = true := by rw [k1]; rfl
    have K1 := Lib.hid k1
    clear k1 hP hL hO
    go_enter Tryz.func103, Tryz.ntmps103
    cases p1
    · go_wp2_with (go_at_call 146; refine (C1.out _).mono ?_; rintro e w' ⟨rfl, rfl⟩)
      go_ret
      exact ⟨ret_bool hf.out.symm, HA.out _ _⟩
    cases e2
    · go_wp2_with (go_at_call 146; refine (C1.out _).mono ?_; rintro e w' ⟨rfl, rfl⟩)
      go_ret
      exact ⟨ret_bool hf.out.symm, HA.out _ _⟩
    · go_wp2_with (go_at_call 146; refine (C1.out _).mono ?_; rintro e w' ⟨rfl, rfl⟩)
      go_ret
      exact ⟨ret_bool hf.out.symm, HA.out _ _⟩
  have k1b : (kd == 1) = false := by rw [beq_eq_false_iff_ne]; exact k1
  by_cases k2 : kd = 2
  · have hf := Lib.hid (show partB s ⟨nm, kd, by_, fs, ms⟩ = ((e1 && e3) && p2) by rw [hP.out, if_neg k1, if_pos k2, hO.out])
    have k2b : (kd == 2) = true := by rw [k2]; rfl
    have K2 := Lib.hid k2
    clear k2 hP hL hO
    go_enter Tryz.func103, Tryz.ntmps103
    cases e1
    · go_wp2_with fail
      go_ret
      exact ⟨ret_bool hf.out.symm, HA.out _ _⟩
    cases e3
    · go_wp2_with fail
      go_ret
      exact ⟨ret_bool hf.out.symm, HA.out _ _⟩
    · go_wp2_with fail
      refine (CF.out _ (HA.out _ _)).mono ?_
      rintro e w1 ⟨rfl, hb1⟩
      have HB1 := Lib.hid ((HA.out _ _).trans (hb1.mono (HA.out _ _).size))
      clear hb1
      go_wp2_with fail
      go_ret
      exact ⟨ret_bool hf.out.symm, HB1.out⟩
  have k2b : (kd == 2) = false := by rw [beq_eq_false_iff_ne]; exact k2
  by_cases k3 : kd = 3
  · have hf := Lib.hid (show partB s ⟨nm, kd, by_, fs, ms⟩ = (membersAll s ms ms 0 && (((e1 && e2) && decide (1 ≤ ms.length)) && decide (ms.length ≤ 5))) by rw [hP.out, if_neg k1, if_neg k2, if_pos k3]; unfold oneTB; simp only [he1, he2])
    have k3b : (kd == 3) = true := by rw [k3]; rfl
    have K3 := Lib.hid k3
    clear k3 hP hL hO
    go_enter Tryz.func103, Tryz.ntmps103
    go_wp2_with fail
    have k0 : ((w.alloc (.cells #[.slice av s.length cv] 25)).alloc (.cells #[.string nm, .int .i64 kd, .int .i64 by_, .slice a fs.length ca, .slice c ms.length cc] 48)).heap[w.heap.size]? = some (.cells #[.slice av s.length cv] 25 (0, 0)) := by
      rw [Go.Deep.blk_alloc_lt _ _ _ (by simp)]; exact heap_alloc_new w _
    have k4 : ((w.alloc (.cells #[.slice av s.length cv] 25)).alloc (.cells #[.string nm, .int .i64 kd, .int .i64 by_, .slice a fs.length ca, .slice c ms.length cc] 48)).heap[w.heap.size + 1]? = some (.cells #[.string nm, .int .i64 kd, .int .i64 by_, .slice a fs.length ca, .slice c ms.length cc] 48 (0, 0)) := by
      have := heap_alloc_new (w.alloc (.cells #[.slice av s.length cv] 25)) (.cells #[.string nm, .int .i64 kd, .int .i64 by_, .slice a fs.length ca, .slice c ms.length cc] 48)
      simpa using this
    go_loopw [5] (fun i wr => ∃ (i' : Nat), i' ≤ ms.length ∧ Hid (membersAll s ms ms 0 = membersAll s ms (ms.drop i') i') ∧ i = .int .i64 i' ∧ wr.heap[w.heap.size]? = some (.cells #[.slice av s.length cv] 25 (0, 0)) ∧ wr.heap[w.heap.size + 1]? = some (.cells #[.string nm, .int .i64 kd, .int .i64 by_, .slice a fs.length ca, .slice c ms.length cc] 48 (0, 0)) ∧ Below w.heap.size w wr) (fun i _ => ms.length - (intOf i).toNat)
    case atStart => exact ⟨0, by omega, Lib.hid (by rw [List.drop_zero]), rfl, k0, k4, HA.out _ _⟩
    case round =>
      obtain ⟨i, hi, hm, rfl, hk0, hk4, hb⟩ := hrel
      have HB := Lib.hid hb
      clear k0 k4
      have ⟨j0, _⟩ := keep1 hk0
      have ⟨⟨i0, i1, i2, i3, i4⟩, _⟩ := keep5 hk4
      by_cases hlt : i < ms.length
      · have hli : (i : Int) < (ms.length : Int) := by omega
        have hlc : (i : Int) ≤ (cc : Int) := by omega
        obtain ⟨x, b, off, hd, rfl, hA, hbb, hok, hc⟩ := (HM.out.below textLies (Nat.le_refl _) (hb.mono hB)).at hlt
        rw [Nat.mul_one] at hc
        have hst := Lib.hid (membersAll_drop (s := s) hd)
        have HOK := Lib.hid hok
        have HHK0 := Lib.hid hk0
        have HHK4 := Lib.hid hk4
        obtain ⟨tX, htX⟩ : ∃ p, typeIn x s = p := ⟨_, rfl⟩
        obtain ⟨tn, tk, tb, tf, tm⟩ := tX
        obtain ⟨b1, hb1e⟩ : ∃ p, (tk == 2) = p := ⟨_, rfl⟩
        obtain ⟨b2, hb2e⟩ : ∃ p, inB x (ms.take i) = p := ⟨_, rfl⟩
        have HFB := Lib.hid (show memberB s ms i x = (b1 && !b2) by unfold memberB; simp only [htX, hb1e, hb2e])
        have CT1 := Lib.hid (fun w' h => CT.out w' x HOK.out h)
        rw [htX] at CT1
        simp only [TypeP.cells] at CT1
        have HM1 : Hid (TextsAt wr A B (some ⟨b, off, none⟩) i (ms.take i)) := Lib.hid (by
          have h := HM.out.below textLies (Nat.le_refl _) (hb.mono hB)
          refine ⟨by rw [List.length_take]; omega, by omega, .inr ⟨b, off, rfl, hA, hbb, fun q y hy => ?_⟩⟩
          rcases h.2.2 with h0 | ⟨b', off', e, _, _, hl⟩
          · rw [h0] at hlt; simp at hlt
          · cases e
            have hq : q < i := by have := (List.getElem?_eq_some_iff.1 hy).1; rw [List.length_take] at this; omega
            exact hl q y (by rw [List.getElem?_take_of_lt hq] at hy; exact hy))
        have hfld : ∀ (W : World) (ta tca tc tcc), (Instr.field 48 (.agg #[.string tn, .int .i64 tk, .int .i64 tb, .slice ta tf.length tca, .slice tc tm.length tcc]) 1).run Tryz.prog W = .ok (.int .i64 tk) W := fun _ _ _ _ _ => rfl
        have CI : Hid (∀ w', Below wr.heap.size wr w' → Calls Tryz.prog 108 #[.slice (some ⟨b, off, none⟩) i cc, .string x] w' fun e w'' => e = .returned (.bool b2) ∧ Below w'.heap.size w' w'') := Lib.hid fun w' h => by
          rw [← hb2e]; exact specIn w' A B _ i cc _ x HOK.out (HM1.out.below textLies (Nat.le_trans hB HB.out.size) h) (Nat.le_trans (Nat.le_trans hB HB.out.size) h.size)
        have hl0 := lt_of_get hk0
        have hl4 := lt_of_get hk4
        have hbw : b < wr.heap.size := Nat.lt_of_lt_of_le hbb (Nat.le_trans hB HB.out.size)
        clear hd hok htX hb2e hlt hb
        have x0 : wr.drew.cell? ⟨w.heap.size, 0, none⟩ = some (.slice av s.length cv) := j0
        have x1 : wr.drew.cell? ⟨w.heap.size + 1, 4, none⟩ = some (.slice (some ⟨b, off, none⟩) ms.length cc) := i4
        have x2 : wr.drew.cell? ⟨b, off + i, none⟩ = some (.string x) := hc
        have y0 : w.heap.size < wr.drew.heap.size := hl0
        have y1 : w.heap.size + 1 < wr.drew.heap.size := hl4
        have y2 : b < wr.drew.heap.size := hbw
        have HZ : Hid (wr.drew.heap.size = wr.heap.size) := Lib.hid rfl
        have HWD : Hid (Below wr.heap.size wr wr.drew) := Lib.hid (Below.refl _ wr).drew
        cases b1
        · have t2 : ¬ tk = 2 := by simpa using hb1e
          have t2b : (tk != 2) = true := by simp [bne, hb1e]
          have ho := Lib.hid HFB.out
          go_wp2_with fail
          refine wp_region_held_drew (S := (fun w' => w'.cell? ⟨w.heap.size, 0, none⟩ = some (.slice av s.length cv) ∧ w'.cell? ⟨w.heap.size + 1, 4, none⟩ = some (.slice (some ⟨b, off, none⟩) ms.length cc) ∧ w'.cell? ⟨b, off + i, none⟩ = some (.string x))) (by kernel_rfl) ⟨x0, x1, x2⟩ (fun hHeld => ?_)
          simp only [List.size_toArray, List.length_cons, List.length_nil, Nat.reduceAdd, Array.replicate, List.replicate]
          refine wpAnyH_take (i := 0) (v := ?_) rfl (by kernel_rfl) (by kernel_rfl) (by kernel_rfl) (fun _ _ _ h => h) (Or.inl ⟨by rfl, ?_⟩) (by assumption) ?_
          rotate_left 1
          · (intro w hSw; (try dsimp only at hSw); go_simp; (try with_reducible rfl))
          (try simp only [Act.put, List.getElem_toArray, List.getElem_cons_zero, List.setIfInBounds_toArray, List.set_cons_zero, List.set_cons_succ])
          refine wpAnyH_take (i := 1) (v := ?_) rfl (by kernel_rfl) (by kernel_rfl) (by kernel_rfl) (fun _ _ _ h => h) (Or.inl ⟨by rfl, ?_⟩) (by assumption) ?_
          rotate_left 1
          · (intro w hSw; (try dsimp only at hSw); go_simp; (try with_reducible rfl))
          (try simp only [Act.put, List.getElem_toArray, List.getElem_cons_zero, List.getElem_cons_succ, List.setIfInBounds_toArray, List.set_cons_zero, List.set_cons_succ])
          refine wpAnyH_take (i := 2) (v := ?_) rfl (by kernel_rfl) (by kernel_rfl) (by kernel_rfl) (fun _ _ _ h => h) (Or.inl ⟨by rfl, ?_⟩) (by assumption) ?_
          rotate_left 1
          · (intro w hSw; (try dsimp only at hSw); go_simp; (try with_reducible rfl))
          (try simp only [Act.put, List.getElem_toArray, List.getElem_cons_zero, List.getElem_cons_succ, List.setIfInBounds_toArray, List.set_cons_zero, List.set_cons_succ])
          refine wpAnyH_take (i := 3) (v := ?_) rfl (by kernel_rfl) (by kernel_rfl) (by kernel_rfl) (fun _ _ _ h => h) (Or.inl ⟨by rfl, ?_⟩) (by assumption) ?_
          rotate_left 1
          · (intro w hSw; (try dsimp only at hSw); go_simp; (try with_reducible rfl))
          (try simp only [Act.put, List.getElem_toArray, List.getElem_cons_zero, List.getElem_cons_succ, List.setIfInBounds_toArray, List.set_cons_zero, List.set_cons_succ])
          refine wpAnyH_take (i := 4) (v := ?_) rfl (by kernel_rfl) (by kernel_rfl) (by kernel_rfl) (fun _ _ _ h => h) (Or.inl ⟨by rfl, ?_⟩) (by assumption) ?_
          rotate_left 1
          · (intro w hSw; (try dsimp only at hSw); go_simp; (try with_reducible rfl))
          (try simp only [Act.put, List.getElem_toArray, List.getElem_cons_zero, List.getElem_cons_succ, List.setIfInBounds_toArray, List.set_cons_zero, List.set_cons_succ])
          refine wpAnyH_take (i := 5) (v := ?_) rfl (by kernel_rfl) (by kernel_rfl) (by kernel_rfl) (fun _ _ _ h => h) (Or.inl ⟨by rfl, ?_⟩) (by assumption) ?_
          rotate_left 1
          · (intro w hSw; (try dsimp only at hSw); go_simp; (try with_reducible rfl))
          (try simp only [Act.put, List.getElem_toArray, List.getElem_cons_zero, List.getElem_cons_succ, List.setIfInBounds_toArray, List.set_cons_zero, List.set_cons_succ])
          refine wpAnyH_ready (rs := [6]) (by kernel_rfl) (by simp) ?_
          refine AllReadyH.cons rfl (fun K hK => ?_) AllReadyH.nil
          (try simp only [Act.put, List.getElem_toArray, List.getElem_cons_zero, List.getElem_cons_succ, List.setIfInBounds_toArray, List.set_cons_zero, List.set_cons_succ])
          go_simp
          refine (CT1.out _ HB.out.drew).mono ?_
          rintro e w2 ⟨⟨ta, tca, tc, tcc, rfl, _⟩, hb2⟩
          refine hK.out _ _ ⟨kcell hb2 y0 x0, kcell hb2 y1 x1, kcell hb2 y2 x2⟩ (fun hHeld2 => ?_)
          clear hK K
          (try simp only [List.setIfInBounds_toArray, List.set_cons_zero, List.set_cons_succ])
          refine wpAnyH_take (i := 7) (v := ?_) rfl (by kernel_rfl) (by kernel_rfl) (by kernel_rfl) (fun _ _ _ h => h) (Or.inl ⟨by rfl, ?_⟩) (by assumption) ?_
          rotate_left 1
          · (intro w hSw; (try dsimp only at hSw); go_simp; (try with_reducible rfl))
          (try simp only [Act.put, List.getElem_toArray, List.getElem_cons_zero, List.getElem_cons_succ, List.setIfInBounds_toArray, List.set_cons_zero, List.set_cons_succ])
          refine wpAnyH_take (i := 8) (v := ?_) rfl (by kernel_rfl) (by kernel_rfl) (by kernel_rfl) (fun _ _ _ h => h) (Or.inl ⟨by rfl, ?_⟩) (by assumption) ?_
          rotate_left 1
          · (intro w hSw; (try dsimp only at hSw); go_simp; (try with_reducible rfl))
          (try simp only [Act.put, List.getElem_toArray, List.getElem_cons_zero, List.getElem_cons_succ, List.setIfInBounds_toArray, List.set_cons_zero, List.set_cons_succ])
          refine wpAnyH_take (i := 9) (v := ?_) rfl (by kernel_rfl) (by kernel_rfl) (by kernel_rfl) (fun _ _ _ h => h) (Or.inl ⟨by rfl, ?_⟩) (by assumption) ?_
          rotate_left 1
          · (intro w hSw; (try dsimp only at hSw); go_simp; (try with_reducible rfl))
          (try simp only [Act.put, List.getElem_toArray, List.getElem_cons_zero, List.getElem_cons_succ, List.setIfInBounds_toArray, List.set_cons_zero, List.set_cons_succ])
          refine wpAnyH_take (i := 10) (v := undef) rfl (by kernel_rfl) (by kernel_rfl) (by kernel_rfl) (fun _ _ _ h => h) (Or.inr ⟨by rfl, rfl⟩) (by assumption) ?_
          (try simp only [Act.put, List.getElem_toArray, List.getElem_cons_zero, List.getElem_cons_succ, List.setIfInBounds_toArray, List.set_cons_zero, List.set_cons_succ])
          refine wpAnyH_take (i := 11) (v := undef) rfl (by kernel_rfl) (by kernel_rfl) (by kernel_rfl) (fun _ _ _ h => h) (Or.inr ⟨by rfl, rfl⟩) (by assumption) ?_
          (try simp only [Act.put, List.getElem_toArray, List.getElem_cons_zero, List.getElem_cons_succ, List.setIfInBounds_toArray, List.set_cons_zero, List.set_cons_succ])
          refine wpAnyH_take (i := 12) (v := undef) rfl (by kernel_rfl) (by kernel_rfl) (by kernel_rfl) (fun _ _ _ h => h) (Or.inr ⟨by rfl, rfl⟩) (by assumption) ?_
          (try simp only [Act.put, List.getElem_toArray, List.getElem_cons_zero, List.getElem_cons_succ, List.setIfInBounds_toArray, List.set_cons_zero, List.set_cons_succ])
          refine wpAnyH_take (i := 13) (v := undef) rfl (by kernel_rfl) (by kernel_rfl) (by kernel_rfl) (fun _ _ _ h => h) (Or.inr ⟨by rfl, rfl⟩) (by assumption) ?_
          (try simp only [Act.put, List.getElem_toArray, List.getElem_cons_zero, List.getElem_cons_succ, List.setIfInBounds_toArray, List.set_cons_zero, List.set_cons_succ])
          refine wpAnyH_take (i := 14) (v := undef) rfl (by kernel_rfl) (by kernel_rfl) (by kernel_rfl) (fun _ _ _ h => h) (Or.inr ⟨by rfl, rfl⟩) (by assumption) ?_
          (try simp only [Act.put, List.getElem_toArray, List.getElem_cons_zero, List.getElem_cons_succ, List.setIfInBounds_toArray, List.set_cons_zero, List.set_cons_succ])
          refine wpAnyH_take (i := 15) (v := undef) rfl (by kernel_rfl) (by kernel_rfl) (by kernel_rfl) (fun _ _ _ h => h) (Or.inr ⟨by rfl, rfl⟩) (by assumption) ?_
          (try simp only [Act.put, List.getElem_toArray, List.getElem_cons_zero, List.getElem_cons_succ, List.setIfInBounds_toArray, List.set_cons_zero, List.set_cons_succ])
          refine wpAnyH_take (i := 16) (v := undef) rfl (by kernel_rfl) (by kernel_rfl) (by kernel_rfl) (fun _ _ _ h => h) (Or.inr ⟨by rfl, rfl⟩) (by assumption) ?_
          (try simp only [Act.put, List.getElem_toArray, List.getElem_cons_zero, List.getElem_cons_succ, List.setIfInBounds_toArray, List.set_cons_zero, List.set_cons_succ])
          refine wpAnyH_take (i := 17) (v := undef) rfl (by kernel_rfl) (by kernel_rfl) (by kernel_rfl) (fun _ _ _ h => h) (Or.inr ⟨by rfl, rfl⟩) (by assumption) ?_
          (try simp only [Act.put, List.getElem_toArray, List.getElem_cons_zero, List.getElem_cons_succ, List.setIfInBounds_toArray, List.set_cons_zero, List.set_cons_succ])
          refine wpAnyH_take (i := 18) (v := undef) rfl (by kernel_rfl) (by kernel_rfl) (by kernel_rfl) (fun _ _ _ h => h) (Or.inr ⟨by rfl, rfl⟩) (by assumption) ?_
          (try simp only [Act.put, List.getElem_toArray, List.getElem_cons_zero, List.getElem_cons_succ, List.setIfInBounds_toArray, List.set_cons_zero, List.set_cons_succ])
          refine wpAnyH_take (i := 19) (v := undef) rfl (by kernel_rfl) (by kernel_rfl) (by kernel_rfl) (fun _ _ _ h => h) (Or.inr ⟨by rfl, rfl⟩) (by assumption) ?_
          (try simp only [Act.put, List.getElem_toArray, List.getElem_cons_zero, List.getElem_cons_succ, List.setIfInBounds_toArray, List.set_cons_zero, List.set_cons_succ])
          refine wpAnyH_take (i := 20) (v := ?_) rfl (by kernel_rfl) (by kernel_rfl) (by kernel_rfl) (fun _ _ _ h => h) (Or.inl ⟨by rfl, ?_⟩) (by assumption) ?_
          rotate_left 1
          · (intro w hSw; (try dsimp only at hSw); go_simp; (try with_reducible rfl))
          (try simp only [Act.put, List.getElem_toArray, List.getElem_cons_zero, List.getElem_cons_succ, List.setIfInBounds_toArray, List.set_cons_zero, List.set_cons_succ])
          refine wpAnyH_done (by kernel_rfl) ?_ _
          have hB2 := HB.out.drew.trans (hb2.mono HB.out.drew.size)
          go_wp2_with fail
          go_ret
          exact ⟨ret_bool (by rw [hf.out, all_no hm.out hst.out ho.out]; rfl), hB2⟩
        · have t2b : (tk != 2) = false := by simp [bne, hb1e]
          have ho := Lib.hid HFB.out
          go_wp2_with fail
          go_region_held3 (fun w' => w'.cell? ⟨w.heap.size, 0, none⟩ = some (.slice av s.length cv) ∧ w'.cell? ⟨w.heap.size + 1, 4, none⟩ = some (.slice (some ⟨b, off, none⟩) ms.length cc) ∧ w'.cell? ⟨b, off + i, none⟩ = some (.string x)) (go_keep)
            (first | (go_at_call 50; refine (CT1.out _ HB.out.drew).mono ?_; rintro e w2 ⟨⟨ta, tca, tc, tcc, rfl, _⟩, hb2⟩; have d0 := kcell hb2 y0 x0; have d1 := kcell hb2 y1 x1; have d2 := kcell hb2 y2 x2; have HB2 := Lib.hid (HWD.out.trans (hb2.mono HWD.out.size)); have f0 := Nat.lt_of_lt_of_le y0 hb2.size; have f1 := Nat.lt_of_lt_of_le y1 hb2.size; have f2 := Nat.lt_of_lt_of_le y2 hb2.size)
                   | (go_at_call 108; refine (CI.out _ HB2.out).mono ?_; rintro e w3 ⟨rfl, hb3⟩; have g0 := kcell hb3 f0 d0; have g1 := kcell hb3 f1 d1; have g2 := kcell hb3 f2 d2))
          all_goals
            have hB2 := HB.out.drew.trans (hb2.mono HB.out.drew.size)
            have hB3 := hB2.trans (hb3.mono hB2.size)
            have hk03 := (hb3.block w.heap.size f0).trans ((hb2.block w.heap.size y0).trans HHK0.out)
            have hk43 := (hb3.block (w.heap.size + 1) f1).trans ((hb2.block (w.heap.size + 1) y1).trans HHK4.out)
            cases b2
            · go_wp2_with fail
              go_roundw
              case rel => exact ⟨i + 1, by omega, Lib.hid (all_yes hm.out hst.out ho.out), by go_num, hk03, hk43, hB3⟩
              case measure => simp [intOf]; omega
            · go_wp2_with fail
              go_ret
              exact ⟨ret_bool (by rw [hf.out, all_no hm.out hst.out ho.out]; rfl), hB3⟩
      · obtain rfl : i = ms.length := by omega
        have hf2 : Hid (partB s ⟨nm, kd, by_, fs, ms⟩ = (((e1 && e2) && decide (1 ≤ ms.length)) && decide (ms.length ≤ 5))) := Lib.hid (by rw [hf.out, hm.out, List.drop_length]; rfl)
        clear hlt hb hk0 hk4 hf
        cases e1
        · go_wp2_with fail
          go_ret
          exact ⟨ret_bool hf2.out.symm, HB.out⟩
        cases e2
        · go_wp2_with fail
          go_ret
          exact ⟨ret_bool hf2.out.symm, HB.out⟩
        by_cases q1 : 1 ≤ ms.length
        · have q1i : 1 ≤ (ms.length : Int) := by omega
          by_cases q2 : ms.length ≤ 5
          · have q2i : (ms.length : Int) ≤ 5 := by omega
            have hf3 : Hid (partB s ⟨nm, kd, by_, fs, ms⟩ = true) := Lib.hid (by rw [hf2.out]; simp [q1, q2])
            go_wp2_with fail
            go_ret
            exact ⟨ret_bool hf3.out.symm, HB.out⟩
          · have q2i : (5 : Int) < (ms.length : Int) := by omega
            have hf3 : Hid (partB s ⟨nm, kd, by_, fs, ms⟩ = false) := Lib.hid (by rw [hf2.out]; simp [q2])
            have q2b : decide ((ms.length : Int) ≤ 5) = false := decide_eq_false (by omega)
            clear q2
            go_wp2_with fail
            go_ret
            exact ⟨ret_bool hf3.out.symm, HB.out⟩
        · have q1i : (ms.length : Int) < 1 := by omega
          have hf3 : Hid (partB s ⟨nm, kd, by_, fs, ms⟩ = false) := Lib.hid (by rw [hf2.out]; simp [q1])
          clear q1
          go_wp2_with fail
          go_ret
          exact ⟨ret_bool hf3.out.symm, HB.out⟩
  · have hf := Lib.hid (show partB s ⟨nm, kd, by_, fs, ms⟩ = false by rw [hP.out, if_neg k1, if_neg k2, if_neg k3])
    have k3b : (kd == 3) = false := by rw [beq_eq_false_iff_ne]; exact k3
    clear hP hL hO
    go_enter Tryz.func103, Tryz.ntmps103
    go_wp2_with fail
    go_ret
    exact ⟨ret_bool hf.out.symm, HA.out _ _⟩
end Go.Proofs.YtceabbbmgfeofaaGreatDoor.Rw
