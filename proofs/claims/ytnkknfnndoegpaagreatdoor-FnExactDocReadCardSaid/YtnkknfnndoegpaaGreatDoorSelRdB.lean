/-
  Contracts: the program's reader of one selection reads, if its reader of braces does. Conditions: as each theorem says.
-/
import Derived.Test.YtnkknfnndoegpaaGreatDoorRows
import Derived.Test.YtnkknfnndoegpaaGreatDoorSelRd
namespace Go.Proofs.YtnkknfnndoegpaaGreatDoor.Selss
open Go.RowKit Words Decs Splits
set_option linter.unusedVariables false
set_option maxRecDepth 100000

theorem word_len {W : List Tok} (h : ∀ x ∈ W, x.length ≤ 8000) (k : Nat) : (word (W.drop k)).length ≤ 8000 := by
  rw [word_drop, List.getD_eq_getElem?_getD]
  cases hx : W[k]? with
  | none => simp
  | some x => exact h x (List.mem_of_getElem? hx)
theorem okS_ub {t : Tok} (h : t.length ≤ 8000) : OkS (ub t) := by unfold OkS; rw [ub_size']; omega
theorem OnlyP.vars {p : Nat} {w w' : World} (h : OnlyP p w w') (hp : p < w.heap.size) (hv : Vars p w) : Vars p w' := hv.on (h.toBelow (Nat.le_refl p) (by omega))

theorem lt_of_get {w : World} {g : Nat} {o : Obj} (h : w.heap[g]? = some o) : g < w.heap.size := by
  rcases Nat.lt_or_ge g w.heap.size with x | x
  · exact x
  · rw [Array.getElem?_eq_none x] at h; cases h

set_option maxHeartbeats 2000000 in
theorem selRd_flat (w : World) (p cap k : Nat) (a : Option Addr) (W : List Tok) (hR : RdI w p a cap W k) (hk : k ≤ W.length) (hv : Vars p w)
    (kd : Int) (key nm : ByteArray) (f : Int) (hok : OkI kd ∧ OkS key ∧ OkS nm ∧ OkI f) (hk1 : kd ≠ 1) (hk2 : kd ≠ 2) (r : Bool) (hr : oneB kd key nm f 0 = r)
    (hs : selOfP (word (W.drop k)) = (kd, key, nm, f)) :
    Calls Tryz.prog 59 #[.pointer (some ⟨p, 0, none⟩)] w fun e w' => ∃ k' err, e = .returned (.tuple #[.agg #[.int .i64 kd, .string key, .string nm, .int .i64 f, .slice none 0 0], err]) ∧ Hid ((r = true → err = .nilIface) ∧ (r = false → err = .iface 60 (.agg #[.int .i64 3]))) ∧ OnlyP p w w' ∧ k ≤ k' ∧ k' ≤ W.length ∧ RdI w' p a cap W k' ∧ Hid ((k < W.length → k' = k + 1) ∧ W.drop k' = (W.drop k).drop 1) := by
  have hplt := hR.lt
  have CN := Lib.hid (show ∀ w', Below w.heap.size w w' → _ from fun w' hb => rpNext w' p cap k a W (hR.below hplt hb) hk)
  have CS : Hid (∀ w', OnlyP p w w' → Calls Tryz.prog 71 #[.string (ub (word (W.drop k)))] w' fun e w'' => e = .returned (selV (kd, key, nm, f)) ∧ Below w'.heap.size w' w'') := Lib.hid fun w' hb => by
    have := implSelOf (ub (word (W.drop k))) (by rw [ub_size']; exact word_len hR.sizes k) w' p (hb.vars hplt hv) (by have := hb.size; omega)
    rw [bl_ub, hs] at this; exact this
  have CR : Hid (∀ w', Calls Tryz.prog 72 #[.agg #[.int .i64 kd, .string key, .string nm, .int .i64 f, .slice none 0 0]] w' fun e w'' => e = .returned (.bool r) ∧ Below w'.heap.size w' w'') := Lib.hid fun w' => by
    have := implSelRight w' kd key nm f none 0 0 hok (by omega)
    rw [hr] at this; exact this
  have HA : Hid (∀ o, Below w.heap.size w (w.alloc o)) := Lib.hid fun o => (Below.refl _ _).alloc (Nat.le_refl _) o
  have hk0 : Hid ((w.alloc (.cells #[.int .i64 0, .string ⟨#[]⟩, .string ⟨#[]⟩, .int .i64 0, .slice none 0 0] 50)).heap[w.heap.size]? = some (.cells #[.int .i64 0, .string ⟨#[]⟩, .string ⟨#[]⟩, .int .i64 0, .slice none 0 0] 50 (0, 0))) := Lib.hid (heap_alloc_new w _)
  have b1 : (kd == 1) = false := beq_eq_false_iff_ne.2 hk1
  have b2 : (kd == 2) = false := beq_eq_false_iff_ne.2 hk2
  clear hv hR hr hok hs
  simp only [selV] at CS
  generalize ub (word (W.drop k)) = x at *
  go_enter Tryz.func59, Tryz.ntmps59
  go_wp2_with fail
  refine (CN.out _ (HA.out _)).mono ?_
  rintro e w1 ⟨rfl, ⟨k', h1, h2, h3, h4, h5⟩, ho⟩
  have hk1 := (ho.block w.heap.size (by simp) (by omega)).trans hk0.out
  have HO1 := Lib.hid (((OnlyP.refl p w).below (Nat.le_refl _) (HA.out _)).trans ho)
  have HR1 := Lib.hid h5
  have HK := Lib.hid (And.intro h1 (And.intro h2 (And.intro h3 h4)))
  have hz1 := HO1.out.size
  clear h1 h2 h3 h4 h5 ho
  go_wp2_with fail
  refine (CS.out _ HO1.out).mono ?_
  rintro e w2 ⟨rfl, hb2⟩
  have hk2 := (hb2.block w.heap.size (lt_of_get hk1)).trans hk1
  have HO2 := Lib.hid (HO1.out.below hz1 hb2)
  have HR2 := Lib.hid (HR1.out.below HR1.out.lt hb2)
  have hz2 := HO2.out.size
  have ⟨⟨e0, e1, e2, e3, e4⟩, p0, p1, p2, p3, p4⟩ := keep5 hk2
  clear hb2 hk1
  go_wp2_with fail
  have HA2 : Hid (∀ o, Below w2.heap.size w2 (w2.alloc o)) := Lib.hid fun o => (Below.refl _ _).alloc (Nat.le_refl _) o
  have hr2 : (w2.alloc (.cells #[.int .i64 kd, .string key, .string nm, .int .i64 f, .slice none 0 0] 50)).heap[w.heap.size]? = _ := ((HA2.out _).block w.heap.size (lt_of_get hk2)).trans hk2
  have hs2 := heap_alloc_new w2 (.cells #[.int .i64 kd, .string key, .string nm, .int .i64 f, .slice none 0 0] 50)
  refine (CR.out _).mono ?_
  rintro e w3 ⟨rfl, hb3⟩
  have hr3 := (hb3.block w.heap.size (lt_of_get hr2)).trans hr2
  have hs3 := (hb3.block w2.heap.size (lt_of_get hs2)).trans hs2
  have hb23 := (HA2.out _).trans (hb3.mono (HA2.out _).size)
  have HO3 := Lib.hid (HO2.out.below hz2 hb23)
  have HR3 := Lib.hid (HR2.out.below HR2.out.lt hb23)
  have hz3 := HO3.out.size
  have hne : w2.heap.size ≠ w.heap.size := by have := lt_of_get hk2; omega
  clear e0 e1 e2 e3 e4 p0 p1 p2 p3 p4 hk2 hr2 hs2
  have ⟨⟨e0, e1, e2, e3, e4⟩, p0, p1, p2, p3, p4⟩ := keep5 hr3
  have ⟨⟨s0, s1, s2, s3, s4⟩, q0, q1, q2, q3, q4⟩ := keep5 hs3
  have HFX := Lib.hid (set5_block hr3 (.int .i64 kd) (.string key) (.string nm) (.int .i64 f) (.slice none 0 0))
  have HOF := Lib.hid (HO3.out.set5 (g := w.heap.size) (Nat.le_refl _) (.int .i64 kd) (.string key) (.string nm) (.int .i64 f) (.slice none 0 0))
  have HRF := Lib.hid (Rd.set5 HR3.out (g := w.heap.size) hplt (.int .i64 kd) (.string key) (.string nm) (.int .i64 f) (.slice none 0 0))
  clear hr3 hs3 hb3 hb23
  cases r
  · go_wp2_with fail
    change bodyPost _ _ _ _ _ (set5 w3 w.heap.size (.int .i64 kd) (.string key) (.string nm) (.int .i64 f) (.slice none 0 0))
    generalize set5 w3 w.heap.size (.int .i64 kd) (.string key) (.string nm) (.int .i64 f) (.slice none 0 0) = WF at *
    have ⟨⟨f0, f1, f2, f3, f4⟩, _⟩ := keep5 HFX.out
    exact bodyPost_ret (v := .tuple #[.agg #[.int .i64 kd, .string key, .string nm, .int .i64 f, .slice none 0 0], .iface 60 (.agg #[.int .i64 3])]) (by simp [results, Tryz.results59, go_sem, f0, f1, f2, f3, f4]) rfl ⟨k', _, rfl, Lib.hid (by simp), HOF.out, HK.out.1, HK.out.2.1, HRF.out, Lib.hid (by have := HK.out.2.2; simpa using this)⟩
  · go_wp2_with fail
    change bodyPost _ _ _ _ _ (set5 w3 w.heap.size (.int .i64 kd) (.string key) (.string nm) (.int .i64 f) (.slice none 0 0))
    generalize set5 w3 w.heap.size (.int .i64 kd) (.string key) (.string nm) (.int .i64 f) (.slice none 0 0) = WF at *
    have ⟨⟨f0, f1, f2, f3, f4⟩, _⟩ := keep5 HFX.out
    exact bodyPost_ret (v := .tuple #[.agg #[.int .i64 kd, .string key, .string nm, .int .i64 f, .slice none 0 0], .nilIface]) (by simp [results, Tryz.results59, go_sem, f0, f1, f2, f3, f4]) rfl ⟨k', _, rfl, Lib.hid (by simp), HOF.out, HK.out.1, HK.out.2.1, HRF.out, Lib.hid (by have := HK.out.2.2; simpa using this)⟩


theorem sels_nil (w : World) (B : Nat) : SelsX w B B none Sels.nil.len .nil := ⟨rfl, Nat.zero_le _, Nat.le_refl _, .inl rfl⟩
theorem rd_size {W : List Tok} {k : Nat} (h : W.drop k ≠ []) : k < W.length := by
  rcases Nat.lt_or_ge k W.length with g | g
  · exact g
  · exact absurd (List.drop_eq_nil_of_le g) h
end Go.Proofs.YtnkknfnndoegpaaGreatDoor.Selss
