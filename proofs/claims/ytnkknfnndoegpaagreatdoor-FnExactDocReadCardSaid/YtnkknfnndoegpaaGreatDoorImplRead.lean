/-
  Contract: impl.DocRead answers what outP says, in new memory. Conditions: a text of at most 2^20 bytes; the library's variables hold what the program lays.
-/
import Derived.Test.YtnkknfnndoegpaaGreatDoorRows
import Derived.Test.YtnkknfnndoegpaaGreatDoorReadDoc
import Derived.Test.YtnkknfnndoegpaaGreatDoorErrPlaced
import Derived.Test.YtnkknfnndoegpaaGreatDoorParseC
import Derived.Deep.RegionHeld3
namespace Go.Proofs.YtnkknfnndoegpaaGreatDoor.Selss
open Go.RowKit Words Decs Splits ErrAs
set_option linter.unusedVariables false
set_option maxRecDepth 100000

theorem set3_other (w : World) (g : Nat) (v0 v1 v2 : Value) (c : Nat) (h : c ≠ g) : (set3 w g v0 v1 v2).heap[c]? = w.heap[c]? := by
  unfold Selss.set3
  repeat rw [Go.Deep.blk_setCell_other _ ⟨g, _, none⟩ _ c h]
def zeroDoc : DocP := ⟨.nil, []⟩
open Classical in
/-- What both sides answer. -/
noncomputable def outP (t : ByteArray) : DocP × Int :=
  if 8000 < t.size then (zeroDoc, 2) else if h : ∃ d, docB d = true ∧ docT d = t then (h.choose, 0) else (zeroDoc, 3)
theorem outP_big {t : ByteArray} (h : 8000 < t.size) : outP t = (zeroDoc, 2) := by unfold outP; rw [if_pos h]
theorem outP_is {t : ByteArray} (h : ¬ 8000 < t.size) {d : DocP} (hb : docB d = true) (ht : docT d = t) : outP t = (d, 0) := by
  have he : ∃ d, docB d = true ∧ docT d = t := ⟨d, hb, ht⟩
  unfold outP
  rw [if_neg h, dif_pos he]
  have := he.choose_spec
  rw [docT_inj this.1 hb (this.2.trans ht.symm)]
theorem outP_not {t : ByteArray} (h : ¬ 8000 < t.size) (hn : ¬ ∃ d, docB d = true ∧ docT d = t) : outP t = (zeroDoc, 3) := by
  unfold outP
  rw [if_neg h, dif_neg hn]
theorem zeroX (w : World) (A B : Nat) (h : A ≤ B) : DocX w A B (.agg #[.slice none 0 0, .slice none 0 0]) zeroDoc :=
  ⟨none, 0, none, 0, A, rfl, ⟨rfl, Nat.zero_le _, Nat.le_refl _, .inl rfl⟩, ⟨rfl, Nat.zero_le _, h, .inl rfl⟩, Nat.le_refl _⟩
def OutRes (w w' : World) (t : ByteArray) (e : Ending) : Prop :=
  ∃ v0 v1, e = .returned (.agg #[v0, v1, .int .i64 (outP t).2]) ∧ Below w.heap.size w w' ∧ DocX w' w.heap.size w'.heap.size (.agg #[v0, v1]) (outP t).1

set_option maxHeartbeats 4000000 in
theorem implDocRead (t : ByteArray) (ht : t.size ≤ 1048576) (w : World) (B : Nat) (hv : Vars B w) (hB : B ≤ w.heap.size) :
    Calls Tryz.prog 5 #[.string t] w fun e w' => OutRes w w' t e := by
  have HV := Lib.hid hv
  have HA : Hid (∀ o, Below w.heap.size w (w.alloc o)) := Lib.hid fun o => (Below.refl _ _).alloc (Nat.le_refl _) o
  by_cases hbig : 8000 < t.size
  · have HO := Lib.hid (outP_big hbig)
    have hbi : (8000 : Int) < (t.size : Int) := by omega
    go_enter Tryz.func5, Tryz.ntmps5
    go_wp2_with fail
    exact bodyPost_ret (v := .agg #[.slice none 0 0, .slice none 0 0, .int .i64 2]) (by simp [results, Tryz.results5, go_sem]) rfl ⟨_, _, by rw [HO.out], HA.out _, by rw [HO.out]; exact zeroX _ _ _ (HA.out _).size⟩
  · have hbi : (t.size : Int) ≤ 8000 := by omega
    go_enter Tryz.func5, Tryz.ntmps5
    go_wp2_with fail
    refine (implReadDoc t (by omega) _ B (HV.out.on ((HA.out _).mono hB)) (Nat.le_trans hB (HA.out _).size)).mono ?_
    rintro e w1 ⟨v, err, rfl, hb, hcase⟩
    have hr := (hb.block w.heap.size (by simp)).trans (heap_alloc_new w _)
    have HB1 := Lib.hid ((HA.out _).trans (hb.mono (HA.out _).size))
    have hz1 := HB1.out.size
    have hsz : ∀ o, (w.alloc o).heap.size = w.heap.size + 1 := fun o => by simp
    rw [hsz] at hcase
    obtain ⟨a2, n2, c2, b2, m2, e2, rfl⟩ : ∃ a n c b m e, v = .agg #[.slice a n c, .slice b m e] := by
      rcases hcase with ⟨_, d, _, _, a, ca, b, cb, M, hv, _⟩ | ⟨_, hv, _⟩
      · exact ⟨_, _, _, _, _, _, hv⟩
      · exact ⟨_, _, _, _, _, _, hv⟩
    have HAd : Hid (Below w1.heap.size w1 (w1.alloc (.cells #[.slice a2 n2 c2, .slice b2 m2 e2] 25)).drew) := Lib.hid ((Below.refl w1.heap.size w1).alloc (Nat.le_refl _) (.cells #[.slice a2 n2 c2, .slice b2 m2 e2] 25)).drew
    have HBd := Lib.hid (HB1.out.trans (HAd.out.mono hz1))
    have hrd : (w1.alloc (.cells #[.slice a2 n2 c2, .slice b2 m2 e2] 25)).drew.heap[w.heap.size]? = _ := (HAd.out.block w.heap.size (lt_of_get hr)).trans hr
    have hdd : (w1.alloc (.cells #[.slice a2 n2 c2, .slice b2 m2 e2] 25)).drew.heap[w1.heap.size]? = some (.cells #[.slice a2 n2 c2, .slice b2 m2 e2] 25 (0, 0)) := heap_alloc_new w1 _
    have HE : Hid (ErrVar (w1.alloc (.cells #[.slice a2 n2 c2, .slice b2 m2 e2] 25)).drew) := Lib.hid (HV.out.on (HBd.out.mono hB)).here.err
    have ⟨⟨c0, c1⟩, _, _⟩ := keep2 hdd
    have ⟨⟨d0, d1, d2⟩, p0, p1, p2⟩ := keep3 hrd
    have hlt1 := lt_of_get hr
    have hne : w1.heap.size ≠ w.heap.size := by omega
    have hne2 : w.heap.size ≠ w1.heap.size := by omega
    clear hb hsz hr
    rcases hcase with ⟨rfl, d, hdb, hrd2, hdx⟩ | ⟨⟨k, rfl⟩, hv, hno⟩
    · have HO := Lib.hid (outP_is hbig hdb (docT_of_reads hrd2 hdb))
      have HDX := Lib.hid hdx
      clear hrd2 hdx hdb
      have CC : Hid (Calls Tryz.prog 15 #[.nilIface] (w1.alloc (.cells #[.slice a2 n2 c2, .slice b2 m2 e2] 25)).drew fun e w' => e = .returned (.int .i64 0) ∧ Below (w1.alloc (.cells #[.slice a2 n2 c2, .slice b2 m2 e2] 25)).drew.heap.size (w1.alloc (.cells #[.slice a2 n2 c2, .slice b2 m2 e2] 25)).drew w') := Lib.hid (codeNil _)
      go_wp2_with fail
      go_region_held3 (fun w' => w'.cell? ⟨w1.heap.size, 0, none⟩ = some (.slice a2 n2 c2) ∧ w'.cell? ⟨w1.heap.size, 1, none⟩ = some (.slice b2 m2 e2)) (go_keep)
        (first | (go_at_call 15; refine CC.out.mono ?_; rintro e w3 ⟨rfl, hb3⟩; have hd3 := (hb3.block w1.heap.size (lt_of_get hdd)).trans hdd; have hr3 := (hb3.block w.heap.size (lt_of_get hrd)).trans hrd; have ⟨⟨x0, x1⟩, _, _⟩ := keep2 hd3; have ⟨⟨z0, z1, z2⟩, q0, q1, q2⟩ := keep3 hr3))
      all_goals
        have HB3 := Lib.hid (HBd.out.trans (hb3.mono HBd.out.size))
        have HFX := Lib.hid (set3_block hr3 (.slice a2 n2 c2) (.slice b2 m2 e2) (.int .i64 0))
        have HBF := Lib.hid (set3_below HB3.out (g := w.heap.size) (Nat.le_refl _) (.slice a2 n2 c2) (.slice b2 m2 e2) (.int .i64 0))
        have HSZ : Hid ((set3 w3 w.heap.size (.slice a2 n2 c2) (.slice b2 m2 e2) (.int .i64 0)).heap.size = w3.heap.size) := Lib.hid (set3_size _ _ _ _ _)
        have HZ3 := Lib.hid (Nat.le_trans hz1 (Nat.le_trans HAd.out.size hb3.size))
        have HDF : Hid (DocX (set3 w3 w.heap.size (.slice a2 n2 c2) (.slice b2 m2 e2) (.int .i64 0)) w.heap.size (set3 w3 w.heap.size (.slice a2 n2 c2) (.slice b2 m2 e2) (.int .i64 0)).heap.size (.agg #[.slice a2 n2 c2, .slice b2 m2 e2]) d) := Lib.hid ((((HDX.out.below (Nat.le_refl _) HAd.out).below (C := (w1.alloc (.cells #[.slice a2 n2 c2, .slice b2 m2 e2] 25)).drew.heap.size) (HAd.out.size) hb3).block (w' := set3 w3 w.heap.size (.slice a2 n2 c2) (.slice b2 m2 e2) (.int .i64 0)) fun c x1 x2 => set3_other w3 w.heap.size _ _ _ c (by omega)).wide (by omega) (by rw [HSZ.out]; exact Nat.le_trans HAd.out.size hb3.size))
        clear hb3 hr3 hd3 hdd hrd
        go_wp2_with fail
        change bodyPost _ _ _ _ _ (set3 w3 w.heap.size (.slice a2 n2 c2) (.slice b2 m2 e2) (.int .i64 0))
        generalize set3 w3 w.heap.size (.slice a2 n2 c2) (.slice b2 m2 e2) (.int .i64 0) = WF at *
        have ⟨⟨f0, f1, f2⟩, _⟩ := keep3 HFX.out
        exact bodyPost_ret (v := .agg #[.slice a2 n2 c2, .slice b2 m2 e2, .int .i64 0]) (by simp [results, Tryz.results5, go_sem, f0, f1, f2]) rfl ⟨_, _, by rw [HO.out], HBF.out, by rw [HO.out]; exact HDF.out⟩
    · have HO := Lib.hid (outP_not hbig fun ⟨d, g1, g2⟩ => hno ⟨d, g1, by rw [← g2]; exact reads_of_docT g1⟩)
      have HZV : Hid ((a2 = none ∧ n2 = 0 ∧ c2 = 0) ∧ b2 = none ∧ m2 = 0 ∧ e2 = 0) := Lib.hid (by simpa using hv)
      clear hv hno
      unfold placedF
      have CC : Hid (Calls Tryz.prog 15 #[.iface 62 (.agg #[.int .i64 k, .iface 60 (.agg #[.int .i64 3])])] (w1.alloc (.cells #[.slice a2 n2 c2, .slice b2 m2 e2] 25)).drew fun e w' => e = .returned (.int .i64 3) ∧ Below (w1.alloc (.cells #[.slice a2 n2 c2, .slice b2 m2 e2] 25)).drew.heap.size (w1.alloc (.cells #[.slice a2 n2 c2, .slice b2 m2 e2] 25)).drew w') := Lib.hid (codePlaced k 3 _ HE.out)
      go_wp2_with fail
      go_region_held3 (fun w' => w'.cell? ⟨w1.heap.size, 0, none⟩ = some (.slice a2 n2 c2) ∧ w'.cell? ⟨w1.heap.size, 1, none⟩ = some (.slice b2 m2 e2)) (go_keep)
        (first | (go_at_call 15; refine CC.out.mono ?_; rintro e w3 ⟨rfl, hb3⟩; have hd3 := (hb3.block w1.heap.size (lt_of_get hdd)).trans hdd; have hr3 := (hb3.block w.heap.size (lt_of_get hrd)).trans hrd; have ⟨⟨x0, x1⟩, _, _⟩ := keep2 hd3; have ⟨⟨z0, z1, z2⟩, q0, q1, q2⟩ := keep3 hr3))
      all_goals
        have HB3 := Lib.hid (HBd.out.trans (hb3.mono HBd.out.size))
        have HFX := Lib.hid (set3_block hr3 (.slice a2 n2 c2) (.slice b2 m2 e2) (.int .i64 3))
        have HBF := Lib.hid (set3_below HB3.out (g := w.heap.size) (Nat.le_refl _) (.slice a2 n2 c2) (.slice b2 m2 e2) (.int .i64 3))
        have HSZ : Hid ((set3 w3 w.heap.size (.slice a2 n2 c2) (.slice b2 m2 e2) (.int .i64 3)).heap.size = w3.heap.size) := Lib.hid (set3_size _ _ _ _ _)
        have HZ3 := Lib.hid (Nat.le_trans hz1 (Nat.le_trans HAd.out.size hb3.size))
        have HDF : Hid (DocX (set3 w3 w.heap.size (.slice a2 n2 c2) (.slice b2 m2 e2) (.int .i64 3)) w.heap.size (set3 w3 w.heap.size (.slice a2 n2 c2) (.slice b2 m2 e2) (.int .i64 3)).heap.size (.agg #[.slice a2 n2 c2, .slice b2 m2 e2]) zeroDoc) := Lib.hid (by
          obtain ⟨⟨rfl, rfl, rfl⟩, rfl, rfl, rfl⟩ := HZV.out
          exact zeroX _ _ _ (by rw [HSZ.out]; exact HZ3.out))
        clear hb3 hr3 hd3 hdd hrd
        go_wp2_with fail
        change bodyPost _ _ _ _ _ (set3 w3 w.heap.size (.slice a2 n2 c2) (.slice b2 m2 e2) (.int .i64 3))
        generalize set3 w3 w.heap.size (.slice a2 n2 c2) (.slice b2 m2 e2) (.int .i64 3) = WF at *
        have ⟨⟨f0, f1, f2⟩, _⟩ := keep3 HFX.out
        exact bodyPost_ret (v := .agg #[.slice a2 n2 c2, .slice b2 m2 e2, .int .i64 3]) (by simp [results, Tryz.results5, go_sem, f0, f1, f2]) rfl ⟨_, _, by rw [HO.out], HBF.out, by rw [HO.out]; exact HDF.out⟩
end Go.Proofs.YtnkknfnndoegpaaGreatDoor.Selss
