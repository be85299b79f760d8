/-
  Contract: impl.readDoc reads a text of at most 8000 bytes. Conditions: the library's variables hold what the program lays.
-/
import Derived.Test.YtnkknfnndoegpaaGreatDoorRows
import Derived.Test.YtnkknfnndoegpaaGreatDoorDocRd
import Derived.Test.YtnkknfnndoegpaaGreatDoorImplDoc
import Derived.Lib.SplitLaws
namespace Go.Proofs.YtnkknfnndoegpaaGreatDoor.Selss
open Go.RowKit Words Decs Splits
set_option linter.unusedVariables false
set_option maxRecDepth 100000

theorem splitK_L : ∀ (n : Nat) (s : Tok), s.length < n → Lib.splitK [32] 0 (Lib.count s [32]) s = splitL 32 s := by
  intro n
  induction n with
  | zero => intro s h; omega
  | succ n ih =>
    intro s hs
    by_cases hm : (32 : UInt8) ∈ s
    · obtain ⟨a, b, rfl, ha⟩ := List.eq_append_cons_of_mem hm
      have hi : Lib.index (a ++ 32 :: b) [32] = (a.length : Int) := index_word ha
      have hd : (a ++ 32 :: b).drop (a.length + [(32 : UInt8)].length) = b := by simp
      rw [Lib.count_hit (by simp) hi, hd, Nat.add_comm, splitL_word ha]
      unfold Lib.splitK
      rw [hi, if_neg (by simp), show ((a.length : Int)).toNat = a.length from rfl, hd, ih b (by simp at hs; omega)]
      simp
    · have hi := index_none hm
      rw [Lib.count_miss hi, splitL_last hm]; rfl
theorem splitB_L (t : ByteArray) : (Lib.splitB ⟨#[32]⟩ 0 (Lib.countB t ⟨#[32]⟩) t).map bl = splitL 32 (bl t) := by
  have h := Lib.splitB_data ⟨#[32]⟩ 0 (Lib.countB t ⟨#[32]⟩) t
  exact h.trans (splitK_L _ _ (Nat.lt_succ_self _))
theorem implClone (s : ByteArray) (hs : s.size ≤ 8000) (w : World) : Calls Tryz.prog 23 #[.string s] w fun e w' => e = .returned (.string s) ∧ Below w.heap.size w w' := by
  go_enter Tryz.func23, Tryz.ntmps23
  go_wp2_with fail
  refine (Tryz.stringslite_Clone s _ (by omega)).mono ?_
  rintro e w1 ⟨rfl, hb⟩
  go_wp2_with fail
  go_ret
  exact ⟨rfl, hb⟩
/-- The words of a text, in a block of their own, and a reader at their begin. -/
theorem rd_made {w : World} {t : ByteArray} (ht : t.size ≤ 8000) {b : Nat} (hb : w.heap[b]? = some (.cells ((Lib.splitB ⟨#[32]⟩ 0 (Lib.countB t ⟨#[32]⟩) t).map Value.string).toArray 9 (0, 0))) :
    RdI (w.alloc (.cells #[.slice (some ⟨b, 0, none⟩) (Lib.countB t ⟨#[32]⟩ + 1) (Lib.countB t ⟨#[32]⟩ + 1), .int .i64 0] 57)) w.heap.size (some ⟨b, 0, none⟩) (Lib.countB t ⟨#[32]⟩ + 1) (splitL 32 (bl t)) 0 := by
  have hlen := Lib.splitB_all ⟨#[32]⟩ (by decide) 0 _ t rfl
  have hl2 : (splitL 32 (bl t)).length = Lib.countB t ⟨#[32]⟩ + 1 := by rw [← splitB_L, List.length_map, hlen]
  have hbl : (bl t).length = t.size := by simp [bl]
  have hbz := lt_of_get hb
  refine ⟨by rw [hl2]; exact heap_alloc_new w _, fun i x hx => ?_, by have := splitL_len 32 (bl t); omega, fun x hx => by have := splitL_sizes 32 (bl t) x hx; omega⟩
  refine ⟨b, 0, rfl, hbz, ?_⟩
  rw [← splitB_L, List.getElem?_map] at hx
  obtain ⟨y, hy, rfl⟩ := Option.map_eq_some_iff.1 hx
  have h1 : (w.alloc (.cells #[.slice (some ⟨b, 0, none⟩) (Lib.countB t ⟨#[32]⟩ + 1) (Lib.countB t ⟨#[32]⟩ + 1), .int .i64 0] 57)).heap[b]? = _ := (((Below.refl w.heap.size w).alloc (Nat.le_refl _) _).block b hbz).trans hb
  rw [Nat.zero_add]
  exact cell_of h1 (by simp [hy, bl])

def placedF (at_ : Nat) : Value := .iface 62 (.agg #[.int .i64 at_, .iface 60 (.agg #[.int .i64 3])])
def ReadRes (w w' : World) (t : ByteArray) (e : Ending) : Prop :=
  ∃ v err, e = .returned (.tuple #[v, err]) ∧ Below w.heap.size w w' ∧
    ((err = .nilIface ∧ ∃ d, docB d = true ∧ ReadsDoc d (splitL 32 (bl t)) ∧ DocX w' w.heap.size w'.heap.size v d) ∨
     ((∃ k, err = placedF k) ∧ v = .agg #[.slice none 0 0, .slice none 0 0] ∧ ¬ ∃ d, docB d = true ∧ ReadsDoc d (splitL 32 (bl t))))

set_option maxHeartbeats 4000000 in
theorem implReadDoc (t : ByteArray) (ht : t.size ≤ 8000) (w : World) (B : Nat) (hv : Vars B w) (hB : B ≤ w.heap.size) :
    Calls Tryz.prog 14 #[.string t] w fun e w' => ReadRes w w' t e := by
  have HV := Lib.hid hv
  have HA : Hid (∀ o, Below w.heap.size w (w.alloc o)) := Lib.hid fun o => (Below.refl _ _).alloc (Nat.le_refl _) o
  have htb : t.size < 4294967281 := by omega
  go_enter Tryz.func14, Tryz.ntmps14
  go_wp2_with fail
  refine (implClone t ht _).mono ?_
  rintro e w1 ⟨rfl, hb1⟩
  have hr := (hb1.block w.heap.size (by simp)).trans (heap_alloc_new w _)
  have HB1 := Lib.hid ((HA.out _).trans (hb1.mono (HA.out _).size))
  obtain ⟨m, hm⟩ := (HV.out.on (HB1.out.mono hB)).here.max
  clear hb1
  go_wp2_with fail
  refine (Tryz.strings_Split t ⟨#[32]⟩ m w1 htb hm (by decide)).mono ?_
  rintro e w2 ⟨rfl, rfl⟩
  clear hm
  go_wp2_with fail
  have hbw := heap_alloc_new w1 (.cells ((Lib.splitB ⟨#[32]⟩ 0 (Lib.countB t ⟨#[32]⟩) t).map Value.string).toArray 9)
  have hA1 : Below w1.heap.size w1 (w1.alloc (.cells ((Lib.splitB ⟨#[32]⟩ 0 (Lib.countB t ⟨#[32]⟩) t).map Value.string).toArray 9)) := (Below.refl _ _).alloc (Nat.le_refl _) _
  have hsz2 : (w1.alloc (.cells ((Lib.splitB ⟨#[32]⟩ 0 (Lib.countB t ⟨#[32]⟩) t).map Value.string).toArray 9)).heap.size = w1.heap.size + 1 := by simp
  generalize w1.alloc (.cells ((Lib.splitB ⟨#[32]⟩ 0 (Lib.countB t ⟨#[32]⟩) t).map Value.string).toArray 9) = w2 at *
  have HRM := Lib.hid (rd_made ht hbw)
  have hA2 : Below w2.heap.size w2 (w2.alloc (.cells #[.slice (some ⟨w1.heap.size, 0, none⟩) (Lib.countB t ⟨#[32]⟩ + 1) (Lib.countB t ⟨#[32]⟩ + 1), .int .i64 0] 57)) := (Below.refl _ _).alloc (Nat.le_refl _) _
  generalize w2.alloc (.cells #[.slice (some ⟨w1.heap.size, 0, none⟩) (Lib.countB t ⟨#[32]⟩ + 1) (Lib.countB t ⟨#[32]⟩ + 1), .int .i64 0] 57) = w3 at *
  rw [← hsz2]
  have hz1 := lt_of_get hr
  generalize hp : w2.heap.size = p at *
  have hb13 : Below w1.heap.size w1 w3 := hA1.trans (hA2.mono (by omega))
  replace hr := (hb13.block w.heap.size hz1).trans hr
  have HB3 := Lib.hid (HB1.out.trans (hb13.mono (by omega)))
  have hz3 := HRM.out.lt
  have hwp : w.heap.size < p := by omega
  clear hbw hA1 hA2 hb13 hsz2
  refine (docOk w3 p _ _ (splitL 32 (bl t)) HRM.out ((HV.out.on (HB3.out.mono hB)).mono (by omega))).mono ?_
  rintro e w4 ⟨v, err, k, rfl, ho, hk, hR4, hcase⟩
  replace hr := (ho.block w.heap.size (by omega) (by omega)).trans hr
  have HB4 := Lib.hid (HB3.out.trans (ho.toBelow (B := w.heap.size) (by omega) (by omega)))
  have hz4 := ho.size
  have HR4 := Lib.hid hR4
  clear ho hR4 HRM
  rcases hcase with ⟨rfl, d, hdx, hrd⟩ | ⟨rfl, rfl, hno⟩
  · have HRD := Lib.hid hrd
    obtain ⟨a2, n2, c2, b2, m2, e2, rfl⟩ : ∃ a n c b m e, v = .agg #[.slice a n c, .slice b m e] := (let ⟨a, ca, b, cb, M, hv, _⟩ := hdx; ⟨_, _, _, _, _, _, hv⟩)
    have hA4 : Below w4.heap.size w4 (w4.alloc (.cells #[.slice a2 n2 c2, .slice b2 m2 e2] 25)) := (Below.refl _ _).alloc (Nat.le_refl _) _
    have HDX := Lib.hid (hdx.below (Nat.le_refl _) hA4)
    have HB5 := Lib.hid (HB4.out.trans (hA4.mono (by omega)))
    have HR5 := Lib.hid (HR4.out.below HR4.out.lt hA4)
    have hr5 : (w4.alloc (.cells #[.slice a2 n2 c2, .slice b2 m2 e2] 25)).heap[w.heap.size]? = _ := (hA4.block w.heap.size (by omega)).trans hr
    have hz5 := hA4.size
    have hd5 := heap_alloc_new w4 (.cells #[.slice a2 n2 c2, .slice b2 m2 e2] 25)
    clear hdx hrd hA4 hr
    go_wp2_with fail
    refine (implDocRight (w4.alloc (.cells #[.slice a2 n2 c2, .slice b2 m2 e2] 25)) w3.heap.size w4.heap.size _ d HDX.out.doc (by simp)).mono ?_
    rintro e w6 ⟨rfl, hb6⟩
    have hr := (hb6.block w.heap.size (by omega)).trans hr5
    have hd6 := (hb6.block w4.heap.size (lt_of_get hd5)).trans hd5
    have ⟨⟨x0, x1⟩, y0, y1⟩ := keep2 hd6
    have BF := Lib.hid (HB5.out.trans (hb6.mono (by omega)))
    have HDX6 := Lib.hid (HDX.out.below (by omega) hb6)
    have HR6 := Lib.hid (HR5.out.below HR5.out.lt hb6)
    have hz6 := hb6.size
    have ⟨c1, c0, d1, d0⟩ := RdI.at HR6.out
    clear hb6 hr5 hd5 hd6
    obtain ⟨db, hdb⟩ : ∃ b, docB d = b := ⟨_, rfl⟩
    rw [hdb]
    have HDB := Lib.hid hdb
    clear hdb
    cases db
    · have HFX := Lib.hid (set2_block hr (.slice none 0 0) (.slice none 0 0))
      have HBF := Lib.hid (set2_below BF.out (g := w.heap.size) (Nat.le_refl _) (.slice none 0 0) (.slice none 0 0))
      have ⟨⟨e0, e1⟩, p0, p1⟩ := keep2 hr
      clear hr
      go_wp2_with fail
      go_region
      go_wp2_with fail
      change bodyPost _ _ _ _ _ (set2 w6 w.heap.size (.slice none 0 0) (.slice none 0 0)).drew
      generalize set2 w6 w.heap.size (.slice none 0 0) (.slice none 0 0) = WF at *
      have ⟨⟨f0, f1⟩, _⟩ := keep2 (w1 := WF.drew) HFX.out
      exact bodyPost_ret (v := .tuple #[.agg #[.slice none 0 0, .slice none 0 0], .iface 62 (.agg #[.int .i64 k, .iface 60 (.agg #[.int .i64 3])])]) (by simp [results, Tryz.results14, go_sem, f0, f1]) rfl ⟨_, _, rfl, HBF.out.drew, .inr ⟨⟨k, rfl⟩, rfl, fun ⟨d2, g1, g2⟩ => by rw [doc_one g2 HRD.out, HDB.out] at g1; cases g1⟩⟩
    · have HFX := Lib.hid (set2_block hr (.slice a2 n2 c2) (.slice b2 m2 e2))
      have HBF := Lib.hid (set2_below BF.out (g := w.heap.size) (Nat.le_refl _) (.slice a2 n2 c2) (.slice b2 m2 e2))
      have HDF : Hid (DocX (set2 w6 w.heap.size (.slice a2 n2 c2) (.slice b2 m2 e2)) w.heap.size (set2 w6 w.heap.size (.slice a2 n2 c2) (.slice b2 m2 e2)).heap.size (.agg #[.slice a2 n2 c2, .slice b2 m2 e2]) d) := Lib.hid ((HDX6.out.block (w' := set2 w6 w.heap.size (.slice a2 n2 c2) (.slice b2 m2 e2)) fun c x1 x2 => set2_other w6 w.heap.size _ _ c (by omega)).wide (by omega) (by rw [set2_size]; omega))
      have ⟨⟨e0, e1⟩, p0, p1⟩ := keep2 hr
      clear hr
      go_wp2_with fail
      change bodyPost _ _ _ _ _ (set2 w6 w.heap.size (.slice a2 n2 c2) (.slice b2 m2 e2))
      generalize set2 w6 w.heap.size (.slice a2 n2 c2) (.slice b2 m2 e2) = WF at *
      have ⟨⟨f0, f1⟩, _⟩ := keep2 HFX.out
      exact bodyPost_ret (v := .tuple #[.agg #[.slice a2 n2 c2, .slice b2 m2 e2], .nilIface]) (by simp [results, Tryz.results14, go_sem, f0, f1]) rfl ⟨_, _, rfl, HBF.out, .inl ⟨rfl, d, HDB.out, HRD.out, HDF.out⟩⟩
  · have HN := Lib.hid hno
    have hA4 : Below w4.heap.size w4 (w4.alloc (.cells #[.slice none 0 0, .slice none 0 0] 25)) := (Below.refl _ _).alloc (Nat.le_refl _) _
    have BF := Lib.hid (HB4.out.trans (hA4.mono (by omega)))
    replace hr : (w4.alloc (.cells #[.slice none 0 0, .slice none 0 0] 25)).heap[w.heap.size]? = _ := (hA4.block w.heap.size (by omega)).trans hr
    have HR5 := Lib.hid (HR4.out.below HR4.out.lt hA4)
    have ⟨c1, c0, d1, d0⟩ := RdI.at HR5.out
    clear hno hA4
    have HFX := Lib.hid (set2_block hr (.slice none 0 0) (.slice none 0 0))
    have HBF := Lib.hid (set2_below BF.out (g := w.heap.size) (Nat.le_refl _) (.slice none 0 0) (.slice none 0 0))
    have ⟨⟨e0, e1⟩, p0, p1⟩ := keep2 hr
    clear hr
    go_wp2_with fail
    go_region
    go_wp2_with fail
    change bodyPost _ _ _ _ _ (set2 (w4.alloc (.cells #[.slice none 0 0, .slice none 0 0] 25)) w.heap.size (.slice none 0 0) (.slice none 0 0)).drew
    generalize set2 (w4.alloc (.cells #[.slice none 0 0, .slice none 0 0] 25)) w.heap.size (.slice none 0 0) (.slice none 0 0) = WF at *
    have ⟨⟨f0, f1⟩, _⟩ := keep2 (w1 := WF.drew) HFX.out
    exact bodyPost_ret (v := .tuple #[.agg #[.slice none 0 0, .slice none 0 0], .iface 62 (.agg #[.int .i64 k, .iface 60 (.agg #[.int .i64 3])])]) (by simp [results, Tryz.results14, go_sem, f0, f1]) rfl ⟨_, _, rfl, HBF.out.drew, .inr ⟨⟨k, rfl⟩, rfl, fun ⟨d2, g1, g2⟩ => HN.out ⟨d2, g2⟩⟩⟩
end Go.Proofs.YtnkknfnndoegpaaGreatDoor.Selss
