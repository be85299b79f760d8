/-
  Contracts: strings.Join of words, impl.DocText: the text of a right Doc, else the empty text; of what was there nothing is changed. Conditions: in memory; the library's table of powers of ten reads as the program lays it.
-/
import Derived.Test.YtbmnconmpcbneaaDoorRows
import Derived.Test.YtbmnconmpcbneaaDoorImplText
import Derived.Test.YtbmnconmpcbneaaDoorImplDoc
namespace Go.Proofs.YtbmnconmpcbneaaDoor.Selss
open Go.RowKit Words Decs Splits
set_option linter.unusedVariables false
set_option maxRecDepth 100000

theorem join_flat : ∀ (r : List Tok) (x : Tok), Lib.join (x :: r) [32] ++ [32] = flat (x :: r)
  | [], x => by simp [Lib.join_one, flat]
  | y :: r, x => by
    have ih := join_flat r y
    rw [Lib.join_cons] at ih ⊢
    rw [flat, ← ih]
    simp [Lib.joinTail]
theorem join_docToks {d : DocP} (h : docB d = true) : Lib.join (docToks d) [32] = bl (docT d) := by
  have e := docT_flat h
  have h2 : docToks d = [123] :: (d.sels.toks ++ [[125]] ++ fragsToks d.frags) := rfl
  have h3 := join_flat (d.sels.toks ++ [[125]] ++ fragsToks d.frags) [123]
  rw [← h2, ← e] at h3
  exact List.append_cancel_right h3
theorem fragsT_size : ∀ l : List FragP, (∀ x ∈ l, (fragT x).size ≤ 2500) → (fragsT l).size ≤ 2500 * l.length
  | [], _ => Nat.zero_le _
  | x :: l, h => by
    have h1 := h x (by simp)
    have h2 := fragsT_size l (fun y hy => h y (by simp [hy]))
    simp only [fragsT, ByteArray.size_append, List.length_cons]; omega
theorem docT_size (d : DocP) : (docT d).size ≤ 20000 := by
  cases h : docB d
  · rw [← docT_no h]; simp
  · obtain ⟨_, hfl, hall, hsel, hfr⟩ := docB_parts h
    have h1 := text_size hsel
    have h2 := fragsT_size d.frags (fun x hx => by
      obtain ⟨i, hi⟩ := List.mem_iff_getElem?.1 hx
      have hfb := fragsB_at hfr hi
      rw [Nat.zero_add] at hfb
      have := fragAll_mem hi
      exact fragT_size hfb (by unfold DocP.all at hall; omega))
    rw [← docT_yes h, ByteArray.size_append]
    unfold DocP.all at hall
    omega
theorem joinWords (w : World) (base : Nat) (v : Value) (l : List Tok) (hown : OwnS w base v l) (hne : l ≠ []) (hl : l.length ≤ 1000000) (hlen : (Lib.join l [32]).length ≤ 140737488355328) :
    Calls Tryd.prog 23 #[v, .string ⟨#[32]⟩] w fun e w' => e = .returned (.string ⟨(Lib.join l [32]).toArray⟩) ∧ Below w.heap.size w w' := by
  have em : (l.map (fun t => (⟨t.toArray⟩ : ByteArray))).map (·.data.toList) = l := by
    rw [List.map_map]
    conv => rhs; rw [← List.map_id l]
    exact List.map_congr_left fun t _ => by simp
  obtain ⟨a, cap, rfl, hs⟩ := OwnS.strs hown
  obtain ⟨_, hh⟩ := hs
  have hcap : l.length ≤ cap := by
    obtain ⟨_, ⟨h, hn⟩ | ⟨g, cap', cur, h, _, _, hc, _⟩⟩ := hown
    · omega
    · cases h; exact hc
  rcases hh with h | ⟨b, off, rfl, hb, hb', hc⟩
  · exact absurd h hne
  have key := Tryd.strings_Join b off cap (l.map (fun t => (⟨t.toArray⟩ : ByteArray))) ⟨#[32]⟩ w (fun j x hj => by
      rw [List.getElem?_map] at hj
      obtain ⟨y, hy, rfl⟩ := Option.map_eq_some_iff.1 hj
      exact hc j y hy) hb' (by rw [List.length_map]; omega) (by rw [List.length_map]; exact hcap) (by rw [em]; exact hlen)
  rw [em, List.length_map] at key
  exact key

theorem fragToks_len (x : FragP) : (fragToks x).length ≤ 4 * x.sels.all + 6 := by
  have := toks_len x.sels
  unfold fragToks
  simp; omega
set_option maxHeartbeats 4000000 in
theorem implDocText (w : World) (A B : Nat) (v : Value) (d : DocP) (hs : DocAt w A B v d) (hB : B ≤ w.heap.size) (hp : Pow w.heap.size w) :
    Calls Tryd.prog 9 #[v] w fun e w' => e = .returned (.string (docT d)) ∧ Below w.heap.size w w' := by
  have CR : Hid (∀ w' : World, Below w.heap.size w w' → Calls Tryd.prog 21 #[v] w' fun e w'' => e = .returned (.bool (docB d)) ∧ Below w'.heap.size w' w'') := Lib.hid fun w' h => implDocRight w' A B v d (hs.below hB h) (Nat.le_trans hB h.size)
  obtain ⟨a, ca, b, cb, rfl, hsd, hsf, _⟩ := hs
  have HA : Hid (∀ o, Below w.heap.size w (w.alloc o)) := Lib.hid fun o => (Below.refl _ _).alloc (Nat.le_refl _) o
  obtain ⟨q, hb⟩ : ∃ q, docB d = q := ⟨_, rfl⟩
  rw [hb] at CR
  cases q
  · have hf := Lib.hid (docT_no hb)
    clear hb hsd hsf hp
    go_enter Tryd.func9, Tryd.ntmps9
    go_wp2_with fail
    refine (CR.out _ (HA.out _)).mono ?_
    rintro e w1 ⟨rfl, hb1⟩
    have HB1 := Lib.hid ((HA.out _).trans (hb1.mono (HA.out _).size))
    clear hb1
    go_wp2_with fail
    go_ret
    exact ⟨ret_string hf.out, HB1.out⟩
  have hjoin := Lib.hid (join_docToks hb)
  have hsize := Lib.hid (docT_size d)
  obtain ⟨_, hfl, hall, hsel, hfr⟩ := docB_parts hb
  have hall2 : d.sels.all ≤ 60 := by unfold DocP.all at hall; omega
  have hall3 : fragAll d.frags ≤ 60 := by unfold DocP.all at hall; omega
  have HS := Lib.hid hsd
  have HF := Lib.hid hsf
  have HFR := Lib.hid hfr
  have HP := Lib.hid hp
  have CB := Lib.hid (implAddBlock (d.sels.all + 1) d.sels (Nat.lt_succ_self _) 6 hsel (w.heap.size + 1) A B (by omega) a ca)
  have hlen := hsf.2.1
  clear hb hsd hsf hsel hfr hp hall
  go_enter Tryd.func9, Tryd.ntmps9
  go_wp2_with fail
  refine (CR.out _ (HA.out _)).mono ?_
  rintro e w1 ⟨rfl, hb1⟩
  obtain ⟨B1, z1, k0, k1⟩ := kstep (HA.out _) (by simp) (by simp; rfl) (by simp; rfl) hb1
  have HB1 := Lib.hid B1
  have HPA : Hid (Pow (w.heap.size + 1) w1) := Lib.hid ((HP.out.on HB1.out).mono (by omega))
  clear hb1 B1 CR
  go_wp2_with fail
  refine (CB.out w1 _ [] (HS.out.below hB HB1.out) z1 HPA.out (OwnS.none_ _ _) (by simp; omega)).mono ?_
  rintro e w2 ⟨v2, rfl, hown2, hm2⟩
  have hb2 := hm2.toBelow (base := w.heap.size + 1) (fun g hg => by cases hg) z1
  have z2 : w.heap.size < w2.heap.size := Nat.lt_of_lt_of_le z1 hb2.size
  have j1 := (hb2.cell (p := ⟨w.heap.size, 1, none⟩) (by simp)).trans k1
  have HB2 := Lib.hid (HB1.out.trans (hb2.mono (by omega)))
  have HO2 := Lib.hid hown2
  clear hb2 hm2 hown2 k0 k1 CB
  go_wp2_with fail
  go_loopw [3, 15] (fun x i wr => ∃ (i' : Nat) (pre : List Tok), i' ≤ d.frags.length ∧ i = .int .i64 i' ∧ Hid (pre ++ fragsToks (d.frags.drop i') = docToks d) ∧ Hid (pre.length + 4 * fragAll (d.frags.drop i') ≤ 242 + 4 * fragAll d.frags + 6 * i') ∧ OwnS wr (w.heap.size + 1) x pre ∧ w.heap.size < wr.heap.size ∧ Below w.heap.size w wr) (fun _ i _ => d.frags.length - (intOf i).toNat)
  case atStart => exact ⟨0, _, by omega, rfl, Lib.hid (by rw [List.drop_zero]; simp [docToks]), Lib.hid (by rw [List.drop_zero]; have := toks_len d.sels; simp; omega), HO2.out, z2, HB2.out⟩
  case round =>
    obtain ⟨i, pre, hi, rfl, hpre, hlp, hown, hz, hbw⟩ := hrel
    have HB := Lib.hid hbw
    have HO := Lib.hid hown
    have hbase := Lib.hid hown.base
    have hfi : fragAll (d.frags.drop i) ≤ 60 := by
      have key : ∀ (l : List FragP) (j : Nat), fragAll (l.drop j) ≤ fragAll l := by
        intro l
        induction l with
        | nil => intro j; simp
        | cons x l ih => intro j; cases j with
          | zero => simp
          | succ j => have := ih j; simp only [List.drop_succ_cons, fragAll]; omega
      have := key d.frags i; omega
    clear HO2 HB2 z2 j1 HPA z1 HB1
    by_cases hlt : i < d.frags.length
    · have hli : (i : Int) < (d.frags.length : Int) := by omega
      obtain ⟨x, fb, off, a', cap', hd, rfl, hbb, hok, ⟨hc0, hc1, hc2⟩, hu⟩ := (HF.out.below (Nat.le_refl _) (hbw.mono hB)).at hlt
      have hfb := fragsB_at HFR.out hd
      have hfp := fragB_parts hfb
      have hxa := fragAll_mem hd
      have hst := Lib.hid (fragAll_drop hd)
      have HU := Lib.hid hu
      have CX := Lib.hid (implAddBlock (x.sels.all + 1) x.sels (Nat.lt_succ_self _) 6 hfp.2.2.2.2 (w.heap.size + 1) A B (by omega) a' cap')
      have hft : Hid (fragsToks (d.frags.drop i) = fragToks x ++ fragsToks (d.frags.drop (i + 1))) := Lib.hid (by
        obtain ⟨hl, e⟩ := List.getElem?_eq_some_iff.1 hd
        rw [List.drop_eq_getElem_cons hl, e]; rfl)
      have hpl : pre.length ≤ 1000 := by have e1 := hlp.out; omega
      have hrel1 : Hid (((pre ++ [[102, 114, 97, 103, 109, 101, 110, 116], bl x.name, [111, 110], bl x.on]) ++ [123] :: (x.sels.toks ++ [[125]])) ++ fragsToks (d.frags.drop (i + 1)) = docToks d) := Lib.hid (by
        rw [← hpre.out, hft.out]; simp [fragToks])
      have hrel2 : Hid (((pre ++ [[102, 114, 97, 103, 109, 101, 110, 116], bl x.name, [111, 110], bl x.on]) ++ [123] :: (x.sels.toks ++ [[125]])).length + 4 * fragAll (d.frags.drop (i + 1)) ≤ 242 + 4 * fragAll d.frags + 6 * (i + 1)) := Lib.hid (by
        have e1 := hlp.out; have e2 := hst.out; have e3 := toks_len x.sels; simp; omega)
      have HM : Hid (∀ (o o2 : Obj) (v' : Value) (w' : World), Made u3 v' ((wr.alloc o).alloc o2) w' → Made u3 v' wr w') := Lib.hid fun o o2 v' w' h =>
        (Made.of_below (((Below.refl _ wr).alloc (Nat.le_refl _) o).alloc (by simp) o2)).trans h
      have HK : Hid (∀ (cs : Array Value) (T : TypeId) (o2 : Obj) (v' : Value) (w' : World), cs[2]? = some (.slice a' x.sels.len cap') → Made u3 v' ((wr.alloc (.cells cs T)).alloc o2) w' → w'.cell? ⟨wr.heap.size, 2, none⟩ = some (.slice a' x.sels.len cap')) := Lib.hid fun cs T o2 v' w' hc h =>
        (h.cell (p := ⟨wr.heap.size, 2, none⟩) (by simp; omega) (fun g hg => by have := (hbase.out g hg).2; show g ≠ wr.heap.size; omega)).trans ((((Below.refl _ (wr.alloc (.cells cs T))).alloc (Nat.le_refl _) o2).cell (p := ⟨wr.heap.size, 2, none⟩) (by simp)).trans (by unfold World.cell?; rw [heap_alloc_new]; exact hc))
      clear hlt hd hu hok hbw hown hfb hfp
      go_wp2_with (at_builtin; refine app_strs rfl _ _ rfl (w.heap.size + 1) u3 pre rfl ((HO.out.alloc _).alloc _) (wr.heap.size + 1) 4 [[102, 114, 97, 103, 109, 101, 110, 116], bl x.name, [111, 110], bl x.on] rfl (new_cells _ _ _ _ (by rw [List.map_cons, List.map_cons, List.map_cons, List.map_cons, strV_bl, strV_bl]; rfl) _ (by simp)) (by simp) (by simp; omega) (by simp; omega) ?_; intro v3 w3 hown3 hm3; have k43 := HK.out _ _ _ _ _ rfl hm3)
      have hm := HM.out _ _ _ _ hm3
      have hB3 := hm.toBelow (base := w.heap.size + 1) (fun g hg => (hbase.out g hg).1) hz
      have HB3 := HB.out.trans (hB3.mono (by omega))
      have z3 : w.heap.size < w3.heap.size := Nat.lt_of_lt_of_le hz hB3.size
      refine (CX.out w3 v3 _ (HU.out.below (Nat.le_trans hB (by omega)) (hB3.mono (by omega) : Below (w.heap.size) wr w3)) z3 ((HP.out.on HB3).mono (by omega)) hown3 (by simp; omega)).mono ?_
      rintro e w4 ⟨v4, rfl, hown4, hm4⟩
      have hbs3 := hown3.base
      have hB4 := hm4.toBelow (base := w.heap.size + 1) (fun g hg => (hbs3 g hg).1) z3
      have HB4 := Lib.hid (HB3.trans (hB4.mono (by omega)))
      have z4 : w.heap.size < w4.heap.size := Nat.lt_of_lt_of_le z3 hB4.size
      have HO4 := Lib.hid hown4
      clear hown4 hm4 hB4 hbs3 hown3 hm3 hm hB3 HB3 z3 k43
      go_wp2_with fail
      go_roundw
      case rel => exact ⟨i + 1, _, by omega, by go_num, hrel1, hrel2, HO4.out, z4, HB4.out⟩
      case measure => simp [intOf]; omega
    · obtain rfl : i = d.frags.length := by omega
      have hfin : pre = docToks d := by have e1 := hpre.out; rw [List.drop_length] at e1; simpa [fragsToks] using e1
      have CJ := Lib.hid (joinWords wr (w.heap.size + 1) u3 pre HO.out (by rw [hfin]; simp [docToks]) (by have e1 := hlp.out; omega) (by
        rw [hfin, hjoin.out]; have := hsize.out; unfold bl; rw [Array.length_toList]; show (docT d).size ≤ _; omega))
      have hres : Hid ((⟨(Lib.join pre [32]).toArray⟩ : ByteArray) = docT d) := Lib.hid (by rw [hfin, hjoin.out]; simp [bl])
      clear hlt hbw hown hfin
      go_wp2_with fail
      refine CJ.out.mono ?_
      rintro e w5 ⟨rfl, hb5⟩
      have HB5 := Lib.hid (HB.out.trans (hb5.mono HB.out.size))
      clear hb5
      go_wp2_with fail
      go_ret
      exact ⟨ret_string hres.out, HB5.out⟩
end Go.Proofs.YtbmnconmpcbneaaDoor.Selss
