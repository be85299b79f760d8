/-
  Contract: impl's add lays open the fields of selections behind those that are; of what was there nothing else is changed. Conditions: in memory, no Frag comes to spread itself.
-/
import Derived.Test.YtceabbbmgfeofaaGreatDoorRows
import Derived.Test.YtceabbbmgfeofaaGreatDoorOpenI
import Derived.Deep.RegionLaw
import Derived.Deep.RegionWith
namespace Go.Proofs.YtceabbbmgfeofaaGreatDoor.Selss
open Go.RowKit Words Go.Maps
set_option linter.unusedVariables false
set_option maxRecDepth 100000

def zrow : RowS := ⟨0, ⟨#[]⟩, ⟨#[]⟩, 0, .nil, none, 0⟩
section
variable {w : World} {ops : Array Oper} {o : Oper} {a : Act}
theorem step_app_zero {K : Act → World → Prop} {Q : Exit → Act → World → Prop} {E : Prop} (hgd : o.guard = none) (s x : Operand)
    (ho : o.op = .call { callee := .builtin .append, args := #[s, x], argTypes := #[26, 26] })
    (base : Nat) (v : Value) (R : List RowS) (hs : a.eval s = v) (hown : OwnSs w base v R)
    (B c : Nat) (hx : a.eval x = .slice (some ⟨B, 0, none⟩) 1 c) (hc : w.heap[B]? = some (.cells #[.int .i64 0, .string ⟨#[]⟩, .string ⟨#[]⟩, .int .i64 0, .slice none 0 0] 114 (0, 0)))
    (hsize : R.length + 1 ≤ 200000000000) (hbase : base ≤ w.heap.size)
    (h : ∀ g cap w' cur, OwnSs w' base (.slice (some ⟨g, 0, none⟩) (R.length + 1) cap) (R ++ [zrow]) → MadeS v (.slice (some ⟨g, 0, none⟩) (R.length + 1) cap) w w' → w'.heap[g]? = some (.cells cur 114 (0, 0)) → (R.length + 1) * 5 ≤ cur.size → base ≤ g → R.length + 1 ≤ cap → K (a.put o.dst (.slice (some ⟨g, 0, none⟩) (R.length + 1) cap)) w') : if Region.wanted o (yielded ops a.tmps) = true then Oper.wp Tryz.prog o a w K Q else E := by
  obtain ⟨i0, hi, hz0, hz1, hz2⟩ := info_parts infoSel5
  refine step_append_lies w hgd s x 26 ho base 114 i0 _ 5 72 Tryz.underlying26 hi hz0 hz1 hz2 rfl (by decide) v R.length (R.flatMap RowS.cells) hs hown ⟨B, 0, none⟩ 1 c zrow.cells hx rfl
    (fun j u hj => World.news_of_block hc j u (by simpa [zrow, RowS.cells, Sels.len] using hj)) (fun u hu => ?_) (by omega) (by unfold maxLen; omega) (by omega) hbase _ rfl ?_
  · simp [zrow, RowS.cells] at hu
    rcases hu with rfl | rfl | rfl | rfl | rfl <;> rfl
  · intro g cap w' hown' hgrow hat _
    have ho2 : OwnSs w' base (.slice (some ⟨g, 0, none⟩) (R.length + 1) cap) (R ++ [zrow]) := by
      unfold OwnSs; rw [List.length_append, List.flatMap_append]; simpa using hown'
    obtain ⟨hl, ⟨hv, _⟩ | ⟨gb, cap', cur, hv, hb, hg, hcc, hm, hs', ht⟩⟩ := hown'
    · cases hv
    · cases hv
      exact h g cap w' cur ho2 ⟨hgrow, own_of hat⟩ hg (by rw [hs']; exact Nat.mul_le_mul_right _ hcc) hb hcc
end
/-- The last of a row, written anew. -/
theorem OwnSs.last {w : World} {base g cap : Nat} {R : List RowS} {r0 r : RowS} (h : OwnSs w base (.slice (some ⟨g, 0, none⟩) (R.length + 1) cap) (R ++ [r0])) : OwnSs (Rw.putL w g (R.length * 5) r.cells) base (.slice (some ⟨g, 0, none⟩) (R.length + 1) cap) (R ++ [r]) := by
  have hlen : ∀ l : List RowS, (l.flatMap RowS.cells).length = l.length * 5 := by
    intro l
    induction l with
    | nil => rfl
    | cons y l ih => rw [List.flatMap_cons, List.length_append, ih, List.length_cons]; simp [RowS.cells]; omega
  obtain ⟨hl, ⟨hv, _⟩ | ⟨gb, cap', cur, hv, hb, hg, hcc, hm, hs', ht⟩⟩ := h
  · cases hv
  · have e1 : g = gb := by injection hv with h1 h2 h3; injection h1 with h1; injection h1
    have e2 : cap = cap' := by injection hv
    subst e1; subst e2
    have hc5 : r.cells.length = 5 := rfl
    have hcap : (R.length + 1) * 5 ≤ cap * 5 := Nat.mul_le_mul_right _ (by simpa using hcc)
    obtain ⟨Z, hz1, hz2, hz3, hz4⟩ := Rw.putL_row r.cells (o := R.length * 5) hg (by rw [hc5, hs']; omega)
    refine ⟨by rw [hlen], .inr ⟨g, cap, Z, by rw [List.length_append]; rfl, hb, hz2, by simpa using hcc, hm, by rw [hz1, hs'], ?_⟩⟩
    rw [List.length_append, List.length_singleton]
    rw [List.length_append, List.length_singleton] at ht
    refine List.ext_getElem? fun j => ?_
    by_cases hj : j < (R.length + 1) * 5
    · rw [List.getElem?_take_of_lt hj, List.flatMap_append]
      by_cases hj2 : j < R.length * 5
      · rw [List.getElem?_append_left (by rw [hlen]; exact hj2)]
        have e3 : Z.toList[j]? = cur.toList[j]? := by
          have := hz4 j (.inl hj2)
          simpa using this
        have e4 : (cur.toList.take ((R.length + 1) * 5))[j]? = ((R ++ [r0]).flatMap RowS.cells)[j]? := by rw [ht]
        rw [List.getElem?_take_of_lt hj, List.flatMap_append, List.getElem?_append_left (by rw [hlen]; exact hj2)] at e4
        rw [e3, e4]
      · rw [List.getElem?_append_right (by rw [hlen]; omega), hlen]
        have hq : j - R.length * 5 < r.cells.length := by rw [hc5]; omega
        have e5 := hz3 (j - R.length * 5) _ (List.getElem?_eq_getElem hq)
        have e6 : Z.toList[j]? = Z[j]? := by simp
        rw [e6, show j = R.length * 5 + (j - R.length * 5) by omega, e5]
        simp only [List.flatMap_cons, List.flatMap_nil, List.append_nil]
        rw [show R.length * 5 + (j - R.length * 5) - R.length * 5 = j - R.length * 5 by omega, List.getElem?_eq_getElem hq]
    · rw [List.getElem?_eq_none (by rw [List.length_take]; omega), List.getElem?_eq_none (by rw [hlen, List.length_append, List.length_singleton]; omega)]

theorem OpSt.more {w3 W : World} {B base pb mb g cap : Nat} {fa : Option Addr} {fl fc : Nat} {sp : List ByteArray} {R : List RowS} {D : DataW Value} {r : RowS}
    (hown : OwnSs w3 base (.slice (some ⟨g, 0, none⟩) (R.length + 1) cap) (R ++ [zrow])) (hmap : Nm.OwnM w3 mb sp.length D) (hsd : Nm.SD sp D) (hok : ∀ r, r ∈ R → r.k = 1 ∧ RowS.ok w3 0 B r) (hr : r.k = 1 ∧ RowS.ok w3 0 B r)
    (hbp : B ≤ pb) (hpb : pb < base) (hmb : mb < base) (hne : pb ≠ mb) (hbg : base ≤ g)
    (hg : W.heap[g]? = (Rw.putL w3 g (R.length * 5) r.cells).heap[g]?) (hp : W.heap[pb]? = some (.cells #[.slice fa fl fc, .func (.func 86) #[] #[], .map (some mb), .slice (some ⟨g, 0, none⟩) (R.length + 1) cap] 154 (0, 0)))
    (ho : ∀ c, c ≠ g → c ≠ pb → W.heap[c]? = w3.heap[c]?) : OpSt W B base pb mb fa fl fc sp (R ++ [r]) := by
  have hl : (R ++ [r]).length = R.length + 1 := by simp
  refine ⟨⟨some ⟨g, 0, none⟩, cap, by rw [hl]; exact hp, ?_⟩, ⟨D, Nm.OwnM.same hmap (ho mb (by omega) (fun e => hne e.symm)), hsd⟩, fun x hx => ?_⟩
  · rw [hl]
    refine OwnSs.frame (hown.last (r := r)) fun c hc hc2 => ?_
    by_cases e : c = g
    · subst e; exact hg
    · rw [ho c e (by omega), Rw.putL_other _ _ _ _ c e]
  · have hw : ∀ c, 0 ≤ c → c < B → W.heap[c]? = w3.heap[c]? := fun c _ hc => ho c (by omega) (by omega)
    rcases List.mem_append.1 hx with h | h
    · exact ⟨(hok x h).1, (hok x h).2.1, (hok x h).2.2.block hw⟩
    · simp at h; subst h
      exact ⟨hr.1, hr.2.1, hr.2.2.block hw⟩
theorem OpSt.two {w3 : World} {B base pb mb g cap : Nat} {fa av : Option Addr} {fl fc cv n0 : Nat} {sp : List ByteArray} {R : List RowS} {D : DataW Value} {r : RowS}
    (hown : OwnSs w3 base (.slice (some ⟨g, 0, none⟩) (R.length + 1) cap) (R ++ [zrow])) (hmap : Nm.OwnM w3 mb sp.length D) (hsd : Nm.SD sp D) (hok : ∀ r, r ∈ R → r.k = 1 ∧ RowS.ok w3 0 B r) (hr : r.k = 1 ∧ RowS.ok w3 0 B r)
    (hbp : B ≤ pb) (hpb : pb < base) (hmb : mb < base) (hne : pb ≠ mb) (hbg : base ≤ g)
    (hp : w3.heap[pb]? = some (.cells #[.slice fa fl fc, .func (.func 86) #[] #[], .map (some mb), .slice av n0 cv] 154 (0, 0))) :
    OpSt ((Rw.putL w3 g (R.length * 5) r.cells).setCell ⟨pb, 3, none⟩ (.slice (some ⟨g, 0, none⟩) (R.length + 1) cap)) B base pb mb fa fl fc sp (R ++ [r]) ∧ OpSt (Rw.putL (w3.setCell ⟨pb, 3, none⟩ (.slice (some ⟨g, 0, none⟩) (R.length + 1) cap)) g (R.length * 5) r.cells) B base pb mb fa fl fc sp (R ++ [r]) := by
  constructor
  · refine OpSt.more hown hmap hsd hok hr hbp hpb hmb hne hbg (Go.Deep.blk_setCell_other _ ⟨pb, 3, none⟩ _ _ (by show g ≠ pb; omega)) ?_ fun c h1 h2 => (Go.Deep.blk_setCell_other _ ⟨pb, 3, none⟩ _ _ h2).trans (Rw.putL_other _ _ _ _ c h1)
    have h1 := (Rw.putL_other r.cells w3 g (R.length * 5) pb (by omega)).trans hp
    have := heap_setCell_same _ pb 3 _ _ (.slice (some ⟨g, 0, none⟩) (R.length + 1) cap) h1
    simpa using this
  · have h1 := heap_setCell_same w3 pb 3 _ _ (.slice (some ⟨g, 0, none⟩) (R.length + 1) cap) hp
    refine OpSt.more hown hmap hsd hok hr hbp hpb hmb hne hbg ?_ ?_ fun c h1 h2 => (Rw.putL_other _ _ _ _ c h1).trans (Go.Deep.blk_setCell_other _ ⟨pb, 3, none⟩ _ _ h2)
    · have e : ∀ (l : List Value) (w w' : World) (o : Nat), w'.heap[g]? = w.heap[g]? → (Rw.putL w' g o l).heap[g]? = (Rw.putL w g o l).heap[g]? := by
        intro l
        induction l with
        | nil => intro w w' o h; exact h
        | cons v l ih =>
          intro w w' o h
          exact ih _ _ (o + 1) (set_same h o v)
      exact e _ _ _ _ (Go.Deep.blk_setCell_other _ ⟨pb, 3, none⟩ _ _ (by show g ≠ pb; omega))
    · rw [Rw.putL_other _ _ _ _ pb (by omega)]; simpa using h1
where
  set_same {w w' : World} {g : Nat} (h : w'.heap[g]? = w.heap[g]?) (o : Nat) (v : Value) : (w'.setCell ⟨g, o, none⟩ v).heap[g]? = (w.setCell ⟨g, o, none⟩ v).heap[g]? := by
    simp only [World.setCell]
    rw [Array.getElem?_modify, Array.getElem?_modify, h]

set_option maxHeartbeats 8000000 in
theorem implAdd {fr : List FragP} (hn : NoLoop fr) : ∀ (N : Nat) (s : Sels), full fr s < N → AddOk fr s := by
  intro N
  induction N with
  | zero => intro s h; omega
  | succ N ih =>
    intro s hfull w B lo base pb mb n fa fc a cap sp R hf hs hp hst hlow hinv hlen
    have hsl := hs.2.1
    have IH := Lib.hid ih
    have HF := Lib.hid hf
    have HS := Lib.hid hs
    have HP := Lib.hid hp
    have HST := Lib.hid hst
    have HFU := Lib.hid hfull
    have HLOW := Lib.hid hlow
    have HINV := Lib.hid hinv
    have HLN := Lib.hid hlen
    have hlo := hp.h1
    have hpb := hp.h2
    have hmb := hp.h3
    have hpm := hp.h4
    have htop := hp.h5
    clear ih hf hs hp hst hfull hlow hinv hlen
    go_enter Tryz.func87, Tryz.ntmps87
    go_wp2_with fail
    go_loopw [8] (fun i wr => ∃ (i' : Nat) (sp' : List ByteArray) (R' : List RowS), i' ≤ s.len ∧ i = .int .i64 i' ∧ Hid (OpSt wr B base pb mb fa fr.length fc sp' R') ∧ Hid (Uq.Same (R'.map fdOf ++ opens fr (s.drop i')) (R.map fdOf ++ opens fr s)) ∧ Hid (∀ x, x ∈ R.map fdOf → x ∈ R'.map fdOf) ∧ Hid (∀ m, m ∈ sp' → m ∈ sp ∨ Done fr m (R'.map fdOf)) ∧ Hid (∀ m, m ∈ sp → m ∈ sp') ∧ Hid (sp'.length + sumF fr (R'.map fdOf) + full fr (s.drop i') ≤ sp.length + sumF fr (R.map fdOf) + full fr s) ∧ Below lo w wr) (fun i _ => s.len - (intOf i).toNat)
    case atStart => exact ⟨0, sp, R, by omega, rfl, HST, Lib.hid (by rw [Sels.drop_zero]; exact Uq.Same.refl _), Lib.hid (fun x h => h), Lib.hid (fun m h => .inl h), Lib.hid (fun m h => h), Lib.hid (by rw [Sels.drop_zero]; omega), Below.refl _ _⟩
    case round =>
      obtain ⟨i, spc, Rc, hi, rfl, HSTC, HSM, HSUB, HDN, HSS, HLC, hb⟩ := hrel
      have HB := Lib.hid hb
      have hzr := hb.size
      by_cases hlt : i < s.len
      · have hli : (i : Int) < (s.len : Int) := by omega
        obtain ⟨k, key, nm, f, u, r, b, off, a', cap', hd, rfl, hbb, hok, ⟨hc0, hc1, hc2, hc3, hc4⟩, hu⟩ := (HS.out.below hlo hb).at hlt
        have HU := Lib.hid hu
        have HOKI := Lib.hid hok
        have HST' := Lib.hid (opens_step hn hd)
        have HFT := Lib.hid (full_step hn hd)
        have HFD := Lib.hid (full_drop hn i s)
        have HLT := Lib.hid hlt
        have HLU : Hid (Low fr n u ∧ (k = 3 → rk fr nm ≤ n)) := Lib.hid (by
          have h1 : Low fr n (s.drop i) := fun m hm => HLOW.out m (by
            have : ∀ (i : Nat) (s : Sels), m ∈ (s.drop i).spr → m ∈ s.spr := fun i => by
              induction i with
              | zero => intro s h; exact h
              | succ i ih =>
                intro s h
                cases s with
                | nil => exact h
                | cons k key nm f u r => simp only [Sels.spr, List.mem_append]; exact .inr (.inr (ih r h))
            exact this i s hm)
          rw [hd] at h1
          exact ⟨h1.cons.1, h1.cons.2.2⟩)
        have HAA : Hid (∀ o, Below wr.heap.size wr (wr.alloc o)) := Lib.hid fun o => (Below.refl _ _).alloc (Nat.le_refl _) o
        have HINC : Hid (Inv fr n spc (Rc.map fdOf)) := Lib.hid fun m hm hr => (HDN.out m hm).elim (fun h x hx => HSUB.out x (HINV.out m h hr x hx)) id
        clear hlt hd hok hu hb
        by_cases hk1 : k = 1
        · subst hk1
          have hbw : B ≤ wr.heap.size := by omega
          have HX : Hid (opens fr (s.drop i) = [⟨key, nm, f, u⟩] ++ opens fr (s.drop (i + 1))) := Lib.hid (by rw [HST'.out, if_pos rfl])
          have HXF : Hid (full fr (s.drop i) = 1 + full fr u + full fr (s.drop (i + 1))) := Lib.hid (by have := HFT.out; rw [if_neg (by omega)] at this; omega)
          obtain ⟨⟨av, cv, hblk, hown⟩, ⟨D, hmap, hsd⟩, hokc⟩ := HSTC.out
          have HOWN := Lib.hid hown
          have HMAP := Lib.hid hmap
          have HSD := Lib.hid hsd
          have HOKC := Lib.hid hokc
          have hzb : base ≤ ((wr.alloc (.cells #[.int .i64 1, .string key, .string nm, .int .i64 f, .slice a' u.len cap'] 114)).alloc (.cells #[.int .i64 0, .string ⟨#[]⟩, .string ⟨#[]⟩, .int .i64 0, .slice none 0 0] 114)).drew.heap.size := by show base ≤ ((wr.alloc _).alloc _).heap.size; simp; omega
          have HPBD : Hid ((wr.alloc (.cells #[.int .i64 1, .string key, .string nm, .int .i64 f, .slice a' u.len cap'] 114)).heap[pb]? = some (.cells #[.slice fa fr.length fc, .func (.func 86) #[] #[], .map (some mb), .slice av Rc.length cv] 154 (0, 0))) := Lib.hid ((Go.Deep.blk_alloc_lt wr (.cells #[.int .i64 1, .string key, .string nm, .int .i64 f, .slice a' u.len cap'] 114) pb (by omega)).trans hblk)
          have HSLD : Hid ((wr.alloc (.cells #[.int .i64 1, .string key, .string nm, .int .i64 f, .slice a' u.len cap'] 114)).heap[wr.heap.size]? = some (.cells #[.int .i64 1, .string key, .string nm, .int .i64 f, .slice a' u.len cap'] 114 (0, 0))) := Lib.hid (heap_alloc_new wr (.cells #[.int .i64 1, .string key, .string nm, .int .i64 f, .slice a' u.len cap'] 114))
          have hwds : (wr.alloc (.cells #[.int .i64 1, .string key, .string nm, .int .i64 f, .slice a' u.len cap'] 114)).heap.size = wr.heap.size + 1 := by simp
          have HPBZ : Hid (((wr.alloc (.cells #[.int .i64 1, .string key, .string nm, .int .i64 f, .slice a' u.len cap'] 114)).alloc (.cells #[.int .i64 0, .string ⟨#[]⟩, .string ⟨#[]⟩, .int .i64 0, .slice none 0 0] 114)).heap[pb]? = some (.cells #[.slice fa fr.length fc, .func (.func 86) #[] #[], .map (some mb), .slice av Rc.length cv] 154 (0, 0))) := Lib.hid ((Go.Deep.blk_alloc_lt (wr.alloc (.cells #[.int .i64 1, .string key, .string nm, .int .i64 f, .slice a' u.len cap'] 114)) (.cells #[.int .i64 0, .string ⟨#[]⟩, .string ⟨#[]⟩, .int .i64 0, .slice none 0 0] 114) pb (by omega)).trans HPBD.out)
          have HSLZ : Hid (((wr.alloc (.cells #[.int .i64 1, .string key, .string nm, .int .i64 f, .slice a' u.len cap'] 114)).alloc (.cells #[.int .i64 0, .string ⟨#[]⟩, .string ⟨#[]⟩, .int .i64 0, .slice none 0 0] 114)).heap[wr.heap.size]? = some (.cells #[.int .i64 1, .string key, .string nm, .int .i64 f, .slice a' u.len cap'] 114 (0, 0))) := Lib.hid ((Go.Deep.blk_alloc_lt (wr.alloc (.cells #[.int .i64 1, .string key, .string nm, .int .i64 f, .slice a' u.len cap'] 114)) (.cells #[.int .i64 0, .string ⟨#[]⟩, .string ⟨#[]⟩, .int .i64 0, .slice none 0 0] 114) wr.heap.size (by omega)).trans HSLD.out)
          have HZN : Hid (((wr.alloc (.cells #[.int .i64 1, .string key, .string nm, .int .i64 f, .slice a' u.len cap'] 114)).alloc (.cells #[.int .i64 0, .string ⟨#[]⟩, .string ⟨#[]⟩, .int .i64 0, .slice none 0 0] 114)).heap[wr.heap.size + 1]? = some (.cells #[.int .i64 0, .string ⟨#[]⟩, .string ⟨#[]⟩, .int .i64 0, .slice none 0 0] 114 (0, 0))) := Lib.hid (by have := heap_alloc_new (wr.alloc (.cells #[.int .i64 1, .string key, .string nm, .int .i64 f, .slice a' u.len cap'] 114)) (.cells #[.int .i64 0, .string ⟨#[]⟩, .string ⟨#[]⟩, .int .i64 0, .slice none 0 0] 114); rwa [hwds] at this)
          have HBZ : Hid (Below wr.heap.size wr ((wr.alloc (.cells #[.int .i64 1, .string key, .string nm, .int .i64 f, .slice a' u.len cap'] 114)).alloc (.cells #[.int .i64 0, .string ⟨#[]⟩, .string ⟨#[]⟩, .int .i64 0, .slice none 0 0] 114)).drew) := Lib.hid (((Below.refl _ _).alloc (Nat.le_refl _) _).alloc (by simp) _).drew
          have HOZ : Hid (OwnSs ((wr.alloc (.cells #[.int .i64 1, .string key, .string nm, .int .i64 f, .slice a' u.len cap'] 114)).alloc (.cells #[.int .i64 0, .string ⟨#[]⟩, .string ⟨#[]⟩, .int .i64 0, .slice none 0 0] 114)).drew base (.slice av Rc.length cv) Rc) := Lib.hid (HOWN.out.below HBZ.out)
          have ⟨⟨a0, a1, a2, a3⟩, _⟩ := keep4o HPBD.out
          have ⟨⟨e0, e1, e2, e3, e4⟩, _⟩ := keep5 HSLD.out
          have ⟨⟨m0, m1, m2, m3⟩, _⟩ := keep4o HPBZ.out
          have ⟨⟨n0, n1, n2, n3, n4⟩, _⟩ := keep5 HSLZ.out
          have HSIZ : Hid (((wr.alloc (.cells #[.int .i64 1, .string key, .string nm, .int .i64 f, .slice a' u.len cap'] 114)).alloc (.cells #[.int .i64 0, .string ⟨#[]⟩, .string ⟨#[]⟩, .int .i64 0, .slice none 0 0] 114)).drew.heap.size = wr.heap.size + 2) := Lib.hid (by show ((wr.alloc _).alloc _).heap.size = _; simp)
          have HKEY : Hid (∀ g cap3 w3, OwnSs w3 base (.slice (some ⟨g, 0, none⟩) (Rc.length + 1) cap3) (Rc ++ [zrow]) → MadeS (.slice av Rc.length cv) (.slice (some ⟨g, 0, none⟩) (Rc.length + 1) cap3) ((wr.alloc (.cells #[.int .i64 1, .string key, .string nm, .int .i64 f, .slice a' u.len cap'] 114)).alloc (.cells #[.int .i64 0, .string ⟨#[]⟩, .string ⟨#[]⟩, .int .i64 0, .slice none 0 0] 114)).drew w3 → base ≤ g → ∀ W, W = ((((((w3.setCell ⟨g, Rc.length * 5, none⟩ (.int .i64 1)).setCell ⟨g, Rc.length * 5 + 1, none⟩ (.string key)).setCell ⟨g, Rc.length * 5 + 2, none⟩ (.string nm)).setCell ⟨g, Rc.length * 5 + 3, none⟩ (.int .i64 f)).setCell ⟨g, Rc.length * 5 + 4, none⟩ (.slice a' u.len cap')).setCell ⟨pb, 3, none⟩ (.slice (some ⟨g, 0, none⟩) (Rc.length + 1) cap3)) ∨ W = ((((((w3.setCell ⟨pb, 3, none⟩ (.slice (some ⟨g, 0, none⟩) (Rc.length + 1) cap3)).setCell ⟨g, Rc.length * 5, none⟩ (.int .i64 1)).setCell ⟨g, Rc.length * 5 + 1, none⟩ (.string key)).setCell ⟨g, Rc.length * 5 + 2, none⟩ (.string nm)).setCell ⟨g, Rc.length * 5 + 3, none⟩ (.int .i64 f)).setCell ⟨g, Rc.length * 5 + 4, none⟩ (.slice a' u.len cap')) → OpSt W B base pb mb fa fr.length fc spc (Rc ++ [(⟨1, key, nm, f, u, a', cap'⟩ : RowS)]) ∧ Below lo w W) := Lib.hid fun g cap3 w3 hown3 hmd3 hbg3 W hW => by
            have HMB : Below base wr w3 := (HBZ.out.mono (by omega)).trans (hmd3.to (fun g' h => (HOWN.out.base g' h).1) hzb)
            have HPB3 := (hmd3.block (c := pb) (by have := HSIZ.out; omega) (fun g' h => by have := (HOWN.out.base g' h).1; omega)).trans HPBZ.out
            have H2 := OpSt.two (r := ⟨1, key, nm, f, u, a', cap'⟩) hown3 (Nm.OwnM.same HMAP.out (HMB.block mb (by omega))) HSD.out (fun x hx => ⟨(HOKC.out x hx).1, (HOKC.out x hx).2.below (C := base) (by omega) HMB⟩) ⟨rfl, HOKI.out, HU.out.below (C := base) (by omega) HMB⟩ (by omega) (by omega) (by omega) hpm hbg3 HPB3
            have HB3 : Below lo w w3 := HB.out.trans (HMB.mono (by omega))
            rcases hW with rfl | rfl
            · exact ⟨H2.1, (Rw.putL_below (g := g) (by omega) [.int .i64 1, .string key, .string nm, .int .i64 f, .slice a' u.len cap'] (Rc.length * 5) HB3).setCell (p := ⟨pb, 3, none⟩) hpb.1 _⟩
            · exact ⟨H2.2, Rw.putL_below (g := g) (by omega) [.int .i64 1, .string key, .string nm, .int .i64 f, .slice a' u.len cap'] (Rc.length * 5) (HB3.setCell (p := ⟨pb, 3, none⟩) hpb.1 _)⟩
          have HSM4 : Hid (Uq.Same ((Rc ++ [(⟨1, key, nm, f, u, a', cap'⟩ : RowS)]).map fdOf ++ opens fr (s.drop (i + 1))) (R.map fdOf ++ opens fr s)) := Lib.hid (by
            have h1 := HSM.out
            rw [HX.out, ← List.append_assoc] at h1
            rw [List.map_append]; exact h1)
          have HSUB4 : Hid (∀ x, x ∈ R.map fdOf → x ∈ (Rc ++ [(⟨1, key, nm, f, u, a', cap'⟩ : RowS)]).map fdOf) := Lib.hid fun x hx => by rw [List.map_append]; exact List.mem_append_left _ (HSUB.out x hx)
          have HDN4 : Hid (∀ m, m ∈ spc → m ∈ sp ∨ Done fr m ((Rc ++ [(⟨1, key, nm, f, u, a', cap'⟩ : RowS)]).map fdOf)) := Lib.hid fun m hm => (HDN.out m hm).imp id fun k x hx => by rw [List.map_append]; exact List.mem_append_left _ (k x hx)
          have HLC4 : Hid (spc.length + sumF fr ((Rc ++ [(⟨1, key, nm, f, u, a', cap'⟩ : RowS)]).map fdOf) + full fr (s.drop (i + 1)) ≤ sp.length + sumF fr (R.map fdOf) + full fr s) := Lib.hid (by have e1 := HXF.out; have e2 := HLC.out; rw [List.map_append, sumF_append]; simp only [List.map_cons, List.map_nil, sumF, fdOf]; omega)
          clear hblk hown hmap hsd hokc hwds
          go_wp2_with fail
          go_region_law (first
            | (refine step_app_zero (by rfl) _ _ (by rfl) base (.slice av Rc.length cv) Rc (by rfl) HOZ.out (wr.heap.size + 1) 1 (by rfl) HZN.out (by have h1 := HLC.out; have h2 := HLN.out; have h3 := sumF_len fr (Rc.map fdOf); rw [List.length_map] at h3; omega) hzb ?_; intro g cap3 w3 cur hown3 hmd3 hg3 hcs3 hbg3 hcp3; have hgp : ¬ pb = g := (by omega); have hgq : ¬ g = pb := (by omega); have hidx : (Rc.length : Int) < (Rc.length : Int) + 1 := (by omega); have hgs : ¬ wr.heap.size = g := fun e => (hmd3.own g rfl).elim (fun h => by have := (HOWN.out.base g h).2; omega) (fun h => by have := HSIZ.out; omega); have HPB3 := Lib.hid ((hmd3.block (c := pb) (by have := HSIZ.out; omega) (fun g' h => by have := (HOWN.out.base g' h).1; omega)).trans HPBZ.out); have HSL3 := Lib.hid ((hmd3.block (c := wr.heap.size) (by have := HSIZ.out; omega) (fun g' h => by have := (HOWN.out.base g' h).2; omega)).trans HSLZ.out); have ⟨⟨r0, r1, r2, r3⟩, s0, s1, s2, s3⟩ := keep4o HPB3.out; have ⟨⟨t0, t1, t2, t3, t4⟩, _⟩ := keep5 HSL3.out; have c0 := row_cell hg3 (k := Rc.length * 5) (by omega); have c1 := row_cell hg3 (k := Rc.length * 5 + 1) (by omega); have c2 := row_cell hg3 (k := Rc.length * 5 + 2) (by omega); have c3 := row_cell hg3 (k := Rc.length * 5 + 3) (by omega); have c4 := row_cell hg3 (k := Rc.length * 5 + 4) (by omega); have f0 := frozen_of_row w3 g (Rc.length * 5) _ _ hg3; have f1 := frozen_of_row w3 g (Rc.length * 5 + 1) _ _ hg3; have f2 := frozen_of_row w3 g (Rc.length * 5 + 2) _ _ hg3; have f3 := frozen_of_row w3 g (Rc.length * 5 + 3) _ _ hg3; have f4 := frozen_of_row w3 g (Rc.length * 5 + 4) _ _ hg3; generalize cur[Rc.length * 5] = x0 at c0; generalize cur[Rc.length * 5 + 1] = x1 at c1; generalize cur[Rc.length * 5 + 2] = x2 at c2; generalize cur[Rc.length * 5 + 3] = x3 at c3; generalize cur[Rc.length * 5 + 4] = x4 at c4))
          all_goals
            have HQ := Lib.hid (HKEY.out g cap3 w3 hown3 hmd3 hbg3)
            clear hown3 hmd3 hg3 hcs3 c0 c1 c2 c3 c4 f0 f1 f2 f3 f4 r0 r1 r2 r3 s0 s1 s2 s3 t0 t1 t2 t3 t4
            go_wp2_with fail
            go_roundw
            case rel =>
              refine ⟨i + 1, spc, (Rc ++ [(⟨1, key, nm, f, u, a', cap'⟩ : RowS)]), by have := HLT.out; omega, by go_num, Lib.hid (HQ.out _ ?_).1, HSM4, HSUB4, HDN4, HSS, HLC4, (HQ.out _ ?_).2⟩
              all_goals first | exact .inl (by with_reducible rfl) | exact .inr (by with_reducible rfl)
            case measure => have := HLT.out; simp [intOf]; omega
        · have HK1 : Hid ((k == 1) = false) := Lib.hid (by rw [beq_eq_false_iff_ne]; exact hk1)
          have hbw : B ≤ wr.heap.size := by omega
          by_cases hk2 : k = 2
          · subst hk2
            have HX : Hid (opens fr (s.drop i) = opens fr u ++ opens fr (s.drop (i + 1))) := Lib.hid (by rw [HST'.out, if_neg (by omega), if_pos rfl])
            have HXF : Hid (full fr (s.drop i) = 1 + full fr u + full fr (s.drop (i + 1))) := Lib.hid (by have := HFT.out; rw [if_neg (by omega)] at this; omega)
            have CU : Hid (∀ o, Calls Tryz.prog 139 #[.pointer (some ⟨pb, 0, none⟩), .string nm, .slice a' u.len cap'] (wr.alloc o) fun e w' => AddOut fr (wr.alloc o) B lo base pb mb fa fc spc Rc (opens fr u) (full fr u) e w') := Lib.hid fun o =>
              implAddFor (IH.out u (by have e1 := HXF.out; have e2 := HFD.out; have e3 := HFU.out; omega)) (wr.alloc o) B lo base pb mb n fa fc a' cap' spc Rc nm ((HF.out.below hlo HB.out).below hbw (HAA.out o)) (HU.out.below hbw (HAA.out o)) (HP.out.up (by simp; omega)) (HSTC.out.below hbw (HAA.out o)) HLU.out.1 HINC.out (by have e1 := HXF.out; have e2 := HLC.out; have e3 := HLN.out; omega)
            clear hk1
            go_wp2_with fail
            refine (CU.out _).mono ?_
            rintro e w4 ⟨rfl, ⟨sp4, R4, hst4, hsm4, hd4, hsub4, hl4⟩, hb4⟩
            have HST4 := Lib.hid hst4
            have HSM4 : Hid (Uq.Same (R4.map fdOf ++ opens fr (s.drop (i + 1))) (R.map fdOf ++ opens fr s)) := Lib.hid (by
              have h1 := hsm4.append (k := opens fr (s.drop (i + 1)))
              rw [List.append_assoc, ← HX.out] at h1
              exact h1.trans HSM.out)
            have HSUB4 : Hid (∀ x, x ∈ R.map fdOf → x ∈ R4.map fdOf) := Lib.hid fun x hx => hsm4.mem.2 (List.mem_append_left _ (HSUB.out x hx))
            have HDN4 : Hid (∀ m, m ∈ sp4 → m ∈ sp ∨ Done fr m (R4.map fdOf)) := Lib.hid fun m hm => (hd4 m hm).elim (fun h => (HDN.out m h).imp id fun k => k.same hsm4) .inr
            have HSS4 : Hid (∀ m, m ∈ sp → m ∈ sp4) := Lib.hid fun m hm => hsub4 m (HSS.out m hm)
            have HLC4 : Hid (sp4.length + sumF fr (R4.map fdOf) + full fr (s.drop (i + 1)) ≤ sp.length + sumF fr (R.map fdOf) + full fr s) := Lib.hid (by have e1 := HXF.out; have e2 := HLC.out; omega)
            have HB4 := Lib.hid (HB.out.trans (((HAA.out _).mono (by omega)).trans hb4))
            clear hst4 hsm4 hd4 hsub4 hl4 hb4
            go_wp2_with fail
            go_roundw
            case rel => exact ⟨i + 1, sp4, R4, by have := HLT.out; omega, by go_num, HST4, HSM4, HSUB4, HDN4, HSS4, HLC4, HB4.out⟩
            case measure => have := HLT.out; simp [intOf]; omega
          · have HK2 : Hid ((k == 2) = false) := Lib.hid (by rw [beq_eq_false_iff_ne]; exact hk2)
            by_cases hk3 : k = 3
            · subst hk3
              have HX : Hid (opens fr (s.drop i) = opens fr (fragOr nm fr).sels ++ opens fr (s.drop (i + 1))) := Lib.hid (by rw [HST'.out, if_neg (by omega), if_neg (by omega), if_pos rfl])
              have HXF : Hid (full fr (s.drop i) = 1 + full fr u + full fr (fragOr nm fr).sels + full fr (s.drop (i + 1))) := Lib.hid (by have := HFT.out; rw [if_pos rfl] at this; omega)
              have CU : Hid (∀ o, Calls Tryz.prog 140 #[.pointer (some ⟨pb, 0, none⟩), .string nm] (wr.alloc o) fun e w' => AddOut fr (wr.alloc o) B lo base pb mb fa fc spc Rc (opens fr (fragOr nm fr).sels) (1 + full fr (fragOr nm fr).sels) e w') := Lib.hid fun o =>
                implAddFrag hn nm (IH.out _ (by have e1 := HXF.out; have e2 := HFD.out; have e3 := HFU.out; omega)) (wr.alloc o) B lo base pb mb n fa fc spc Rc HOKI.out.2.2.1 ((HF.out.below hlo HB.out).below hbw (HAA.out o)) (HP.out.up (by simp; omega)) (HSTC.out.below hbw (HAA.out o)) (HLU.out.2 rfl) HINC.out (by have e1 := HXF.out; have e2 := HLC.out; have e3 := HLN.out; omega)
              clear hk1 hk2
              go_wp2_with fail
              refine (CU.out _).mono ?_
              rintro e w4 ⟨rfl, ⟨sp4, R4, hst4, hsm4, hd4, hsub4, hl4⟩, hb4⟩
              have HST4 := Lib.hid hst4
              have HSM4 : Hid (Uq.Same (R4.map fdOf ++ opens fr (s.drop (i + 1))) (R.map fdOf ++ opens fr s)) := Lib.hid (by
                have h1 := hsm4.append (k := opens fr (s.drop (i + 1)))
                rw [List.append_assoc, ← HX.out] at h1
                exact h1.trans HSM.out)
              have HSUB4 : Hid (∀ x, x ∈ R.map fdOf → x ∈ R4.map fdOf) := Lib.hid fun x hx => hsm4.mem.2 (List.mem_append_left _ (HSUB.out x hx))
              have HDN4 : Hid (∀ m, m ∈ sp4 → m ∈ sp ∨ Done fr m (R4.map fdOf)) := Lib.hid fun m hm => (hd4 m hm).elim (fun h => (HDN.out m h).imp id fun k => k.same hsm4) .inr
              have HSS4 : Hid (∀ m, m ∈ sp → m ∈ sp4) := Lib.hid fun m hm => hsub4 m (HSS.out m hm)
              have HLC4 : Hid (sp4.length + sumF fr (R4.map fdOf) + full fr (s.drop (i + 1)) ≤ sp.length + sumF fr (R.map fdOf) + full fr s) := Lib.hid (by have e1 := HXF.out; have e2 := HLC.out; omega)
              have HB4 := Lib.hid (HB.out.trans (((HAA.out _).mono (by omega)).trans hb4))
              clear hst4 hsm4 hd4 hsub4 hl4 hb4
              go_wp2_with fail
              go_roundw
              case rel => exact ⟨i + 1, sp4, R4, by have := HLT.out; omega, by go_num, HST4, HSM4, HSUB4, HDN4, HSS4, HLC4, HB4.out⟩
              case measure => have := HLT.out; simp [intOf]; omega
            · have hk1b := HK1.out
              have hk2b := HK2.out
              have hk3b : (k == 3) = false := by rw [beq_eq_false_iff_ne]; exact hk3
              have HSM4 : Hid (Uq.Same (Rc.map fdOf ++ opens fr (s.drop (i + 1))) (R.map fdOf ++ opens fr s)) := Lib.hid (by
                have h1 := HSM.out
                rw [HST'.out, if_neg hk1, if_neg hk2, if_neg hk3, List.nil_append] at h1
                exact h1)
              have HLC4 : Hid (spc.length + sumF fr (Rc.map fdOf) + full fr (s.drop (i + 1)) ≤ sp.length + sumF fr (R.map fdOf) + full fr s) := Lib.hid (by have e1 := HFT.out; have e2 := HLC.out; omega)
              have HSTA : Hid (∀ o, OpSt (wr.alloc o) B base pb mb fa fr.length fc spc Rc) := Lib.hid fun o => HSTC.out.below hbw (HAA.out o)
              have HBA : Hid (∀ o, Below lo w (wr.alloc o)) := Lib.hid fun o => HB.out.trans ((HAA.out o).mono (by omega))
              clear hk1 hk2 hk3
              go_wp2_with fail
              go_roundw
              case rel => exact ⟨i + 1, spc, Rc, by have := HLT.out; omega, by go_num, Lib.hid (HSTA.out _), HSM4, HSUB, HDN, HSS, HLC4, HBA.out _⟩
              case measure => have := HLT.out; simp [intOf]; omega
      · obtain rfl : i = s.len := by omega
        have HFIN : Hid (AddOut fr w B lo base pb mb fa fc sp R (opens fr s) (full fr s) (.returned (.tuple #[])) wr) := Lib.hid
          ⟨rfl, ⟨spc, Rc, HSTC.out, by have := HSM.out; rwa [Sels.drop_end (Nat.le_refl _), opens_nil, List.append_nil] at this, HDN.out, HSS.out, by have := HLC.out; omega⟩, HB.out⟩
        clear hlt hb
        go_wp2_with fail
        first | (go_ret; exact HFIN.out) | exact bodyPost_ret (v := .tuple #[]) (by simp [results, go_sem]) rfl HFIN.out
end Go.Proofs.YtceabbbmgfeofaaGreatDoor.Selss
