/-
  Contracts: checker.sel, checker.block tell what is wrong first of Sels, for a type; of what was there nothing is changed. Conditions: in memory; a map of the kinds of a right schema; Sels of the three kinds.
-/
import Derived.Test.YtahcheahpbnkiaaGreatDoorRows
import Derived.Test.YtahcheahpbnkiaaGreatDoorValJ
import Derived.Test.YtahcheahpbnkiaaGreatDoorValO
namespace Go.Proofs.YtahcheahpbnkiaaGreatDoor.Selss
open Go.RowKit Words Go.Maps
set_option linter.unusedVariables false
set_option maxRecDepth 100000

def blockW (s : List Rw.TypeP) (fr : List FragP) (l : Sels) (t : ByteArray) : WrP := if compB s t = true then selsW s fr l t else some (t, 6)
theorem blockW_yes {s : List Rw.TypeP} {fr : List FragP} {l : Sels} {t : ByteArray} (h : compB s t = true) : blockW s fr l t = selsW s fr l t := if_pos h
theorem blockW_no {s : List Rw.TypeP} {fr : List FragP} {l : Sels} {t : ByteArray} (h : compB s t = false) : blockW s fr l t = some (t, 6) := by unfold blockW; rw [if_neg (by rw [h]; simp)]
theorem neqV (T : TypeId) (v : Value) (W : World) : (binOp .neq 96 (.iface T v) .nilIface).run Tryz.prog W = .ok (.bool true) W := by rfl
theorem val_iface (e : ErrW.ErrP) : ∃ T v, e.val = .iface T v := by cases e <;> exact ⟨_, _, rfl⟩
theorem vout_cases {r : WrP} {v : Value} (h : VOut r v) : (r = none ∧ v = .nilIface) ∨ (∃ (e : ErrW.ErrP) (x : ByteArray × Int) (T : TypeId) (p : Value), v = .iface T p ∧ e.val = .iface T p ∧ r = some x ∧ LeafFor x e.last) := by
  rcases h with h | ⟨e, x, rfl, h1, h2⟩
  · exact .inl h
  · obtain ⟨T, p, hv⟩ := val_iface e
    exact .inr ⟨e, x, T, p, hv, hv, h1, h2⟩
theorem findN_isSome (nm : ByteArray) (l : List FragP) : (findN nm l 0 < 0 ∧ (fragIn nm l).isSome = false) ∨ (¬ findN nm l 0 < 0 ∧ (fragIn nm l).isSome = true) := by
  rcases (findN_lt (nm := nm) (l := l) (k := 0)).2 with h | h
  · exact .inl ⟨by omega, by rw [findN_none h]; rfl⟩
  · right
    refine ⟨by omega, ?_⟩
    have hl := (findN_lt (nm := nm) (l := l) (k := 0)).1
    obtain ⟨i, hi⟩ : ∃ i : Nat, findN nm l 0 = (i : Int) := ⟨(findN nm l 0).toNat, by omega⟩
    have hil : i < l.length := by omega
    rw [findN_some (k := 0) (i := i) (x := l[i]) (by rw [hi, Nat.zero_add]) (List.getElem?_eq_getElem hil)]; rfl
/-- What block tells of the Sels u, whatever the type. -/
def BlockOk (w : World) (s : List Rw.TypeP) (fr : List FragP) (b : Nat) (fa : Option Addr) (fc : Nat) (u : Sels) (ua : Option Addr) (ucap : Nat) : Prop := ∀ (w' : World) (i t : ByteArray), OkS t → Below w.heap.size w w' →
  Calls Tryz.prog 140 #[.agg #[.map (some b), .slice fa fr.length fc], .string i, .slice ua u.len ucap, .string t] w' fun e w'' => (∃ v, e = .returned v ∧ VOut (blockW s fr u t) v) ∧ Below w'.heap.size w' w''

set_option maxHeartbeats 4000000 in
theorem implVSel (w : World) (B : Nat) (s : List Rw.TypeP) (fr : List FragP) (b n' : Nat) (D : DataW Value) (fa : Option Addr) (fc : Nat) (k : Int) (key nm : ByteArray) (n : Int) (u : Sels) (ua : Option Addr) (ucap : Nat) (t : ByteArray)
    (hs : Rw.schemaB s = true) (ht : compB s t = true) (htk : OkS t) (hk : k = 1 ∨ k = 2 ∨ k = 3) (hok : OkI k ∧ OkS key ∧ OkS nm ∧ OkI n) (hul : u.len ≤ 9223372036854775807) (hc : Chk w B s fr b n' D fa) (hB : B ≤ w.heap.size) (hb : BlockOk w s fr b fa fc u ua ucap) :
    Calls Tryz.prog 186 #[.agg #[.map (some b), .slice fa fr.length fc], .agg #[.int .i64 k, .string key, .string nm, .int .i64 n, .slice ua u.len ucap], .string t] w fun e w' =>
      (∃ v, e = .returned v ∧ VOut (selW s fr k key nm n u t) v) ∧ Below w.heap.size w w' := by
  have HA : Hid (∀ o1 o2, Below w.heap.size w ((w.alloc o1).alloc o2)) := Lib.hid fun o1 o2 => ((Below.refl _ _).alloc (Nat.le_refl _) o1).alloc (by simp) o2
  have HBK := Lib.hid hb
  have HNM := Lib.hid hok.2.2.1
  rcases hk with rfl | rfl | rfl
  · have CF : Hid (∀ o1 o2, Calls Tryz.prog 224 #[.agg #[.map (some b), .slice fa fr.length fc], .agg #[.int .i64 1, .string key, .string nm, .int .i64 n, .slice ua u.len ucap], .string t] ((w.alloc o1).alloc o2) fun e w' =>
      FieldOut (fieldW s key nm n u (Rw.fieldIn nm (Rw.typeIn t s).fields)) (Rw.fieldIn nm (Rw.typeIn t s).fields).typ e ∧ Below ((w.alloc o1).alloc o2).heap.size ((w.alloc o1).alloc o2) w') := Lib.hid fun o1 o2 =>
        implVField _ B s fr b n' D fa fc 1 key nm n u ua ucap t hs ht htk hok hul (hc.next hB (HA.out o1 o2)) (Nat.le_trans hB (HA.out o1 o2).size)
    have HSW := Lib.hid (selW_one s fr key nm n u t)
    have hth := @field_there s hs t nm
    have hcm := fun (h0 : ((Rw.typeIn (Rw.fieldIn nm (Rw.typeIn t s).fields).typ s).kind == 0) = false) (h1 : ((Rw.typeIn (Rw.fieldIn nm (Rw.typeIn t s).fields).typ s).kind == 1) = false) => comp_of hs h0 h1
    have hfo := (field_fine0 hs t nm).2.1
    generalize Rw.fieldIn nm (Rw.typeIn t s).fields = f at *
    have HFT := Lib.hid hfo
    have HYES : Hid (fieldW s key nm n u f = none → 0 < u.len → compB s f.typ = true) := Lib.hid fun h hu => by
      unfold fieldW at h
      split at h
      · cases h
      · rename_i hne
        split at h
        · cases h
        · split at h
          · cases h
          · rename_i h3
            refine hcm (hth hne) ?_
            cases hq : ((Rw.typeIn f.typ s).kind == 1) with
            | false => rfl
            | true => rw [hq] at h3; exact absurd (by simp; omega) h3
    generalize fieldW s key nm n u f = fw at *
    clear hth hcm hfo hc hb hs ht htk hok
    go_enter Tryz.func186, Tryz.ntmps186
    go_wp2_with fail
    refine (CF.out _ _).mono ?_
    rintro e w1 ⟨ho, hb1⟩
    have HB1 := Lib.hid ((HA.out _ _).trans (hb1.mono (HA.out _ _).size))
    obtain ⟨hk1, hs1⟩ := Rw.kept2z hb1
    have ⟨⟨a0, a1⟩, _⟩ := Rw.keep2 hk1
    have ⟨⟨c0, c1, c2, c3, c4⟩, _⟩ := Rw.keep5 hs1
    clear hb1 hk1 hs1
    rcases ho with ⟨rfl, rfl⟩ | ⟨l, x, rfl, rfl, hl⟩
    · by_cases hu : 0 < u.len
      · have hu2 : (0 : Int) < (u.len : Int) := by omega
        have hu3 : ((u.len : Int) == 0) = false := by rw [beq_eq_false_iff_ne]; omega
        have CB := Lib.hid (HBK.out w1 nm f.typ HFT.out HB1.out)
        have HRES : Hid (blockW s fr u f.typ = selW s fr 1 key nm n u t) := Lib.hid (by rw [blockW_yes (HYES.out rfl hu), HSW.out]; rfl)
        generalize blockW s fr u f.typ = bw at *
        generalize f.typ = ft at *
        clear hu
        go_wp2_with fail
        refine CB.out.mono ?_
        rintro e w2 ⟨⟨v2, rfl, hv2⟩, hb2⟩
        have HV2 := Lib.hid hv2
        have HB2 := Lib.hid (HB1.out.trans (hb2.mono HB1.out.size))
        clear hb2 hv2
        go_wp2_with fail
        go_ret
        exact ⟨⟨_, rfl, by rw [← HRES.out]; exact HV2.out⟩, HB2.out⟩
      · obtain rfl : u = .nil := by cases u with | nil => rfl | cons _ _ _ _ _ _ => simp [Sels.len] at hu
        have HRES : Hid (selW s fr 1 key nm n .nil t = none) := Lib.hid (by rw [HSW.out]; rfl)
        simp only [Sels.len] at c4
        generalize f.typ = ft at *
        clear hu
        go_wp2_with fail
        go_ret
        exact ⟨⟨_, rfl, by rw [HRES.out]; exact VOut.nil⟩, HB1.out⟩
    · have HRES : Hid (VOut (selW s fr 1 key nm n u t) (.iface l.typ l.pay)) := Lib.hid (by rw [HSW.out]; exact .inr ⟨.leaf l, x, rfl, rfl, hl⟩)
      have y1 := neqV
      generalize l.typ = T at *
      generalize l.pay = p at *
      generalize f.typ = ft at *
      clear hl
      go_wp2_with fail
      go_ret
      exact ⟨⟨_, rfl, HRES.out⟩, HB1.out⟩
  · have CB : Hid (∀ o1 o2, Calls Tryz.prog 140 #[.agg #[.map (some b), .slice fa fr.length fc], .string nm, .slice ua u.len ucap, .string nm] ((w.alloc o1).alloc o2) fun e w'' => (∃ v, e = .returned v ∧ VOut (blockW s fr u nm) v) ∧ Below ((w.alloc o1).alloc o2).heap.size ((w.alloc o1).alloc o2) w'') := Lib.hid fun o1 o2 => HBK.out _ nm nm HNM.out (HA.out o1 o2)
    have HRES : Hid (blockW s fr u nm = selW s fr 2 key nm n u t) := Lib.hid (selW_on s fr key nm n u t).symm
    generalize blockW s fr u nm = bw at *
    clear hc hb hs ht htk hok
    go_enter Tryz.func186, Tryz.ntmps186
    go_wp2_with fail
    refine (CB.out _ _).mono ?_
    rintro e w2 ⟨⟨v2, rfl, hv2⟩, hb2⟩
    have HV2 := Lib.hid hv2
    have HB2 := Lib.hid ((HA.out _ _).trans (hb2.mono (HA.out _ _).size))
    clear hb2 hv2
    go_wp2_with fail
    go_ret
    exact ⟨⟨_, rfl, by rw [← HRES.out]; exact HV2.out⟩, HB2.out⟩
  · have CN : Hid (∀ o1 o2, Calls Tryz.prog 188 #[.slice fa fr.length fc, .string nm] ((w.alloc o1).alloc o2) fun e w' => (∃ v, e = .returned (.tuple #[v, .bool (fragIn nm fr).isSome]) ∧ FragV w' 0 B v (fragOr nm fr)) ∧ Below ((w.alloc o1).alloc o2).heap.size ((w.alloc o1).alloc o2) w') := Lib.hid fun o1 o2 =>
      implFragNamed _ 0 B fa fc fr nm HNM.out (hc.frg.below hB (HA.out o1 o2)) (Nat.le_trans hB (HA.out o1 o2).size)
    have hsp := selW_spread (s := s) (fr := fr) (k := 3) key nm n u t (by omega) (by omega)
    have hcs := findN_isSome nm fr
    have HRES : Hid (((fragIn nm fr).isSome = false ∧ selW s fr 3 key nm n u t = some (nm, 6)) ∨ ((fragIn nm fr).isSome = true ∧ selW s fr 3 key nm n u t = none)) := Lib.hid (by
      rcases hcs with ⟨h1, h2⟩ | ⟨h1, h2⟩
      · exact .inl ⟨h2, by rw [hsp, if_pos h1]⟩
      · exact .inr ⟨h2, by rw [hsp, if_neg h1]⟩)
    generalize (fragIn nm fr).isSome = p at *
    clear hc hb hs ht htk hok hsp hcs
    go_enter Tryz.func186, Tryz.ntmps186
    go_wp2_with fail
    refine (CN.out _ _).mono ?_
    rintro e w1 ⟨⟨v, rfl, xa, xcap, rfl, _, _⟩, hb1⟩
    have HB1 := Lib.hid ((HA.out _ _).trans (hb1.mono (HA.out _ _).size))
    generalize fragOr nm fr = x at *
    obtain ⟨hk1, hs1⟩ := Rw.kept2z hb1
    have hs2 := (blk2 hs1 (.cells #[.string x.name, .string x.on, .slice xa x.sels.len xcap] 86) (.cells #[.string x.name, .string x.on, .slice xa x.sels.len xcap] 86)).1
    have ⟨⟨c0, c1, c2, c3, c4⟩, _⟩ := Rw.keep5 hs2
    have HBA : Hid (∀ o, Below w.heap.size w (w1.alloc o)) := Lib.hid fun o => HB1.out.alloc HB1.out.size o
    clear hb1 hk1 hs1 hs2
    rcases HRES.out with ⟨rfl, hr⟩ | ⟨rfl, hr⟩
    · have HR := Lib.hid hr
      clear hr HRES
      go_wp2_with fail
      go_ret
      exact ⟨⟨_, rfl, by rw [HR.out]; exact VOut.none _⟩, HBA.out _⟩
    · have HR := Lib.hid hr
      clear hr HRES
      go_wp2_with fail
      go_ret
      exact ⟨⟨_, rfl, by rw [HR.out]; exact VOut.nil⟩, HBA.out _⟩

set_option maxHeartbeats 4000000 in
theorem implVBlock (s : List Rw.TypeP) (fr : List FragP) (hs : Rw.schemaB s = true) (b n' : Nat) (D : DataW Value) (fa : Option Addr) (fc : Nat) : ∀ (m : Nat) (l : Sels), l.all < m → GoodV l → ∀ (w : World) (B : Nat) (a : Option Addr) (cap : Nat) (i t : ByteArray), OkS t → SelsAt w 0 B a l.len l → Chk w B s fr b n' D fa → B ≤ w.heap.size →
    Calls Tryz.prog 140 #[.agg #[.map (some b), .slice fa fr.length fc], .string i, .slice a l.len cap, .string t] w fun e w' => (∃ v, e = .returned v ∧ VOut (blockW s fr l t) v) ∧ Below w.heap.size w w' := by
  intro m
  induction m with
  | zero => intro l h; omega
  | succ m ih =>
    intro l hall hg w B a cap ins t htk hl hc hB
    have HA : Hid (∀ o1, Below w.heap.size w (w.alloc o1)) := Lib.hid fun o1 => (Below.refl _ _).alloc (Nat.le_refl _) o1
    have CO : Hid (∀ o, Calls Tryz.prog 185 #[.agg #[.map (some b), .slice fa fr.length fc], .string t] (w.alloc o) fun e w' => e = .returned (.bool (compB s t)) ∧ Below (w.alloc o).heap.size (w.alloc o) w') := Lib.hid fun o => implObjects _ B s fr b n' D fa fc t htk (hc.next hB (HA.out o)) (Nat.le_trans hB (HA.out o).size)
    have hll := hl.2.1
    have HL := Lib.hid hl
    have HC := Lib.hid hc
    have HG := Lib.hid hg
    have HT := Lib.hid htk
    have IH := Lib.hid ih
    have HALL := Lib.hid hall
    have HBY := Lib.hid (fun h => blockW_yes (s := s) (fr := fr) (l := l) (t := t) h)
    have HBN := Lib.hid (fun h => blockW_no (s := s) (fr := fr) (l := l) (t := t) h)
    obtain ⟨cb, hcb⟩ : ∃ p, compB s t = p := ⟨_, rfl⟩
    have HCB := Lib.hid hcb
    rw [hcb] at CO HBY HBN
    generalize blockW s fr l t = bw at *
    clear hl hc hg htk ih hall hcb
    cases cb
    · have hf := Lib.hid (HBN.out rfl)
      go_enter Tryz.func140, Tryz.ntmps140
      go_wp2_with fail
      refine (CO.out _).mono ?_
      rintro e w1 ⟨rfl, hb1⟩
      have HB1 := Lib.hid ((HA.out _).trans (hb1.mono (HA.out _).size))
      clear hb1
      go_wp2_with fail
      go_ret
      exact ⟨⟨_, rfl, by rw [hf.out]; exact VOut.none _⟩, HB1.out⟩
    · have hf := Lib.hid (HBY.out rfl)
      go_enter Tryz.func140, Tryz.ntmps140
      go_wp2_with fail
      refine (CO.out _).mono ?_
      rintro e w1 ⟨rfl, hb1⟩
      have HB1 := Lib.hid ((HA.out _).trans (hb1.mono (HA.out _).size))
      have hk1 := (hb1.block w.heap.size (by simp)).trans (heap_alloc_new w (.cells #[.map (some b), .slice fa fr.length fc] 203))
      clear hb1
      go_wp2_with fail
      go_loopw [20] (fun i wr => ∃ (i' : Nat), i' ≤ l.len ∧ Hid (bw = selsW s fr (l.drop i') t) ∧ i = .int .i64 i' ∧ wr.heap[w.heap.size]? = some (.cells #[.map (some b), .slice fa fr.length fc] 203 (0, 0)) ∧ Below w.heap.size w wr) (fun i _ => l.len - (intOf i).toNat)
      case atStart => exact ⟨0, by omega, Lib.hid (by rw [hf.out]; rfl), rfl, hk1, HB1.out⟩
      case round =>
        obtain ⟨i, hi, hm, rfl, hkr, hb⟩ := hrel
        have HB := Lib.hid hb
        have HKR := Lib.hid hkr
        have hzr := Rw.lt_of_get hkr
        clear hk1 HB1
        by_cases hlt : i < l.len
        · have hli : (i : Int) < (l.len : Int) := by omega
          obtain ⟨k, key, nm, n, u, r, sb, off, ua, ucap, hd, rfl, hbb, hok, ⟨q0, q1, q2, q3, q4⟩, hu⟩ := (HL.out.below hB hb).at hlt
          have HU := Lib.hid hu
          have HD := Lib.hid hd
          have HOK := Lib.hid hok
          obtain ⟨⟨hk3, _, _⟩, hgu⟩ := HG.out.at hd
          have hua : u.all < m := by have h1 := Sels.drop_all i l; rw [hd] at h1; simp only [Sels.all] at h1; have := HALL.out; omega
          have HBA : Hid (∀ o, Below w.heap.size w (wr.alloc o)) := Lib.hid fun o => HB.out.alloc HB.out.size o
          have CS : Hid (∀ o, Calls Tryz.prog 186 #[.agg #[.map (some b), .slice fa fr.length fc], .agg #[.int .i64 k, .string key, .string nm, .int .i64 n, .slice ua u.len ucap], .string t] (wr.alloc o) fun e w' => (∃ v, e = .returned v ∧ VOut (selW s fr k key nm n u t) v) ∧ Below (wr.alloc o).heap.size (wr.alloc o) w') := Lib.hid fun o =>
            implVSel _ B s fr b n' D fa fc k key nm n u ua ucap t hs HCB.out HT.out hk3 hok hu.2.1 (HC.out.next hB (HBA.out o)) (Nat.le_trans hB (HBA.out o).size) fun w' i2 t2 ht2 hb2 =>
              IH.out u hua hgu w' B ua ucap i2 t2 ht2 (hu.below (C := wr.heap.size) (Nat.le_trans hB HB.out.size) (((Below.refl _ _).alloc (Nat.le_refl _) o).trans (hb2.mono (by simp)))) (HC.out.next hB ((HBA.out o).trans (hb2.mono (HBA.out o).size))) (Nat.le_trans hB (Nat.le_trans (HBA.out o).size hb2.size))
          have HST := Lib.hid (selsW_drop s fr t hd)
          have hka := (blk2 hkr (.cells #[.int .i64 k, .string key, .string nm, .int .i64 n, .slice ua u.len ucap] 146) (.cells #[.int .i64 k, .string key, .string nm, .int .i64 n, .slice ua u.len ucap] 146)).1
          have HKA := Lib.hid hka
          have ⟨⟨a0, a1⟩, _⟩ := Rw.keep2 hka
          clear hd hok hu hk3 hgu hua hlt hb hkr hka
          generalize selW s fr k key nm n u t = sw at *
          go_wp2_with fail
          refine (CS.out _).mono ?_
          rintro e w3 ⟨⟨v3, rfl, hv3⟩, hb3⟩
          have HB3 := Lib.hid ((HBA.out _).trans (hb3.mono (HBA.out _).size))
          have HK3 := Lib.hid ((hb3.block w.heap.size (by simp; omega)).trans HKA.out)
          clear hb3
          rcases vout_cases hv3 with ⟨rfl, rfl⟩ | ⟨e, x, T, p, rfl, he, rfl, hlf⟩
          · have hrel := Lib.hid (hm.out.trans HST.out)
            clear hv3
            go_wp2_with fail
            go_roundw
            case rel => exact ⟨i + 1, by omega, Lib.hid (by rw [hrel.out]; rfl), by go_num, HK3.out, HB3.out⟩
            case measure => simp [intOf]; omega
          · have hf2 := Lib.hid (hm.out.trans HST.out)
            have HV : Hid (VOut bw (.iface 213 (.agg #[.string ins, .iface T p]))) := Lib.hid (by rw [← he]; exact VOut.stand ins (by rw [hf2.out]; rfl) hlf)
            have y1 := neqV
            clear hv3 he hlf
            go_wp2_with fail
            go_ret
            exact ⟨⟨_, rfl, HV.out⟩, HB3.out⟩
        · obtain rfl : i = l.len := by omega
          have hf2 : Hid (bw = none) := Lib.hid (by rw [hm.out, Sels.drop_end (Nat.le_refl _)]; rfl)
          clear hlt hb hkr
          go_wp2_with fail
          go_ret
          exact ⟨⟨_, rfl, by rw [hf2.out]; exact VOut.nil⟩, HB.out⟩
end Go.Proofs.YtahcheahpbnkiaaGreatDoor.Selss
