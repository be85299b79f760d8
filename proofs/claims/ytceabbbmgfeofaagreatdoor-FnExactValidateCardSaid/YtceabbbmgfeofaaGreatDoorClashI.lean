/-
  Contract: impl.clashOf tells what clashes first in selections, given what it does of what is within each key; of what was there nothing is changed. Conditions: in memory, no Frag comes to spread itself.
-/
import Derived.Test.YtceabbbmgfeofaaGreatDoorRows
import Derived.Test.YtceabbbmgfeofaaGreatDoorOpenJ
import Derived.Test.YtceabbbmgfeofaaGreatDoorInner
import Derived.Test.YtceabbbmgfeofaaGreatDoorErrV
namespace Go.Proofs.YtceabbbmgfeofaaGreatDoor.Selss
open Go.RowKit Words Go.Maps
set_option linter.unusedVariables false
set_option maxRecDepth 100000

/-- What is told of what clashes. -/
def ErrOut (out : ByteArray) (v : Value) : Prop := (out = ⟨#[]⟩ ∧ v = .nilIface) ∨ (∃ e : ErrW.ErrP, v = e.val ∧ e.last = .there out ∧ out ≠ ⟨#[]⟩ ∧ out.size ≤ 8)
def ClashIOk (fr : List FragP) (s : Sels) (out : ByteArray) : Prop := ∀ (w : World) (B : Nat) (fa : Option Addr) (fc : Nat) (a : Option Addr) (cap : Nat), FragsAt w 0 B fa fr.length fr → SelsAt w 0 B a s.len s → B ≤ w.heap.size →
  Calls Tryz.prog 38 #[.slice fa fr.length fc, .slice a s.len cap] w fun e w' => (∃ v, e = .returned v ∧ ErrOut out v) ∧ Below w.heap.size w w'
theorem set5_other (w : World) (g : Nat) (v0 v1 v2 v3 v4 : Value) (c : Nat) (h : c ≠ g) : (set5 w g v0 v1 v2 v3 v4).heap[c]? = w.heap[c]? := by
  unfold set5
  rw [Go.Deep.blk_setCell_other _ ⟨g, 4, none⟩ _ _ h, Go.Deep.blk_setCell_other _ ⟨g, 3, none⟩ _ _ h, Go.Deep.blk_setCell_other _ ⟨g, 2, none⟩ _ _ h, Go.Deep.blk_setCell_other _ ⟨g, 1, none⟩ _ _ h, Go.Deep.blk_setCell_other _ ⟨g, 0, none⟩ _ _ h]
theorem neNil2 (e : ErrW.ErrP) (w : World) : (binOp .neq 79 e.val .nilIface).run Tryz.prog w = .ok (.bool true) w := by cases e <;> rfl
theorem neNil2G (e : ErrW.ErrP) (o1 o2 : Operand) (w : World) : (eqGuard .neq 79 o1 o2 e.val .nilIface).run Tryz.prog w = .ok () w := by cases e <;> rfl
theorem clashN_same {f : ByteArray → ByteArray} {l k : List Fd} (h : Uq.Same l k) : clashN f l = clashN f k := by
  unfold clashN; rw [h.first Bad.symm Bad.irrefl, h.keys Fd.key]

set_option maxHeartbeats 8000000 in
theorem implClashStep {fr : List FragP} (hn : NoLoop fr) (s : Sels) (hfull : full fr s ≤ 100000000000) (hgood : ∀ x, x ∈ opens fr s → GoodF x) (f : ByteArray → ByteArray)
    (HR : ∀ key L, Uq.Same L (opens fr s) → sumF fr L ≤ 100000000000 → key ∈ (opens fr s).map Fd.key → ClashIOk fr (subK key L) (f key)) : ClashIOk fr s (clashN f (opens fr s)) := by
  intro w B fa fc a cap hf hs hB
  have HF := Lib.hid hf
  have HS := Lib.hid hs
  have HRR := Lib.hid HR
  have HGD := Lib.hid hgood
  have HFULL := Lib.hid hfull
  have hfl := hf.2.1
  have hsl := hs.2.1
  have hmm := @run_makeMap Tryz.prog
  have hsf := fun (w : World) (a : Addr) (fn : Fn) (x y : Array Value) => run_store Tryz.prog w a (.func fn x y) .plain rfl
  clear hf hs HR hgood hfull
  go_enter Tryz.func38, Tryz.ntmps38
  go_wp2_with fail
  have HB0 : Hid (Below w.heap.size w ((w.alloc (.map #[] 0)).alloc (.cells #[.slice fa fr.length fc, .func (.func 86) #[] #[], .map (some w.heap.size), .slice none 0 0] 154))) := Lib.hid (((Below.refl _ _).alloc (Nat.le_refl _) _).alloc (by simp) _)
  have HZ0 : Hid (((w.alloc (.map #[] 0)).alloc (.cells #[.slice fa fr.length fc, .func (.func 86) #[] #[], .map (some w.heap.size), .slice none 0 0] 154)).heap.size = w.heap.size + 2) := Lib.hid (by simp)
  have HST0 : Hid (OpSt ((w.alloc (.map #[] 0)).alloc (.cells #[.slice fa fr.length fc, .func (.func 86) #[] #[], .map (some w.heap.size), .slice none 0 0] 154)) B (w.heap.size + 2) (w.heap.size + 1) w.heap.size fa fr.length fc [] []) := Lib.hid
    ⟨⟨none, 0, by have := heap_alloc_new (w.alloc (.map #[] 0)) (.cells #[.slice fa fr.length fc, .func (.func 86) #[] #[], .map (some w.heap.size), .slice none 0 0] 154); simpa using this, OwnSs.nil _ _⟩, ⟨.map [], (World.ownsMap_made w Tryz.prog 9 Nm.RV).alloc _, Nm.SD.nil⟩, fun r hr => by simp at hr⟩
  generalize (w.alloc (.map #[] 0)).alloc (.cells #[.slice fa fr.length fc, .func (.func 86) #[] #[], .map (some w.heap.size), .slice none 0 0] 154) = w0 at *
  clear hmm hsf
  refine (implAdd hn (full fr s + 1) s (Nat.lt_succ_self _) w0 B w.heap.size (w.heap.size + 2) (w.heap.size + 1) w.heap.size (fr.length + 1) fa fc a cap [] [] (HF.out.below hB HB0.out) (HS.out.below hB HB0.out) ⟨hB, ⟨by omega, by omega⟩, ⟨by omega, by omega⟩, by omega, by have := HZ0.out; omega⟩ HST0.out (Low.top fr s) (fun m hm => by simp at hm) (by have := HFULL.out; simp [sumF]; omega)).mono ?_
  rintro e w1 ⟨rfl, ⟨sp1, R, hst1, hsm1, _, _, hl1⟩, hb1⟩
  simp only [List.map_nil, List.nil_append, List.length_nil, sumF, Nat.zero_add] at hsm1 hl1
  obtain ⟨⟨av, cv, hblk, hown⟩, _, hokr⟩ := hst1
  have HOWN := Lib.hid hown
  have HBLK := Lib.hid hblk
  have HOKR := Lib.hid hokr
  have HB1 : Hid (Below w.heap.size w w1) := Lib.hid (HB0.out.trans hb1)
  have HSAME := Lib.hid hsm1
  have HSUM : Hid (sumF fr (R.map fdOf) ≤ 100000000000) := Lib.hid (by have := HFULL.out; omega)
  obtain ⟨L, hL⟩ : ∃ L, R.map fdOf = L := ⟨_, rfl⟩
  have HL := Lib.hid hL
  rw [hL] at HSUM HSAME
  have HLI : Hid (∀ (i : Nat) (r : RowS), R[i]? = some r → L[i]? = some (fdOf r)) := Lib.hid fun i r h => by rw [← HL.out, List.getElem?_map, h]; rfl
  have HLL : Hid (L.length = R.length) := Lib.hid (by rw [← HL.out, List.length_map])
  have hrl : R.length ≤ 100000000000 := by have h1 := sumF_len fr L; have h2 := HSUM.out; have h3 := HLL.out; omega
  have HRL := Lib.hid hrl
  have HFIN : Hid (∀ (v : Value), ErrOut (clashN f L) v → ErrOut (clashN f (opens fr s)) v) := Lib.hid fun v h => by rw [← clashN_same HSAME.out]; exact h
  have HGL : Hid (∀ x, x ∈ L → GoodF x) := Lib.hid fun x hx => HGD.out x (HSAME.out.mem.1 hx)
  have ⟨⟨b0, b1, b2, b4⟩, _⟩ := keep4o hblk
  have hb1z := hb1.size
  have hpl := Rw.lt_of_get hblk
  have b3 : ((w1.alloc (.map #[] 0)).alloc (.map #[] 0)).cell? ⟨w.heap.size + 1, 3, none⟩ = some (.slice av R.length cv) := by rw [World.cell?_alloc_lt _ _ ⟨w.heap.size + 1, 3, none⟩ (by simp; omega), World.cell?_alloc_lt _ _ ⟨w.heap.size + 1, 3, none⟩ hpl]; exact b4
  have HW1 : Hid (w.heap.size + 2 ≤ w1.heap.size) := Lib.hid (by have := HZ0.out; omega)
  clear hblk hown hokr hsm1 hl1 hb1 hL
  have hmm := @run_makeMap Tryz.prog
  go_wp2_with fail
  have HB2 : Hid (Below w1.heap.size w1 ((w1.alloc (.map #[] 0)).alloc (.map #[] 0))) := Lib.hid (((Below.refl _ _).alloc (Nat.le_refl _) _).alloc (by simp) _)
  have HM1 : Hid (Nm.OwnM ((w1.alloc (.map #[] 0)).alloc (.map #[] 0)) w1.heap.size 0 (.map [])) := Lib.hid ((World.ownsMap_made w1 Tryz.prog 9 Nm.RV).alloc _)
  have HM2 : Hid (Nm.OwnM ((w1.alloc (.map #[] 0)).alloc (.map #[] 0)) (w1.heap.size + 1) 0 (.map [])) := Lib.hid (by
    have := World.ownsMap_made (w1.alloc (.map #[] 0)) Tryz.prog 9 Nm.RV
    simpa using this)
  have HZ2 : Hid (((w1.alloc (.map #[] 0)).alloc (.map #[] 0)).heap.size = w1.heap.size + 2) := Lib.hid (by simp)
  clear hmm b0 b1 b2 b3 b4
  go_loopw [8, 26] (fun v q wr => ∃ (i' : Nat) (keys : List ByteArray) (ak : Option Addr) (ck : Nat) (D1 D2 : DataW Value) (V : ByteArray → Value) (F : ByteArray → List RowS), i' ≤ R.length ∧ v = .slice ak keys.length ck ∧ q = .int .i64 i' ∧ Hid (Uq.firstA Bad [] L = Uq.firstA Bad (L.take i') (L.drop i')) ∧ Hid (∀ y z, y ∈ L.take i' → z ∈ L.take i' → ¬ Bad y z) ∧ Hid (keys = Uq.uniq ((L.take i').map Fd.key)) ∧ Hid (keys.length ≤ i') ∧ Hid (Nm.OwnTs wr (w1.heap.size + 2) (.slice ak keys.length ck) keys) ∧ Hid (∀ x, x ∈ keys → OkS x) ∧ Hid (Nm.OwnM wr w1.heap.size i' D1 ∧ HeadsD (R.take i') D1) ∧ Hid (Nm.OwnM wr (w1.heap.size + 1) i' D2 ∧ InnerD V D2) ∧ Hid (InnerOk wr (w1.heap.size + 2) B (R.take i') V F) ∧ Hid (∀ k g, (V k).ownBlock = some g → (Value.slice ak keys.length ck).ownBlock ≠ some g) ∧ w1.heap.size + 2 ≤ wr.heap.size ∧ Below w1.heap.size w1 wr) (fun _ q _ => R.length - (intOf q).toNat)
  case atStart => exact ⟨0, [], none, 0, .map [], .map [], fun _ => .slice none 0 0, fun _ => [], Nat.zero_le _, rfl, rfl, Lib.hid (by rw [List.take_zero, List.drop_zero]), Lib.hid (fun y z hy => by simp at hy), Lib.hid (by rw [List.take_zero]; rfl), Lib.hid (Nat.le_refl _), Lib.hid (Nm.OwnTs.nil _ _), Lib.hid (fun x hx => by simp at hx), Lib.hid ⟨HM1.out, by rw [List.take_zero]; exact HeadsD.nil⟩, Lib.hid ⟨HM2.out, InnerD.nil⟩, Lib.hid (by rw [List.take_zero]; exact InnerOk.start _ _ _), Lib.hid (fun k g hg => by cases hg), by rw [HZ2.out]; exact Nat.le_refl _, HB2.out⟩
  case round =>
    obtain ⟨i, keys, ak, ck, D1, D2, V, F, hi, rfl, rfl, hm, hnc, hkeys, hkl, HT, HTOK, HH, HI, HIN, HAP, hz, hb⟩ := hrel
    have HB := Lib.hid hb
    have HZ := Lib.hid hz
    by_cases hlt : i < R.length
    · have hli : (i : Int) < (R.length : Int) := by omega
      have hi9 : (i : Int) < 100000000000 := by omega
      obtain ⟨ri, hri⟩ : ∃ r, R[i]? = some r := ⟨R[i], List.getElem?_eq_getElem hlt⟩
      have HRI := Lib.hid hri
      have HLX := Lib.hid (HLI.out i ri hri)
      have HOKI := Lib.hid (HOKR.out ri (List.mem_iff_getElem?.2 ⟨i, hri⟩))
      obtain ⟨g, cg, hve, hgb, hgl, hgc, i0, i1, i2, i3, i4⟩ := HOWN.out.at hri
      cases hve
      have j0 := (HB.out.cell (p := ⟨g, i * 5, none⟩) hgl).trans i0
      have j1 := (HB.out.cell (p := ⟨g, i * 5 + 1, none⟩) hgl).trans i1
      have j2 := (HB.out.cell (p := ⟨g, i * 5 + 2, none⟩) hgl).trans i2
      have j3 := (HB.out.cell (p := ⟨g, i * 5 + 3, none⟩) hgl).trans i3
      have j4 := (HB.out.cell (p := ⟨g, i * 5 + 4, none⟩) hgl).trans i4
      have hgw : g < wr.heap.size := Nat.lt_of_lt_of_le hgl HB.out.size
      have HHI := Lib.hid hlt
      have HTK : Hid (R.take (i + 1) = R.take i ++ [ri]) := Lib.hid (by rw [List.take_add_one, hri]; rfl)
      have HLK : Hid (L.take (i + 1) = L.take i ++ [fdOf ri]) := Lib.hid (by rw [List.take_add_one, HLX.out]; rfl)
      have HLD : Hid (L.drop i = fdOf ri :: L.drop (i + 1)) := Lib.hid (by
        obtain ⟨hl, he⟩ := List.getElem?_eq_some_iff.1 HLX.out
        rw [List.drop_eq_getElem_cons hl, he])
      have HRM : Hid ((R.take i).map fdOf = L.take i) := Lib.hid (by rw [← HL.out, List.map_take])
      have HAA : Hid (∀ o, Below wr.heap.size wr (wr.alloc o)) := Lib.hid fun o => (Below.refl _ _).alloc (Nat.le_refl _) o
      have hrunH := HH.out.2.look (w := wr.alloc (.cells #[.int .i64 ri.k, .string ri.key, .string ri.nm, .int .i64 ri.f, .slice ri.a ri.u.len ri.cap] 114)) (HH.out.1.alloc _) ri.key HOKI.out.2.1.2.1
      clear hlt hri i0 i1 i2 i3 i4 hb
      cases hhd : headIn ri.key (R.take i) with
      | none =>
        have HHD := Lib.hid hhd
        rw [hhd] at hrunH
        rw [show headV ri.key (R.take i) = zsel from by unfold headV; rw [hhd]] at hrunH
        simp only [zsel, Option.isSome_none] at hrunH
        clear hhd
        have HFW : Hid (Below wr.heap.size wr ((wr.alloc (.cells #[.int .i64 ri.k, .string ri.key, .string ri.nm, .int .i64 ri.f, .slice ri.a ri.u.len ri.cap] 114)).alloc (.cells #[.int .i64 0, .string ⟨#[]⟩, .string ⟨#[]⟩, .int .i64 0, .slice none 0 0] 114)).drew) := Lib.hid (((Below.refl _ _).alloc (Nat.le_refl _) _).alloc (by simp) _).drew
        have HSLZ : Hid (((wr.alloc (.cells #[.int .i64 ri.k, .string ri.key, .string ri.nm, .int .i64 ri.f, .slice ri.a ri.u.len ri.cap] 114)).alloc (.cells #[.int .i64 0, .string ⟨#[]⟩, .string ⟨#[]⟩, .int .i64 0, .slice none 0 0] 114)).heap[wr.heap.size]? = some (.cells #[.int .i64 ri.k, .string ri.key, .string ri.nm, .int .i64 ri.f, .slice ri.a ri.u.len ri.cap] 114 (0, 0))) := Lib.hid (two_new _ _ _)
        have HHDZ : Hid (((wr.alloc (.cells #[.int .i64 ri.k, .string ri.key, .string ri.nm, .int .i64 ri.f, .slice ri.a ri.u.len ri.cap] 114)).alloc (.cells #[.int .i64 0, .string ⟨#[]⟩, .string ⟨#[]⟩, .int .i64 0, .slice none 0 0] 114)).heap[wr.heap.size + 1]? = some (.cells #[.int .i64 0, .string ⟨#[]⟩, .string ⟨#[]⟩, .int .i64 0, .slice none 0 0] 114 (0, 0))) := Lib.hid (by have := heap_alloc_new (wr.alloc (.cells #[.int .i64 ri.k, .string ri.key, .string ri.nm, .int .i64 ri.f, .slice ri.a ri.u.len ri.cap] 114)) (.cells #[.int .i64 0, .string ⟨#[]⟩, .string ⟨#[]⟩, .int .i64 0, .slice none 0 0] 114); simpa using this)
        have HSZ : Hid (((wr.alloc (.cells #[.int .i64 ri.k, .string ri.key, .string ri.nm, .int .i64 ri.f, .slice ri.a ri.u.len ri.cap] 114)).alloc (.cells #[.int .i64 0, .string ⟨#[]⟩, .string ⟨#[]⟩, .int .i64 0, .slice none 0 0] 114)).drew.heap.size = wr.heap.size + 2) := Lib.hid (by show ((wr.alloc _).alloc _).heap.size = _; simp)
        obtain ⟨w5, hrunU, hown5, hgrow5⟩ := World.ownsMap.update (w := ((wr.alloc (.cells #[.int .i64 ri.k, .string ri.key, .string ri.nm, .int .i64 ri.f, .slice ri.a ri.u.len ri.cap] 114)).alloc (.cells #[.int .i64 0, .string ⟨#[]⟩, .string ⟨#[]⟩, .int .i64 0, .slice none 0 0] 114)).drew) (t := 156) (Nm.OwnM.same HH.out.1 (HFW.out.block w1.heap.size (by omega))) Nm.lawS Tryz.underlying156 (by unfold maxLen; omega) (Nm.hkeyS ri.key HOKI.out.2.1.2.1) (val := .agg #[.int .i64 ri.k, .string ri.key, .string ri.nm, .int .i64 ri.f, .slice ri.a ri.u.len ri.cap]) (d := .held (.agg #[.int .i64 ri.k, .string ri.key, .string ri.nm, .int .i64 ri.f, .slice ri.a ri.u.len ri.cap])) (ps := []) rfl
        have HSL5 : Hid (w5.heap[wr.heap.size]? = some (.cells #[.int .i64 ri.k, .string ri.key, .string ri.nm, .int .i64 ri.f, .slice ri.a ri.u.len ri.cap] 114 (0, 0))) := Lib.hid ((hgrow5.block wr.heap.size (by have := HSZ.out; omega) (by simp; omega)).trans HSLZ.out)
        have HHD5 : Hid (w5.heap[wr.heap.size + 1]? = some (.cells #[.int .i64 0, .string ⟨#[]⟩, .string ⟨#[]⟩, .int .i64 0, .slice none 0 0] 114 (0, 0))) := Lib.hid ((hgrow5.block (wr.heap.size + 1) (by have := HSZ.out; omega) (by simp; omega)).trans HHDZ.out)
        have HOWN5 := Lib.hid hown5
        have HGR5 := Lib.hid hgrow5
        have ⟨⟨m0, m1, m2, m3, m4⟩, _⟩ := keep5 HSLZ.out
        have ⟨⟨n0, n1, n2, n3, n4⟩, _⟩ := keep5 HSL5.out
        have ⟨⟨r0, r1, r2, r3, r4⟩, s0, s1, s2, s3, s4⟩ := keep5 HHD5.out
        clear hown5 hgrow5
        go_wp2_with fail
        go_region
        all_goals
          have HH6 := Lib.hid (set5_block HHD5.out (.int .i64 ri.k) (.string ri.key) (.string ri.nm) (.int .i64 ri.f) (.slice ri.a ri.u.len ri.cap))
          have HO6 : Hid (∀ c, c ≠ wr.heap.size + 1 → (set5 w5 (wr.heap.size + 1) (.int .i64 ri.k) (.string ri.key) (.string ri.nm) (.int .i64 ri.f) (.slice ri.a ri.u.len ri.cap)).heap[c]? = w5.heap[c]?) := Lib.hid fun c hc => set5_other _ _ _ _ _ _ _ _ hc
          have HB6 : Hid (Below (wr.heap.size + 1) w5 (set5 w5 (wr.heap.size + 1) (.int .i64 ri.k) (.string ri.key) (.string ri.nm) (.int .i64 ri.f) (.slice ri.a ri.u.len ri.cap))) := Lib.hid (set5_below (Below.refl _ _) (Nat.le_refl _) _ _ _ _ _)
          rw [show (((((w5.setCell ⟨wr.heap.size + 1, 0, none⟩ (.int .i64 ri.k)).setCell ⟨wr.heap.size + 1, 1, none⟩ (.string ri.key)).setCell ⟨wr.heap.size + 1, 2, none⟩ (.string ri.nm)).setCell ⟨wr.heap.size + 1, 3, none⟩ (.int .i64 ri.f)).setCell ⟨wr.heap.size + 1, 4, none⟩ (.slice ri.a ri.u.len ri.cap)) = set5 w5 (wr.heap.size + 1) (.int .i64 ri.k) (.string ri.key) (.string ri.nm) (.int .i64 ri.f) (.slice ri.a ri.u.len ri.cap) from rfl]
          generalize set5 w5 (wr.heap.size + 1) (.int .i64 ri.k) (.string ri.key) (.string ri.nm) (.int .i64 ri.f) (.slice ri.a ri.u.len ri.cap) = w6 at *
          have HG6 : Hid (wr.grownBy w6 (some w1.heap.size)) := Lib.hid ⟨HB6.out.os.trans (HGR5.out.os.trans HFW.out.os), HB6.out.tape.trans (HGR5.out.tape.trans HFW.out.tape), HB6.out.output.trans (HGR5.out.output.trans HFW.out.output), Nat.le_trans HFW.out.size (Nat.le_trans HGR5.out.size HB6.out.size), fun c hc hne => (HB6.out.block c (by omega)).trans ((HGR5.out.block c (Nat.lt_of_lt_of_le hc HFW.out.size) hne).trans (HFW.out.block c hc))⟩
          have HZ6 : Hid (wr.heap.size + 2 ≤ w6.heap.size) := Lib.hid (by have h1 := HSZ.out; have h2 := HGR5.out.size; have h3 := HB6.out.size; omega)
          have HSL6 := Lib.hid ((HO6.out wr.heap.size (by omega)).trans HSL5.out)
          have ⟨⟨x0, x1, x2, x3, x4⟩, _⟩ := keep5 HSL6.out
          have HT6 : Hid (Nm.OwnTs w6 (w1.heap.size + 2) (.slice ak keys.length ck) keys) := Lib.hid (HT.out.frame fun c h1 h2 => HG6.out.block c h2 (by simp; omega))
          have HHM6 : Hid (Nm.OwnM w6 w1.heap.size (i + 1) (D1.put (Nm.keyL ri.key) (.held (.agg #[.int .i64 ri.k, .string ri.key, .string ri.nm, .int .i64 ri.f, .slice ri.a ri.u.len ri.cap])))) := Lib.hid (Nm.OwnM.same HOWN5.out (HO6.out w1.heap.size (by omega)))
          have HI6 : Hid (Nm.OwnM w6 (w1.heap.size + 1) i D2) := Lib.hid (Nm.OwnM.same HI.out.1 (HG6.out.block (w1.heap.size + 1) (by omega) (by simp)))
          have HIN6 : Hid (InnerOk w6 (w1.heap.size + 2) B (R.take i) V F) := Lib.hid (HIN.out.grown HG6.out (fun k g hg e => by have := ((HIN.out.own k).base g hg).1; injection e with e; omega) (fun g e => by injection e with e; have := HW1.out; omega) (by have := HW1.out; omega))
          clear hrunH j0 j1 j2 j3 j4 m0 m1 m2 m3 m4 n0 n1 n2 n3 n4 r0 r1 r2 r3 r4 s0 s1 s2 s3 s4 hrunU
          go_wp2_with (at_builtin; refine app_textC rfl _ _ rfl (w1.heap.size + 2) (.slice ak keys.length ck) keys rfl (HT6.out.below ((Below.refl _ _).alloc (Nat.le_refl _) _)) w6.heap.size 1 rfl ri.key (by simp) (by have := hkl.out; omega) (by have := HZ6.out; simp; omega) ?_; intro ax cx wx hownx hmdx; have HMX := Lib.hid ((MadeS.of_below ((Below.refl w6.heap.size w6).alloc (Nat.le_refl _) (.cells #[.string ri.key] 9))).trans hmdx); have HTX0 := Lib.hid hownx; have HSLX := Lib.hid ((HMX.out.block (c := wr.heap.size) (by have := HZ6.out; omega) (fun g' h => by have := (World.ownsRow.lt HT.out g' h).2; omega)).trans HSL6.out); have HHDX := Lib.hid ((HMX.out.block (c := wr.heap.size + 1) (by have := HZ6.out; omega) (fun g' h => by have := (World.ownsRow.lt HT.out g' h).2; omega)).trans HH6.out); have ⟨⟨y0, y1, y2, y3, y4⟩, _⟩ := keep5 HSLX.out; have ⟨⟨z0, z1, z2, z3, z4⟩, _⟩ := keep5 HHDX.out; clear hownx hmdx x0 x1 x2 x3 x4)
          have HKN : Hid (ri.key ∉ keys) := Lib.hid fun hk => by
            rw [hkeys.out] at hk
            obtain ⟨y, hy, he⟩ := List.mem_map.1 (Uq.mem_uniq.1 hk)
            rw [← HRM.out] at hy
            obtain ⟨r, hr, e2⟩ := List.mem_map.1 hy
            exact headIn_none HHD.out r hr (by rw [← he, ← e2]; rfl)
          have HKX : Hid (keys ++ [ri.key] = Uq.uniq ((L.take (i + 1)).map Fd.key)) := Lib.hid (by
            rw [HLK.out, List.map_append, Uq.uniq_append, ← hkeys.out]
            show _ = Uq.add keys ri.key
            rw [Uq.add_new HKN.out])
          have HTX : Hid (Nm.OwnTs wx (w1.heap.size + 2) (.slice ax (keys ++ [ri.key]).length cx) (keys ++ [ri.key])) := Lib.hid (by rw [List.length_append]; exact HTX0.out)
          have HTOKX : Hid (∀ x, x ∈ keys ++ [ri.key] → OkS x) := Lib.hid fun x hx => (List.mem_append.1 hx).elim (HTOK.out x) fun h => by simp at h; subst h; exact HOKI.out.2.1.2.1
          have HKLX : Hid ((keys ++ [ri.key]).length ≤ i + 1) := Lib.hid (by have := hkl.out; rw [List.length_append]; simp; omega)
          have HZX : Hid (wr.heap.size + 2 ≤ wx.heap.size) := Lib.hid (Nat.le_trans HZ6.out HMX.out.size)
          have HHX : Hid (Nm.OwnM wx w1.heap.size (i + 1) (D1.put (Nm.keyL ri.key) (.held (.agg #[.int .i64 ri.k, .string ri.key, .string ri.nm, .int .i64 ri.f, .slice ri.a ri.u.len ri.cap]))) ∧ HeadsD (R.take (i + 1)) (D1.put (Nm.keyL ri.key) (.held (.agg #[.int .i64 ri.k, .string ri.key, .string ri.nm, .int .i64 ri.f, .slice ri.a ri.u.len ri.cap])))) := Lib.hid ⟨Nm.OwnM.same HHM6.out (HMX.out.block (by have := HZ6.out; omega) (fun g' h => by have := (World.ownsRow.lt HT.out g' h).1; omega)), by rw [HTK.out]; exact HH.out.2.put HHD.out⟩
          have HIX : Hid (Nm.OwnM wx (w1.heap.size + 1) i D2) := Lib.hid (Nm.OwnM.same HI6.out (HMX.out.block (by have := HZ6.out; omega) (fun g' h => by have := (World.ownsRow.lt HT.out g' h).1; omega)))
          have HINX : Hid (InnerOk wx (w1.heap.size + 2) B (R.take i) V F) := Lib.hid (HIN6.out.grown HMX.out.grown (fun k g hg e => HAP.out k g hg e) (fun g' h => by have := (World.ownsRow.lt HT.out g' h).1; have := HW1.out; omega) (by have h1 := HZ6.out; have := HW1.out; omega))
          have HAPX : Hid (∀ k g, (V k).ownBlock = some g → (Value.slice ax (keys ++ [ri.key]).length cx).ownBlock ≠ some g) := Lib.hid fun k g hg e => by
            have e' : (Value.slice ax (keys.length + 1) cx).ownBlock = some g := by rw [← e]; cases ax <;> rfl
            rcases HMX.out.own g e' with h | h
            · exact HAP.out k g hg h
            · have := ((HIN.out.own k).base g hg).2; have := HZ6.out; omega
          have HBX : Hid (Below w1.heap.size w1 wx) := Lib.hid (((HB.out.grown HG6.out (by omega) (fun k hk => by injection hk with hk; omega))).trans (HMX.out.to (fun g' h => by have := (World.ownsRow.lt HT.out g' h).1; omega) (by have := HZ6.out; omega)))
          have HNB : Hid (¬ ∃ y, y ∈ L.take i ∧ Bad y (fdOf ri)) := Lib.hid fun ⟨y, hy, hbad⟩ => by
            rw [← HRM.out] at hy
            obtain ⟨r, hr, e2⟩ := List.mem_map.1 hy
            exact headIn_none HHD.out r hr (by rw [← e2] at hbad; exact hbad.1)
          clear z0 z1 z2 z3 z4
          obtain ⟨vi, vc, hVe⟩ := (HINX.out.own ri.key).slice
          have HVE := Lib.hid hVe
          have HOV : Hid (OwnSs wx (w1.heap.size + 2) (.slice vi (F ri.key).length vc) (F ri.key)) := Lib.hid (by have := HINX.out.own ri.key; rwa [hVe] at this)
          have HVG : Hid (∀ g, (Value.slice vi (F ri.key).length vc).ownBlock = some g → w1.heap.size + 2 ≤ g ∧ g < wr.heap.size) := Lib.hid fun g hg => (HIN.out.own ri.key).base g (by rw [hVe]; exact hg)
          have hrunI := HI.out.2.look (w := wx.drew) (n := i) (b := w1.heap.size + 1) HIX.out ri.key HOKI.out.2.1.2.1
          rw [hVe] at hrunI
          have HFL : Hid ((F ri.key).length ≤ 100000000000) := Lib.hid (by
            have h1 := toSels_len (F ri.key)
            have h2 := full_len hn (subK ri.key ((R.take i).map fdOf))
            have h3 := sumF_sub hn ri.key ((R.take i).map fdOf)
            have h4 := sumF_take fr i L
            have h5 := HSUM.out
            rw [HIN.out.sels] at h1
            rw [HRM.out] at h1 h2 h3; omega)
          have HUL : Hid (ri.u.len ≤ 100000000000) := Lib.hid (by
            have h1 := full_len hn ri.u
            have h2 := sumF_mem fr (x := fdOf ri) (List.mem_iff_getElem?.2 ⟨i, HLX.out⟩)
            have h3 := HSUM.out
            have h4 : (fdOf ri).sub = ri.u := rfl
            rw [h4] at h2; omega)
          have HUD : Hid (SelsAt wx.drew 0 B ri.a ri.u.len ri.u) := Lib.hid (HOKI.out.2.2.below (C := w1.heap.size) (by have := HW1.out; omega) HBX.out).drew
          clear hVe
          go_region_law (first
            | (refine step_app_rows (by rfl) _ _ (by rfl) (w1.heap.size + 2) (.slice vi (F ri.key).length vc) (F ri.key) (by rfl) HOV.out 0 B ri.a ri.u.len ri.cap ri.u (by rfl) HUD.out (by have h1 := HFL.out; have h2 := HUL.out; omega) (by have h1 := HZX.out; show w1.heap.size + 2 ≤ wx.heap.size; omega) ?_; intro a8 c8 w8 R2 e1_ e2_ hok8 hown8 hmd8; have HSL8 := Lib.hid ((hmd8.block (c := wr.heap.size) (by have := HZX.out; show wr.heap.size < wx.heap.size; omega) (fun g' h => by have := (HVG.out g' h).2; omega)).trans HSLX.out); have ⟨⟨q0, q1, q2, q3, q4⟩, _⟩ := keep5 HSL8.out; have HI8 : Nm.OwnM w8 (w1.heap.size + 1) i D2 := Nm.OwnM.same HIX.out (hmd8.block (c := w1.heap.size + 1) (by have := HZX.out; show w1.heap.size + 1 < wx.heap.size; omega) (fun g' h => by have := (HVG.out g' h).1; omega)); obtain ⟨w9, hrunU, hown9, hgrow9⟩ := World.ownsMap.update (t := 157) HI8 Nm.lawS Tryz.underlying157 (by unfold maxLen; omega) (Nm.hkeyS ri.key HOKI.out.2.1.2.1) (val := .slice a8 ((F ri.key).length + ri.u.len) c8) (d := .held (.slice a8 ((F ri.key).length + ri.u.len) c8)) (ps := []) rfl))
          all_goals
            have HMD8 : Hid (MadeS (V ri.key) (.slice a8 ((F ri.key).length + ri.u.len) c8) wx w8) := Lib.hid (by rw [HVE.out]; exact (MadeS.of_below (Below.refl _ _).drew).trans hmd8)
            have HPUT : Hid (InnerOk w8 (w1.heap.size + 2) B (R.take (i + 1)) (putV V ri.key (.slice a8 ((F ri.key).length + ri.u.len) c8)) (fun j => if j = ri.key then F ri.key ++ R2 else F j)) := Lib.hid (by
              rw [HTK.out]; exact HINX.out.put ri hown8 HMD8.out e1_ (fun r hr => (hok8 r hr).below (C := B) (Nat.le_refl _) (hmd8.to (fun g' h => by have h1 := (HVG.out g' h).1; have h2 := HW1.out; omega) (by have h1 := HZX.out; have h2 := HW1.out; show B ≤ wx.heap.size; omega))) (by have := HW1.out; omega) (by have := HZX.out; omega))
            have HIN9 : Hid (InnerOk w9 (w1.heap.size + 2) B (R.take (i + 1)) (putV V ri.key (.slice a8 ((F ri.key).length + ri.u.len) c8)) (fun j => if j = ri.key then F ri.key ++ R2 else F j)) := Lib.hid (HPUT.out.grown hgrow9 (fun k g hg e => by have := ((HPUT.out.own k).base g hg).1; injection e with e; omega) (fun g e => by injection e with e; have := HW1.out; omega) (by have h1 := hmd8.size; have h2 := HZX.out; have h3 := HW1.out; have h4 : wx.drew.heap.size = wx.heap.size := rfl; omega))
            have HI9 : Hid (Nm.OwnM w9 (w1.heap.size + 1) (i + 1) (D2.put (Nm.keyL ri.key) (.held (.slice a8 ((F ri.key).length + ri.u.len) c8))) ∧ InnerD (putV V ri.key (.slice a8 ((F ri.key).length + ri.u.len) c8)) (D2.put (Nm.keyL ri.key) (.held (.slice a8 ((F ri.key).length + ri.u.len) c8)))) := Lib.hid ⟨hown9, HI.out.2.put _ _⟩
            have HZ8 : Hid (wx.heap.size ≤ w8.heap.size) := Lib.hid HMD8.out.size
            have HH9 : Hid (Nm.OwnM w9 w1.heap.size (i + 1) (D1.put (Nm.keyL ri.key) (.held (.agg #[.int .i64 ri.k, .string ri.key, .string ri.nm, .int .i64 ri.f, .slice ri.a ri.u.len ri.cap]))) ∧ HeadsD (R.take (i + 1)) (D1.put (Nm.keyL ri.key) (.held (.agg #[.int .i64 ri.k, .string ri.key, .string ri.nm, .int .i64 ri.f, .slice ri.a ri.u.len ri.cap])))) := Lib.hid ⟨Nm.OwnM.same HHX.out.1 ((hgrow9.block w1.heap.size (by have h1 := HZX.out; have h2 := HZ8.out; omega) (by simp)).trans (HMD8.out.block (c := w1.heap.size) (by have := HZX.out; omega) (fun g' h => by have := ((HIN.out.own ri.key).base g' h).1; omega))), HHX.out.2⟩
            have HT9 : Hid (Nm.OwnTs w9 (w1.heap.size + 2) (Value.slice ax (keys ++ [ri.key]).length cx) (keys ++ [ri.key])) := Lib.hid (by
              refine World.ownsRow.kept (World.ownsRow.kept HTX.out HMD8.out.grown ?_) hgrow9 ?_
              · cases hk : (V ri.key).ownBlock with
                | none =>
                  cases hk2 : ((Value.slice ax (keys ++ [ri.key]).length cx)).ownBlock with
                  | none => exact .inl rfl
                  | some g => exact .inr (by simp)
                | some g => exact .inr (HAPX.out ri.key g hk)
              · cases hk2 : ((Value.slice ax (keys ++ [ri.key]).length cx)).ownBlock with
                | none => exact .inl rfl
                | some g => exact .inr (fun e => by have := (World.ownsRow.lt HTX.out g hk2).1; injection e with e; omega))
            have HAP9 : Hid (∀ k g, (putV V ri.key (.slice a8 ((F ri.key).length + ri.u.len) c8) k).ownBlock = some g → ((Value.slice ax (keys ++ [ri.key]).length cx)).ownBlock ≠ some g) := Lib.hid fun k g hg e => by
              by_cases hk : k = ri.key
              · subst hk
                simp only [putV, if_true] at hg
                rcases HMD8.out.own g hg with h | h
                · exact HAPX.out _ g h e
                · have := (World.ownsRow.lt HTX.out g e).2; omega
              · simp only [putV, if_neg hk] at hg
                exact HAPX.out k g hg e
            have HB9 : Hid (Below w1.heap.size w1 w9) := Lib.hid ((HBX.out.trans (HMD8.out.to (fun g' h => by have := ((HIN.out.own ri.key).base g' h).1; omega) (by have := HZX.out; omega))).grown hgrow9 (by have h1 := HZX.out; have h2 := HZ8.out; omega) (fun k hk => by injection hk with hk; omega))
            have HZ9 : Hid (w1.heap.size + 2 ≤ w9.heap.size) := Lib.hid (by have h1 := HZX.out; have h2 := HZ8.out; have h3 := hgrow9.size; omega)
            have HNC9 : Hid (∀ y z, y ∈ L.take (i + 1) → z ∈ L.take (i + 1) → ¬ Bad y z) := Lib.hid fun y z hy hz hb => by
              rw [HLK.out] at hy hz
              rcases List.mem_append.1 hy with hy | hy <;> rcases List.mem_append.1 hz with hz | hz
              · exact hnc.out y z hy hz hb
              · simp at hz; subst hz; exact HNB.out ⟨y, hy, hb⟩
              · simp at hy; subst hy; exact HNB.out ⟨z, hz, Bad.symm _ _ hb⟩
              · simp at hy hz; subst hy; subst hz; exact Bad.irrefl _ hb
            have HM9 : Hid (Uq.firstA Bad [] L = Uq.firstA Bad (L.take (i + 1)) (L.drop (i + 1))) := Lib.hid (by rw [hm.out, HLD.out, Uq.firstA_miss HNB.out, HLK.out])
            clear hown8 hmd8 hok8 hown9 hgrow9 hrunU q0 q1 q2 q3 q4 hrunI y0 y1 y2 y3 y4
            go_wp2_with fail
            go_roundw
            case rel => exact ⟨i + 1, (keys ++ [ri.key]), ax, cx, (D1.put (Nm.keyL ri.key) (.held (.agg #[.int .i64 ri.k, .string ri.key, .string ri.nm, .int .i64 ri.f, .slice ri.a ri.u.len ri.cap]))), _, _, _, by have := HHI.out; omega, by simp, by go_num, HM9, HNC9, HKX, HKLX, HT9, HTOKX, HH9, HI9, HIN9, HAP9, HZ9.out, HB9.out⟩
            case measure => have := HHI.out; simp [intOf]; omega
      | some rh =>
        have HHD := Lib.hid hhd
        rw [hhd] at hrunH
        rw [show headV ri.key (R.take i) = .agg #[.int .i64 rh.k, .string rh.key, .string rh.nm, .int .i64 rh.f, .slice rh.a rh.u.len rh.cap] from by unfold headV; rw [hhd]; rfl] at hrunH
        simp only [Option.isSome_some] at hrunH
        obtain ⟨hrm, hrk⟩ := headIn_some hhd
        have HRK := Lib.hid hrk
        have HRHM : Hid (fdOf rh ∈ L.take i) := Lib.hid (by rw [← HRM.out]; exact List.mem_map.2 ⟨rh, hrm, rfl⟩)
        have HSLX : Hid (((wr.alloc (.cells #[.int .i64 ri.k, .string ri.key, .string ri.nm, .int .i64 ri.f, .slice ri.a ri.u.len ri.cap] 114)).alloc (.cells #[.int .i64 rh.k, .string rh.key, .string rh.nm, .int .i64 rh.f, .slice rh.a rh.u.len rh.cap] 114)).heap[wr.heap.size]? = some (.cells #[.int .i64 ri.k, .string ri.key, .string ri.nm, .int .i64 ri.f, .slice ri.a ri.u.len ri.cap] 114 (0, 0))) := Lib.hid (two_new _ _ _)
        have HHDX : Hid (((wr.alloc (.cells #[.int .i64 ri.k, .string ri.key, .string ri.nm, .int .i64 ri.f, .slice ri.a ri.u.len ri.cap] 114)).alloc (.cells #[.int .i64 rh.k, .string rh.key, .string rh.nm, .int .i64 rh.f, .slice rh.a rh.u.len rh.cap] 114)).heap[wr.heap.size + 1]? = some (.cells #[.int .i64 rh.k, .string rh.key, .string rh.nm, .int .i64 rh.f, .slice rh.a rh.u.len rh.cap] 114 (0, 0))) := Lib.hid (by have := heap_alloc_new (wr.alloc (.cells #[.int .i64 ri.k, .string ri.key, .string ri.nm, .int .i64 ri.f, .slice ri.a ri.u.len ri.cap] 114)) (.cells #[.int .i64 rh.k, .string rh.key, .string rh.nm, .int .i64 rh.f, .slice rh.a rh.u.len rh.cap] 114); simpa using this)
        have HFW : Hid (Below wr.heap.size wr ((wr.alloc (.cells #[.int .i64 ri.k, .string ri.key, .string ri.nm, .int .i64 ri.f, .slice ri.a ri.u.len ri.cap] 114)).alloc (.cells #[.int .i64 rh.k, .string rh.key, .string rh.nm, .int .i64 rh.f, .slice rh.a rh.u.len rh.cap] 114))) := Lib.hid (((Below.refl _ _).alloc (Nat.le_refl _) _).alloc (by simp) _)
        have HZX : Hid (wr.heap.size + 2 ≤ ((wr.alloc (.cells #[.int .i64 ri.k, .string ri.key, .string ri.nm, .int .i64 ri.f, .slice ri.a ri.u.len ri.cap] 114)).alloc (.cells #[.int .i64 rh.k, .string rh.key, .string rh.nm, .int .i64 rh.f, .slice rh.a rh.u.len rh.cap] 114)).heap.size) := Lib.hid (by simp)
        have ⟨⟨y0, y1, y2, y3, y4⟩, _⟩ := keep5 HSLX.out
        have ⟨⟨z0, z1, z2, z3, z4⟩, _⟩ := keep5 HHDX.out
        have HBAD : Hid (Bad (fdOf rh) (fdOf ri) ↔ (rh.nm ≠ ri.nm ∨ rh.f ≠ ri.f)) := Lib.hid ⟨fun h => h.2, fun h => ⟨HRK.out, h⟩⟩
        have HNBX : Hid (¬ Bad (fdOf rh) (fdOf ri) → ¬ ∃ y, y ∈ L.take i ∧ Bad y (fdOf ri)) := Lib.hid fun h ⟨y, hy, hbad⟩ => by
          have h1 := hnc.out y (fdOf rh) hy HRHM.out
          refine h ⟨HRK.out, ?_⟩
          have hyk : y.key = (fdOf rh).key := hbad.1.trans HRK.out.symm
          have hsame : y.name = (fdOf rh).name ∧ y.first = (fdOf rh).first := by
            refine ⟨Classical.byContradiction fun e => h1 ⟨hyk, .inl e⟩, Classical.byContradiction fun e => h1 ⟨hyk, .inr e⟩⟩
          rcases hbad.2 with e | e
          · exact .inl (by rw [← hsame.1]; exact e)
          · exact .inr (by rw [← hsame.2]; exact e)
        have HYES : Hid (Bad (fdOf rh) (fdOf ri) → ErrOut (clashN f (opens fr s)) (.iface 137 (.string ri.key))) := Lib.hid fun h => by
          have hg := (HGL.out (fdOf ri) (List.mem_iff_getElem?.2 ⟨i, HLX.out⟩)).1
          refine HFIN.out _ (.inr ⟨.leaf (.there ri.key), rfl, ?_, ?_, ?_⟩)
          all_goals rw [clashN_some (f := f) (l := L) (x := fdOf ri) (by rw [hm.out, HLD.out]; exact Uq.firstA_hit ⟨fdOf rh, HRHM.out, h⟩)]
          · rfl
          · exact hg.1
          · exact hg.2
        have HWB : Hid (Below w.heap.size w ((wr.alloc (.cells #[.int .i64 ri.k, .string ri.key, .string ri.nm, .int .i64 ri.f, .slice ri.a ri.u.len ri.cap] 114)).alloc (.cells #[.int .i64 rh.k, .string rh.key, .string rh.nm, .int .i64 rh.f, .slice rh.a rh.u.len rh.cap] 114))) := Lib.hid (HB1.out.trans ((HB.out.trans (HFW.out.mono (by omega))).mono HB1.out.size))
        have HTX := Lib.hid (HT.out.below HFW.out)
        have HTOKX := HTOK
        have HKX : Hid (keys = Uq.uniq ((L.take (i + 1)).map Fd.key)) := Lib.hid (by
          rw [HLK.out, List.map_append, Uq.uniq_append, ← hkeys.out]
          show _ = Uq.add keys ri.key
          rw [Uq.add_in]
          rw [hkeys.out]
          exact Uq.mem_uniq.2 (List.mem_map.2 ⟨fdOf rh, HRHM.out, HRK.out⟩))
        have HKLX : Hid (keys.length ≤ i + 1) := Lib.hid (Nat.le_succ_of_le hkl.out)
        have HHX : Hid (Nm.OwnM ((wr.alloc (.cells #[.int .i64 ri.k, .string ri.key, .string ri.nm, .int .i64 ri.f, .slice ri.a ri.u.len ri.cap] 114)).alloc (.cells #[.int .i64 rh.k, .string rh.key, .string rh.nm, .int .i64 rh.f, .slice rh.a rh.u.len rh.cap] 114)) w1.heap.size (i + 1) D1 ∧ HeadsD (R.take (i + 1)) D1) := Lib.hid ⟨World.ownsMap.mono ((HH.out.1.alloc _).alloc _) (Nat.le_succ _), by rw [HTK.out]; exact HH.out.2.old HHD.out⟩
        have HIX : Hid (Nm.OwnM ((wr.alloc (.cells #[.int .i64 ri.k, .string ri.key, .string ri.nm, .int .i64 ri.f, .slice ri.a ri.u.len ri.cap] 114)).alloc (.cells #[.int .i64 rh.k, .string rh.key, .string rh.nm, .int .i64 rh.f, .slice rh.a rh.u.len rh.cap] 114)) (w1.heap.size + 1) i D2) := Lib.hid ((HI.out.1.alloc _).alloc _)
        have HINX : Hid (InnerOk ((wr.alloc (.cells #[.int .i64 ri.k, .string ri.key, .string ri.nm, .int .i64 ri.f, .slice ri.a ri.u.len ri.cap] 114)).alloc (.cells #[.int .i64 rh.k, .string rh.key, .string rh.nm, .int .i64 rh.f, .slice rh.a rh.u.len rh.cap] 114)) (w1.heap.size + 2) B (R.take i) V F) := Lib.hid (HIN.out.below (by have := HW1.out; omega) HFW.out)
        have HAPX := HAP
        have HBX : Hid (Below w1.heap.size w1 ((wr.alloc (.cells #[.int .i64 ri.k, .string ri.key, .string ri.nm, .int .i64 ri.f, .slice ri.a ri.u.len ri.cap] 114)).alloc (.cells #[.int .i64 rh.k, .string rh.key, .string rh.nm, .int .i64 rh.f, .slice rh.a rh.u.len rh.cap] 114))) := Lib.hid (HB.out.trans (HFW.out.mono (by omega)))
        have z5 : (wr.alloc (.cells #[.int .i64 ri.k, .string ri.key, .string ri.nm, .int .i64 ri.f, .slice ri.a ri.u.len ri.cap] 114)).heap.size = wr.heap.size + 1 := by simp
        clear hrm hrk hhd
        generalize rh.nm = hnm at *
        generalize rh.f = hf_ at *
        by_cases q2 : ri.nm = hnm
        · subst q2
          by_cases q3 : ri.f = hf_
          · subst q3
            have HNB := Lib.hid (HNBX.out (fun h => (HBAD.out.1 h).elim (fun e => e rfl) fun e => e rfl))
            clear HHD HBAD HNBX HYES HWB
            go_wp2_with fail
            clear hrunH j0 j1 j2 j3 j4 z0 z1 z2 z3 z4 HHDX z5
            generalize ((wr.alloc (.cells #[.int .i64 ri.k, .string ri.key, .string ri.nm, .int .i64 ri.f, .slice ri.a ri.u.len ri.cap] 114)).alloc (.cells #[.int .i64 rh.k, .string rh.key, .string ri.nm, .int .i64 ri.f, .slice rh.a rh.u.len rh.cap] 114)) = wx at *
            obtain ⟨vi, vc, hVe⟩ := (HINX.out.own ri.key).slice
            have HVE := Lib.hid hVe
            have HOV : Hid (OwnSs wx (w1.heap.size + 2) (.slice vi (F ri.key).length vc) (F ri.key)) := Lib.hid (by have := HINX.out.own ri.key; rwa [hVe] at this)
            have HVG : Hid (∀ g, (Value.slice vi (F ri.key).length vc).ownBlock = some g → w1.heap.size + 2 ≤ g ∧ g < wr.heap.size) := Lib.hid fun g hg => (HIN.out.own ri.key).base g (by rw [hVe]; exact hg)
            have hrunI := HI.out.2.look (w := wx.drew) (n := i) (b := w1.heap.size + 1) HIX.out ri.key HOKI.out.2.1.2.1
            rw [hVe] at hrunI
            have HFL : Hid ((F ri.key).length ≤ 100000000000) := Lib.hid (by
              have h1 := toSels_len (F ri.key)
              have h2 := full_len hn (subK ri.key ((R.take i).map fdOf))
              have h3 := sumF_sub hn ri.key ((R.take i).map fdOf)
              have h4 := sumF_take fr i L
              have h5 := HSUM.out
              rw [HIN.out.sels] at h1
              rw [HRM.out] at h1 h2 h3; omega)
            have HUL : Hid (ri.u.len ≤ 100000000000) := Lib.hid (by
              have h1 := full_len hn ri.u
              have h2 := sumF_mem fr (x := fdOf ri) (List.mem_iff_getElem?.2 ⟨i, HLX.out⟩)
              have h3 := HSUM.out
              have h4 : (fdOf ri).sub = ri.u := rfl
              rw [h4] at h2; omega)
            have HUD : Hid (SelsAt wx.drew 0 B ri.a ri.u.len ri.u) := Lib.hid (HOKI.out.2.2.below (C := w1.heap.size) (by have := HW1.out; omega) HBX.out).drew
            clear hVe
            go_region_law (first
              | (refine step_app_rows (by rfl) _ _ (by rfl) (w1.heap.size + 2) (.slice vi (F ri.key).length vc) (F ri.key) (by rfl) HOV.out 0 B ri.a ri.u.len ri.cap ri.u (by rfl) HUD.out (by have h1 := HFL.out; have h2 := HUL.out; omega) (by have h1 := HZX.out; show w1.heap.size + 2 ≤ wx.heap.size; omega) ?_; intro a8 c8 w8 R2 e1_ e2_ hok8 hown8 hmd8; have HSL8 := Lib.hid ((hmd8.block (c := wr.heap.size) (by have := HZX.out; show wr.heap.size < wx.heap.size; omega) (fun g' h => by have := (HVG.out g' h).2; omega)).trans HSLX.out); have ⟨⟨q0, q1, q2, q3, q4⟩, _⟩ := keep5 HSL8.out; have HI8 : Nm.OwnM w8 (w1.heap.size + 1) i D2 := Nm.OwnM.same HIX.out (hmd8.block (c := w1.heap.size + 1) (by have := HZX.out; show w1.heap.size + 1 < wx.heap.size; omega) (fun g' h => by have := (HVG.out g' h).1; omega)); obtain ⟨w9, hrunU, hown9, hgrow9⟩ := World.ownsMap.update (t := 157) HI8 Nm.lawS Tryz.underlying157 (by unfold maxLen; omega) (Nm.hkeyS ri.key HOKI.out.2.1.2.1) (val := .slice a8 ((F ri.key).length + ri.u.len) c8) (d := .held (.slice a8 ((F ri.key).length + ri.u.len) c8)) (ps := []) rfl))
            all_goals
              have HMD8 : Hid (MadeS (V ri.key) (.slice a8 ((F ri.key).length + ri.u.len) c8) wx w8) := Lib.hid (by rw [HVE.out]; exact (MadeS.of_below (Below.refl _ _).drew).trans hmd8)
              have HPUT : Hid (InnerOk w8 (w1.heap.size + 2) B (R.take (i + 1)) (putV V ri.key (.slice a8 ((F ri.key).length + ri.u.len) c8)) (fun j => if j = ri.key then F ri.key ++ R2 else F j)) := Lib.hid (by
                rw [HTK.out]; exact HINX.out.put ri hown8 HMD8.out e1_ (fun r hr => (hok8 r hr).below (C := B) (Nat.le_refl _) (hmd8.to (fun g' h => by have h1 := (HVG.out g' h).1; have h2 := HW1.out; omega) (by have h1 := HZX.out; have h2 := HW1.out; show B ≤ wx.heap.size; omega))) (by have := HW1.out; omega) (by have := HZX.out; omega))
              have HIN9 : Hid (InnerOk w9 (w1.heap.size + 2) B (R.take (i + 1)) (putV V ri.key (.slice a8 ((F ri.key).length + ri.u.len) c8)) (fun j => if j = ri.key then F ri.key ++ R2 else F j)) := Lib.hid (HPUT.out.grown hgrow9 (fun k g hg e => by have := ((HPUT.out.own k).base g hg).1; injection e with e; omega) (fun g e => by injection e with e; have := HW1.out; omega) (by have h1 := hmd8.size; have h2 := HZX.out; have h3 := HW1.out; have h4 : wx.drew.heap.size = wx.heap.size := rfl; omega))
              have HI9 : Hid (Nm.OwnM w9 (w1.heap.size + 1) (i + 1) (D2.put (Nm.keyL ri.key) (.held (.slice a8 ((F ri.key).length + ri.u.len) c8))) ∧ InnerD (putV V ri.key (.slice a8 ((F ri.key).length + ri.u.len) c8)) (D2.put (Nm.keyL ri.key) (.held (.slice a8 ((F ri.key).length + ri.u.len) c8)))) := Lib.hid ⟨hown9, HI.out.2.put _ _⟩
              have HZ8 : Hid (wx.heap.size ≤ w8.heap.size) := Lib.hid HMD8.out.size
              have HH9 : Hid (Nm.OwnM w9 w1.heap.size (i + 1) D1 ∧ HeadsD (R.take (i + 1)) D1) := Lib.hid ⟨Nm.OwnM.same HHX.out.1 ((hgrow9.block w1.heap.size (by have h1 := HZX.out; have h2 := HZ8.out; omega) (by simp)).trans (HMD8.out.block (c := w1.heap.size) (by have := HZX.out; omega) (fun g' h => by have := ((HIN.out.own ri.key).base g' h).1; omega))), HHX.out.2⟩
              have HT9 : Hid (Nm.OwnTs w9 (w1.heap.size + 2) (Value.slice ak keys.length ck) keys) := Lib.hid (by
                refine World.ownsRow.kept (World.ownsRow.kept HTX.out HMD8.out.grown ?_) hgrow9 ?_
                · cases hk : (V ri.key).ownBlock with
                  | none =>
                    cases hk2 : ((Value.slice ak keys.length ck)).ownBlock with
                    | none => exact .inl rfl
                    | some g => exact .inr (by simp)
                  | some g => exact .inr (HAPX.out ri.key g hk)
                · cases hk2 : ((Value.slice ak keys.length ck)).ownBlock with
                  | none => exact .inl rfl
                  | some g => exact .inr (fun e => by have := (World.ownsRow.lt HTX.out g hk2).1; injection e with e; omega))
              have HAP9 : Hid (∀ k g, (putV V ri.key (.slice a8 ((F ri.key).length + ri.u.len) c8) k).ownBlock = some g → ((Value.slice ak keys.length ck)).ownBlock ≠ some g) := Lib.hid fun k g hg e => by
                by_cases hk : k = ri.key
                · subst hk
                  simp only [putV, if_true] at hg
                  rcases HMD8.out.own g hg with h | h
                  · exact HAPX.out _ g h e
                  · have := (World.ownsRow.lt HTX.out g e).2; omega
                · simp only [putV, if_neg hk] at hg
                  exact HAPX.out k g hg e
              have HB9 : Hid (Below w1.heap.size w1 w9) := Lib.hid ((HBX.out.trans (HMD8.out.to (fun g' h => by have := ((HIN.out.own ri.key).base g' h).1; omega) (by have := HZX.out; omega))).grown hgrow9 (by have h1 := HZX.out; have h2 := HZ8.out; omega) (fun k hk => by injection hk with hk; omega))
              have HZ9 : Hid (w1.heap.size + 2 ≤ w9.heap.size) := Lib.hid (by have h1 := HZX.out; have h2 := HZ8.out; have h3 := hgrow9.size; omega)
              have HNC9 : Hid (∀ y z, y ∈ L.take (i + 1) → z ∈ L.take (i + 1) → ¬ Bad y z) := Lib.hid fun y z hy hz hb => by
                rw [HLK.out] at hy hz
                rcases List.mem_append.1 hy with hy | hy <;> rcases List.mem_append.1 hz with hz | hz
                · exact hnc.out y z hy hz hb
                · simp at hz; subst hz; exact HNB.out ⟨y, hy, hb⟩
                · simp at hy; subst hy; exact HNB.out ⟨z, hz, Bad.symm _ _ hb⟩
                · simp at hy hz; subst hy; subst hz; exact Bad.irrefl _ hb
              have HM9 : Hid (Uq.firstA Bad [] L = Uq.firstA Bad (L.take (i + 1)) (L.drop (i + 1))) := Lib.hid (by rw [hm.out, HLD.out, Uq.firstA_miss HNB.out, HLK.out])
              clear hown8 hmd8 hok8 hown9 hgrow9 hrunU q0 q1 q2 q3 q4 hrunI y0 y1 y2 y3 y4
              go_wp2_with fail
              go_roundw
              case rel => exact ⟨i + 1, keys, ak, ck, D1, _, _, _, by have := HHI.out; omega, rfl, by go_num, HM9, HNC9, HKX, HKLX, HT9, HTOKX, HH9, HI9, HIN9, HAP9, HZ9.out, HB9.out⟩
              case measure => have := HHI.out; simp [intOf]; omega
          · have HE := Lib.hid (HYES.out (HBAD.out.2 (.inr fun e => q3 e.symm)))
            have t3 : (ri.f != hf_) = true := by simp [bne, q3]
            clear q3
            go_wp2_with fail
            go_ret
            exact ⟨⟨_, rfl, HE.out⟩, HWB.out⟩
        · have HE := Lib.hid (HYES.out (HBAD.out.2 (.inl fun e => q2 e.symm)))
          have t2 := toList_ne q2
          have t2b := toList_beq q2
          clear q2
          go_wp2_with fail
          go_ret
          exact ⟨⟨_, rfl, HE.out⟩, HWB.out⟩
    · obtain rfl : i = R.length := by omega
      have htl : L.take R.length = L := by rw [← HLL.out]; exact List.take_length
      have hdl : L.drop R.length = [] := by rw [← HLL.out]; exact List.drop_length
      have HC : Hid (clashN f L = firstK f (keys.drop 0)) := Lib.hid (by
        rw [clashN_none (by rw [hm.out, hdl]; rfl), List.drop_zero, hkeys.out, htl])
      have HKM : Hid (∀ t, t ∈ keys → t ∈ L.map Fd.key) := Lib.hid fun t ht => by rw [hkeys.out, htl] at ht; exact Uq.mem_uniq.1 ht
      have HKO : Hid (∀ t, t ∈ L.map Fd.key → t ∈ (opens fr s).map Fd.key) := Lib.hid fun t ht => by
        obtain ⟨x, hx, e⟩ := List.mem_map.1 ht
        exact List.mem_map.2 ⟨x, HSAME.out.mem.1 hx, e⟩
      obtain ⟨wo, hwo⟩ : ∃ wo, wo = wr := ⟨_, rfl⟩
      subst hwo
      obtain ⟨a9, c9, he, hcc, ht⟩ := HT.out.at_ HTOK.out (by have := hkl.out; omega)
      cases he
      have HTX := Lib.hid ht
      have hkl9 : (keys.length : Int) ≤ 100000000000 := by have := hkl.out; omega
      have HWO : Hid (Below w.heap.size w wo) := Lib.hid (HB1.out.trans (HB.out.mono HB1.out.size))
      clear hlt hb htl hdl ht hcc
      go_wp2_with fail
      go_loopw [77] (fun q wr => ∃ (i' : Nat), i' ≤ keys.length ∧ Hid (clashN f L = firstK f (keys.drop i')) ∧ q = .int .i64 i' ∧ Below wo.heap.size wo wr) (fun q _ => keys.length - (intOf q).toNat)
      case atStart => exact ⟨0, Nat.zero_le _, HC, rfl, Below.refl _ _⟩
      case round =>
        obtain ⟨i, hi, hm2, rfl, hbp⟩ := hrel
        have HP := Lib.hid hbp
        have HPW : Hid (Below w.heap.size w wr) := Lib.hid (HWO.out.trans (hbp.mono HWO.out.size))
        by_cases hlt : i < keys.length
        · have hli : (i : Int) < (keys.length : Int) := by omega
          obtain ⟨t, gb, go, hgt, rfl, hgA, hgB, htok, htc⟩ := HTX.out.at hlt
          rw [Nat.mul_one] at htc
          have HGT := Lib.hid hgt
          have HLT := Lib.hid hlt
          have htw := (hbp.cell (p := ⟨gb, go + i, none⟩) hgB).trans htc
          have hgw : gb < wr.heap.size := Nat.lt_of_lt_of_le hgB hbp.size
          obtain ⟨a8, c8, he, hcc, hsl8⟩ := (HIN.out.own t).sels (HIN.out.ok t) (Nat.zero_le _) (by have := HW1.out; omega) (by
            have h1 := toSels_len (F t)
            have h2 := full_len hn (subK t ((R.take R.length).map fdOf))
            have h3 := sumF_sub hn t ((R.take R.length).map fdOf)
            have h5 := HSUM.out
            rw [HIN.out.sels] at h1
            rw [List.take_length, HL.out] at h1 h2 h3; omega)
          have hts : toSels (F t) = subK t L := by rw [HIN.out.sels, List.take_length, HL.out]
          have hls : (subK t L).len = (F t).length := by rw [← hts, toSels_len]
          rw [hts] at hsl8
          have hrunI := HI.out.2.look (w := wr) (n := R.length) (b := w1.heap.size + 1) (Nm.OwnM.same HI.out.1 (hbp.block (w1.heap.size + 1) (by omega))) t htok
          rw [he] at hrunI
          have HCK : Hid (Calls Tryz.prog 38 #[.slice fa fr.length fc, .slice a8 (F t).length c8] wr fun e w' => (∃ v, e = .returned v ∧ ErrOut (f t) v) ∧ Below wr.heap.size wr w') := Lib.hid (by
            have := HRR.out t L HSAME.out HSUM.out (HKO.out t (HKM.out t (List.mem_iff_getElem?.2 ⟨i, hgt⟩))) wr wo.heap.size fa fc a8 c8 ((HF.out.below hB HPW.out).wide (Nat.le_refl _) (Nat.le_trans hB HWO.out.size)) (by rw [hls]; exact hsl8.below (Nat.le_refl _) hbp) hbp.size
            rw [hls] at this
            exact this)
          clear hlt hgt htc hbp hcc hsl8 hts hls he
          go_wp2_with fail
          refine HCK.out.mono ?_
          rintro e w5 ⟨⟨v5, rfl, hout⟩, hb5⟩
          have HP5 : Hid (Below wo.heap.size wo w5) := Lib.hid (HP.out.trans (hb5.mono HP.out.size))
          have HW5 : Hid (Below w.heap.size w w5) := Lib.hid (HPW.out.trans (hb5.mono HPW.out.size))
          clear hb5 htw hrunI
          rcases hout with ⟨hfe, rfl⟩ | ⟨ep, hve, hlast, hne, h8⟩
          · have hrel := Lib.hid (hm2.out.trans (firstK_skip HGT.out hfe))
            clear hfe
            go_wp2_with fail
            go_roundw
            case rel => exact ⟨i + 1, HLT.out, hrel, by go_num, HP5.out⟩
            case measure => have := HLT.out; simp [intOf]; omega
          · have hck : clashN f L = f t := hm2.out.trans (firstK_take HGT.out hne)
            have HE : Hid (ErrOut (clashN f (opens fr s)) (.iface 160 (.agg #[.string t, v5]))) := Lib.hid (HFIN.out _ (.inr ⟨.stand t ep, by rw [hve]; rfl, by rw [hck]; exact hlast, by rw [hck]; exact hne, by rw [hck]; exact h8⟩))
            obtain ⟨T5, x5, h5⟩ : ∃ T x, ep.val = .iface T x := by cases ep <;> exact ⟨_, _, rfl⟩
            obtain rfl : v5 = .iface T5 x5 := hve.trans h5
            have y7 : ∀ w, (binOp .neq 79 (.iface T5 x5) .nilIface).run Tryz.prog w = .ok (.bool true) w := fun w => by rw [hve]; exact neNil2 ep w
            have y8 : ∀ o1 o2 w, (eqGuard .neq 79 o1 o2 (.iface T5 x5) .nilIface).run Tryz.prog w = .ok () w := fun o1 o2 w => by rw [hve]; exact neNil2G ep o1 o2 w
            clear h5
            clear hve hlast hne h8 hck
            go_wp2_with fail
            go_ret
            exact ⟨⟨_, rfl, HE.out⟩, HW5.out⟩
        · obtain rfl : i = keys.length := by omega
          have hf := Lib.hid (show clashN f L = ⟨#[]⟩ by rw [hm2.out, List.drop_length]; rfl)
          have HE : Hid (ErrOut (clashN f (opens fr s)) .nilIface) := Lib.hid (HFIN.out _ (.inl ⟨hf.out, rfl⟩))
          clear hlt hbp
          go_wp2_with fail
          go_ret
          exact ⟨⟨_, rfl, HE.out⟩, HPW.out⟩
end Go.Proofs.YtceabbbmgfeofaaGreatDoor.Selss
