/-
  Contracts: laws.toFragS, laws.toDoc make Frags, a Doc like those that came in, in new memory; of what was there nothing is changed. Conditions: in memory, no list of more than 2^20.
-/
import Derived.Test.YthdncjdopejkkaaDoorRows
import Derived.Test.YthdncjdopejkkaaDoorToSel
namespace Go.Proofs.YthdncjdopejkkaaDoor.Selss
open Go.RowKit
set_option linter.unusedVariables false
set_option maxRecDepth 100000

theorem toFrag (w : World) (A B : Nat) (hB : B ≤ w.heap.size) (key nm : ByteArray) (a : Option Addr) (cap : Nat) (u : Sels) (hs : SelsAt w A B a u.len u) (hl : u.len ≤ 1048576) (hm : u.small) :
    Calls Tryd.prog 34 #[.agg #[.string key, .string nm, .slice a u.len cap]] w fun e w' => (∃ a', e = .returned (.agg #[.string key, .string nm, .slice a' u.len u.len]) ∧ SelsAt w' w.heap.size w'.heap.size a' u.len u) ∧ Below w.heap.size w w' := by
  have IH : Hid (∀ (w : World), SelsAt w A B a u.len u → B ≤ w.heap.size → Calls Tryd.prog 16 #[.slice a u.len cap] w fun e w' => (∃ a', e = .returned (.slice a' u.len u.len) ∧ SelsAt w' w.heap.size w'.heap.size a' u.len u) ∧ Below w.heap.size w w') :=
    Lib.hid fun w h1 h2 => toSelS (u.all + 1) u (Nat.lt_succ_self _) hl hm w A B a cap h1 h2
  have HS := Lib.hid hs
  clear hs hm
  go_enter Tryd.func34, Tryd.ntmps34
  go_wp2_with fail
  have HA : ∀ o1 o2 o3, Below w.heap.size w (((w.alloc o1).alloc o2).alloc o3) := fun o1 o2 o3 => (((Below.refl _ _).alloc (Nat.le_refl _) o1).alloc (by simp) o2).alloc (by simp; omega) o3
  refine (IH.out _ (HS.out.below hB (HA _ _ _)) (Nat.le_trans hB (HA _ _ _).size)).mono ?_
  rintro e w1 ⟨⟨a', rfl, hsa⟩, hb1⟩
  have ⟨hk1, hk2⟩ := kept hb1
  have ⟨⟨d0, d1, d2⟩, g0, g1, g2⟩ := keep3 hk1
  have ⟨⟨c0, c1, c2⟩, f0, f1, f2⟩ := keep3 hk2
  obtain ⟨Z, hZ, HK, z0, z1, z2, _⟩ := set3at_row (o := 0) ((Go.Deep.blk_setCell_other w1 ⟨w.heap.size + 1 + 1, 2, none⟩ (.slice a' u.len u.len) (w.heap.size + 1) (by simp)).trans hk1) (by simp) (.string key) (.string nm) (.slice a' u.len u.len)
  have HB1 := Lib.hid (set3at_below (o := 0) (((HA _ _ _).trans (hb1.mono (HA _ _ _).size)).setCell (p := ⟨w.heap.size + 1 + 1, 2, none⟩) (by simp; omega) (.slice a' u.len u.len)) (g := w.heap.size + 1) (by omega) (.string key) (.string nm) (.slice a' u.len u.len))
  have HSA := Lib.hid (((hsa.set (g := w.heap.size + 1 + 1) (j := 2) (by simp) (.slice a' u.len u.len)).block (fun c hc _ => set3at_other _ (w.heap.size + 1) 0 (.string key) (.string nm) (.slice a' u.len u.len) c (by simp at hc; omega))).wide (HA _ _ _).size (Nat.le_refl _))
  have HZ : Hid ((set3at (w1.setCell ⟨w.heap.size + 1 + 1, 2, none⟩ (.slice a' u.len u.len)) (w.heap.size + 1) 0 (.string key) (.string nm) (.slice a' u.len u.len)).heap.size = w1.heap.size) := Lib.hid (by rw [set3at_size]; simp)
  clear hsa hb1 hk1 hk2
  have HK := Lib.hid HK
  go_wp2_with fail
  change bodyPost _ _ _ _ _ (set3at (w1.setCell ⟨w.heap.size + 1 + 1, 2, none⟩ (.slice a' u.len u.len)) (w.heap.size + 1) 0 (.string key) (.string nm) (.slice a' u.len u.len))
  generalize set3at (w1.setCell ⟨w.heap.size + 1 + 1, 2, none⟩ (.slice a' u.len u.len)) (w.heap.size + 1) 0 (.string key) (.string nm) (.slice a' u.len u.len) = W at *
  have e0 := cell_of HK.out z0
  have e1 := cell_of HK.out z1
  have e2 := cell_of HK.out z2
  exact bodyPost_ret (v := .agg #[.string key, .string nm, .slice a' u.len u.len]) (by simp [results, Tryd.results34, go_sem, e0, e1, e2]) rfl ⟨⟨a', rfl, by rw [HZ.out]; exact HSA.out⟩, HB1.out⟩
theorem infoFrag : (Tryd.prog.info? 59).map (fun i => (i.zero, i.size, i.bytes)) = some (some (.agg #[.string ⟨#[]⟩, .string ⟨#[]⟩, .slice none 0 0]), 3, 56) := by kernel_rfl
theorem make_frags (n : Nat) (h : n ≤ 1048576) : ∃ Y : Array Value, Y.size = n * 3 ∧ ∀ W : World, (Instr.makeSlice 29 (.int .i64 (n : Int)) (.int .i64 (n : Int))).run Tryd.prog W = .ok (.slice (some ⟨W.heap.size, 0, none⟩) n n) (W.alloc (.cells Y 59)) := by
  obtain ⟨i, hi, hz⟩ := Option.map_eq_some_iff.1 infoFrag
  simp only [Prod.mk.injEq] at hz
  obtain ⟨hz, hs, hb⟩ := hz
  refine ⟨madeCells (Value.agg #[.string ⟨#[]⟩, .string ⟨#[]⟩, .slice none 0 0]).cells (n * 3), size_madeCells _ _, fun W => ?_⟩
  have := run_make (P := Tryd.prog) (w := W) 29 59 i _ Tryd.underlying29 hi hz .i64 .i64 (n : Int) (n : Int) (by omega) (Int.le_refl _) (by rw [hb]; omega) (by omega)
  rw [hs, Int.toNat_natCast] at this
  exact this
/-- One more Frag lies in a row. -/
theorem FragLie.step {wr w1 : World} {g i : Nat} {Y : Array Value} {T : TypeId} {l : List FragP} {x : FragP} {a2 : Option Addr} {cap : Nat} (hg : g < wr.heap.size)
    (hl : ∀ j y, j < i → l[j]? = some y → FragLie wr (g + 1) wr.heap.size g (j * 3) y) (hi : i < l.length) (hY : Y.size = l.length * 3) (hh : w1.heap[g]? = some (.cells Y T (0, 0))) (hb : Below wr.heap.size wr w1) (hd : l[i]? = some x) (hok : OkS x.name ∧ OkS x.on)
    (hu : SelsAt w1 (g + 1) w1.heap.size a2 x.sels.len x.sels) :
    ∃ Z : Array Value, Z.size = l.length * 3 ∧ (set3at w1 g (i * 3) (.string x.name) (.string x.on) (.slice a2 x.sels.len cap)).heap[g]? = some (.cells Z T (0, 0)) ∧
      ∀ j y, j < i + 1 → l[j]? = some y → FragLie (set3at w1 g (i * 3) (.string x.name) (.string x.on) (.slice a2 x.sels.len cap)) (g + 1) (set3at w1 g (i * 3) (.string x.name) (.string x.on) (.slice a2 x.sels.len cap)).heap.size g (j * 3) y := by
  obtain ⟨Z, hZ, hh2, z0, z1, z2, hz⟩ := set3at_row hh (o := i * 3) (by omega) (.string x.name) (.string x.on) (.slice a2 x.sels.len cap)
  have hsz := set3at_size w1 g (i * 3) (.string x.name) (.string x.on) (.slice a2 x.sels.len cap)
  have hoth := set3at_other w1 g (i * 3) (.string x.name) (.string x.on) (.slice a2 x.sels.len cap)
  generalize set3at w1 g (i * 3) (.string x.name) (.string x.on) (.slice a2 x.sels.len cap) = W at *
  refine ⟨Z, hZ.trans hY, hh2, fun j y hj hy => ?_⟩
  have hge := hb.size
  by_cases e : j = i
  · subst e
    obtain rfl : x = y := by rw [hd] at hy; cases hy; rfl
    refine ⟨hok.1, hok.2, cell_of hh2 z0, cell_of hh2 z1, a2, cap, cell_of hh2 z2, ?_⟩
    rw [hsz]
    exact hu.block fun c h1 _ => hoth c (by omega)
  · refine ((hl j y (by omega) hy).frame (w' := W) (fun c h1 h2 => ?_) (fun q h1 h2 => ?_)).wide (Nat.le_refl _) (by omega)
    · rw [hoth c (by omega)]; exact hb.block c h2
    · have e1 : w1.cell? ⟨g, q, none⟩ = wr.cell? ⟨g, q, none⟩ := hb.cell (p := ⟨g, q, none⟩) hg
      rw [← e1]
      have hq : q < Y.size := by omega
      have e2 : Y[q]? = some Y[q] := Array.getElem?_eq_getElem hq
      rw [cell_of hh2 ((hz q (by omega)).trans e2), cell_of hh e2]
theorem toFragS (w : World) (A B : Nat) (a : Option Addr) (len cap : Nat) (l : List FragP) (hs : FragsAt w A B a len l) (hB : B ≤ w.heap.size) (hlen : len ≤ 1048576) (hm : ∀ x ∈ l, x.sels.len ≤ 1048576 ∧ x.sels.small) :
    Calls Tryd.prog 17 #[.slice a len cap] w fun e w' => (∃ a', e = .returned (.slice a' len len) ∧ FragsAt w' w.heap.size w'.heap.size a' len l) ∧ Below w.heap.size w w' := by
  have HS := Lib.hid hs
  have HM := Lib.hid hm
  have hll := Lib.hid hs.1
  obtain ⟨Y, hY, hmk⟩ := make_frags len hlen
  clear hs hm
  go_enter Tryd.func17, Tryd.ntmps17
  go_wp2_with fail
  go_loopw [4] (fun i wr => ∃ (i' : Nat) (Y : Array Value), i' ≤ len ∧ i = .int .i64 i' ∧ Hid (Y.size = len * 3) ∧ wr.heap[w.heap.size]? = some (.cells Y 59 (0, 0)) ∧ (∀ j y, j < i' → l[j]? = some y → FragLie wr (w.heap.size + 1) wr.heap.size w.heap.size (j * 3) y) ∧ Below w.heap.size w wr) (fun i _ => len - (intOf i).toNat)
  case atStart => exact ⟨0, Y, by omega, rfl, Lib.hid hY, heap_alloc_new w _, fun j y h => by omega, (Below.refl _ _).alloc (Nat.le_refl _) _⟩
  case round =>
    obtain ⟨i, Y, hi, rfl, hY, hh, hl, hb⟩ := hrel
    have hg : w.heap.size < wr.heap.size := by
      rcases Nat.lt_or_ge w.heap.size wr.heap.size with h | h
      · exact h
      · rw [Array.getElem?_eq_none h] at hh; cases hh
    by_cases hlt : i < len
    · have hli : (i : Int) < (len : Int) := by omega
      obtain ⟨x, b, off, a', cap', hd, rfl, hbb, hok, ⟨hc0, hc1, hc2⟩, hu⟩ := (HS.out.below (Nat.le_refl _) (hb.mono hB)).at hlt
      have hxm := HM.out x (List.mem_of_getElem? hd)
      have HB := Lib.hid hb
      have HL := Lib.hid hl
      have HH := Lib.hid hh
      have HD := Lib.hid hd
      have HU := Lib.hid hu
      have HOK := Lib.hid hok
      have HXM := Lib.hid hxm
      clear hlt hd hb hl hh hu hok hxm
      go_wp2_with fail
      refine (toFrag _ A B (Nat.le_trans hB HB.out.size) x.name x.on a' cap' x.sels HU.out HXM.out.1 HXM.out.2).mono ?_
      rintro e w1 ⟨⟨a2, rfl, hsa⟩, hb1⟩
      have hh1 := (hb1.block _ hg).trans HH.out
      have hsz : i * 3 + 2 < Y.size := by rw [hY.out]; omega
      have q0 := row_cell hh1 (k := i * 3) (by omega)
      have q1 := row_cell hh1 (k := i * 3 + 1) (by omega)
      have q2 := row_cell hh1 (k := i * 3 + 2) (by omega)
      have p0 := frozen_of_row w1 w.heap.size (i * 3) _ _ hh1
      have p1 := frozen_of_row w1 w.heap.size (i * 3 + 1) _ _ hh1
      have p2 := frozen_of_row w1 w.heap.size (i * 3 + 2) _ _ hh1
      have hsa2 := hsa.wide (A' := w.heap.size + 1) hg (Nat.le_refl _)
      obtain ⟨Z, hZ, hhZ, hlZ⟩ := FragLie.step (cap := x.sels.len) hg HL.out (by rw [hll.out]; omega) (by rw [hll.out]; exact hY.out) hh1 hb1 HD.out HOK.out hsa2
      rw [hll.out] at hZ
      have HBZ := Lib.hid (set3at_below (o := i * 3) (HB.out.trans (hb1.mono HB.out.size)) (Nat.le_refl _) (.string x.name) (.string x.on) (.slice a2 x.sels.len x.sels.len))
      have HZ := Lib.hid hZ
      have HHZ := Lib.hid hhZ
      have HLZ := Lib.hid hlZ
      clear hh1 hb1 hsa hsa2 hc0 hc1 hc2 hZ hhZ hlZ
      generalize Y[i * 3] = y0 at q0
      generalize Y[i * 3 + 1] = y1 at q1
      generalize Y[i * 3 + 2] = y2 at q2
      clear hsz
      go_wp2_with fail
      go_roundw
      case rel => exact ⟨i + 1, Z, by omega, by go_num, HZ, HHZ.out, HLZ.out, HBZ.out⟩
      case measure => simp [intOf]; omega
    · obtain rfl : i = len := by omega
      have HB := Lib.hid hb
      have hfin : FragsAt wr w.heap.size wr.heap.size (some ⟨w.heap.size, 0, none⟩) i l := by
        refine ⟨hll.out, by omega, .inr ⟨_, _, rfl, Nat.le_refl _, hg, fun j x hx => ?_⟩⟩
        have hj : j < l.length := by
          rcases Nat.lt_or_ge j l.length with h | h
          · exact h
          · rw [List.getElem?_eq_none h] at hx; cases hx
        rw [Nat.zero_add]
        exact (hl j x (by rw [← hll.out]; exact hj) hx).wide (Nat.le_succ _) (Nat.le_refl _)
      have HF := Lib.hid hfin
      clear hlt hb hh hl hfin
      go_wp2_with fail
      go_ret
      exact ⟨⟨_, rfl, HF.out⟩, HB.out⟩
theorem toDoc (w : World) (A B : Nat) (v : Value) (d : DocP) (hs : DocAt w A B v d) (hB : B ≤ w.heap.size) (hwt : d.wt ≤ 1048576) :
    Calls Tryd.prog 7 #[v] w fun e w' => (∃ v', e = .returned v' ∧ DocAt w' w.heap.size w'.heap.size v' d) ∧ Below w.heap.size w w' := by
  obtain ⟨a, ca, b, cb, rfl, hd, hf, _⟩ := hs
  unfold DocP.wt at hwt
  have IH : Hid (∀ (w : World), SelsAt w A B a d.sels.len d.sels → B ≤ w.heap.size → Calls Tryd.prog 16 #[.slice a d.sels.len ca] w fun e w' => (∃ a', e = .returned (.slice a' d.sels.len d.sels.len) ∧ SelsAt w' w.heap.size w'.heap.size a' d.sels.len d.sels) ∧ Below w.heap.size w w') :=
    Lib.hid fun w h1 h2 => toSelS (d.sels.all + 1) d.sels (Nat.lt_succ_self _) (by omega) (Sels.small_of_wt (by omega)) w A B a ca h1 h2
  have IF : Hid (∀ (w : World), FragsAt w A B b d.frags.length d.frags → B ≤ w.heap.size → Calls Tryd.prog 17 #[.slice b d.frags.length cb] w fun e w' => (∃ a', e = .returned (.slice a' d.frags.length d.frags.length) ∧ FragsAt w' w.heap.size w'.heap.size a' d.frags.length d.frags) ∧ Below w.heap.size w w') :=
    Lib.hid fun w h1 h2 => toFragS w A B b d.frags.length cb d.frags h1 h2 (by omega) (fun x hx => frag_small (by omega) hx)
  have HD := Lib.hid hd
  have HF := Lib.hid hf
  clear hd hf hwt
  go_enter Tryd.func7, Tryd.ntmps7
  go_wp2_with fail
  have HA : ∀ o1 o2 o3, Below w.heap.size w (((w.alloc o1).alloc o2).alloc o3) := fun o1 o2 o3 => (((Below.refl _ _).alloc (Nat.le_refl _) o1).alloc (by simp) o2).alloc (by simp; omega) o3
  refine (IH.out _ (HD.out.below hB (HA _ _ _)) (Nat.le_trans hB (HA _ _ _).size)).mono ?_
  rintro e w1 ⟨⟨a1, rfl, hs1⟩, hb1⟩
  have hk0 := kept1 hb1
  have ⟨hk1, hk2⟩ := kept hb1
  have ⟨⟨d0, d1⟩, g0, g1⟩ := keep2 hk0
  have ⟨⟨c0, c1⟩, f0, f1⟩ := keep2 hk2
  have hw2 := ((HA _ _ _).trans (hb1.mono (HA _ _ _).size)).setCell (p := ⟨w.heap.size + 1 + 1, 0, none⟩) (by simp; omega) (.slice a1 d.sels.len d.sels.len)
  have HB1 := Lib.hid hw2
  have HS1 := Lib.hid (hs1.set (g := w.heap.size + 1 + 1) (j := 0) (by simp) (.slice a1 d.sels.len d.sels.len))
  have HK1 := Lib.hid ((Go.Deep.blk_setCell_other w1 ⟨w.heap.size + 1 + 1, 0, none⟩ (.slice a1 d.sels.len d.sels.len) (w.heap.size + 1) (by simp)).trans hk1)
  have HK2 := Lib.hid (heap_setCell_same w1 (w.heap.size + 1 + 1) 0 _ _ (.slice a1 d.sels.len d.sels.len) hk2)
  have HLT : Hid (w.heap.size + 1 + 1 + 1 ≤ (w1.setCell ⟨w.heap.size + 1 + 1, 0, none⟩ (.slice a1 d.sels.len d.sels.len)).heap.size) := Lib.hid (by have := hb1.size; simp at this ⊢; omega)
  have HSZ : Hid (w1.heap.size ≤ (w1.setCell ⟨w.heap.size + 1 + 1, 0, none⟩ (.slice a1 d.sels.len d.sels.len)).heap.size) := Lib.hid (by simp)
  clear hs1 hb1 hk0 hk1 hk2 hw2
  go_wp2_with fail
  generalize w1.setCell ⟨w.heap.size + 1 + 1, 0, none⟩ (.slice a1 d.sels.len d.sels.len) = w2 at *
  refine (IF.out _ (HF.out.below hB HB1.out) (Nat.le_trans hB HB1.out.size)).mono ?_
  rintro e w3 ⟨⟨a2, rfl, hs2⟩, hb2⟩
  have hl1 := HLT.out
  have hk1 := (hb2.block (w.heap.size + 1) (by omega)).trans HK1.out
  have hk2 := (hb2.block (w.heap.size + 1 + 1) (by omega)).trans HK2.out
  have ⟨⟨q0, q1⟩, p0, p1⟩ := keep2 hk1
  have ⟨⟨r0, r1⟩, s0, s1⟩ := keep2 (v0 := .slice a1 d.sels.len d.sels.len) (v1 := .slice none 0 0) hk2
  have hz1 := hb2.size
  have hs1 := ((HS1.out.wide (A' := w.heap.size + 1 + 1 + 1) (B' := w2.heap.size) (by simp) HSZ.out).below (Nat.le_refl _) hb2).wide (A' := w.heap.size + 1 + 1 + 1) (B' := w3.heap.size) (Nat.le_refl _) hz1
  have hs2' := hs2.wide (A' := w.heap.size + 1 + 1 + 1) (by omega) (Nat.le_refl _)
  have HS5 := Lib.hid (((hs1.set (g := w.heap.size + 1 + 1) (j := 1) (by omega) (.slice a2 d.frags.length d.frags.length)).set (g := w.heap.size + 1) (j := 0) (by omega) (.slice a1 d.sels.len d.sels.len)).set (g := w.heap.size + 1) (j := 1) (by omega) (.slice a2 d.frags.length d.frags.length))
  have HF5 := Lib.hid (((hs2'.set (g := w.heap.size + 1 + 1) (j := 1) (by omega) (.slice a2 d.frags.length d.frags.length)).set (g := w.heap.size + 1) (j := 0) (by omega) (.slice a1 d.sels.len d.sels.len)).set (g := w.heap.size + 1) (j := 1) (by omega) (.slice a2 d.frags.length d.frags.length))
  have HK5 := Lib.hid (heap_setCell_same _ (w.heap.size + 1) 1 _ _ (.slice a2 d.frags.length d.frags.length) (heap_setCell_same _ (w.heap.size + 1) 0 _ _ (.slice a1 d.sels.len d.sels.len) ((Go.Deep.blk_setCell_other w3 ⟨w.heap.size + 1 + 1, 1, none⟩ (.slice a2 d.frags.length d.frags.length) (w.heap.size + 1) (by simp)).trans hk1)))
  have HB5 := Lib.hid (((((HB1.out.trans (hb2.mono HB1.out.size)).setCell (p := ⟨w.heap.size + 1 + 1, 1, none⟩) (by simp; omega) (.slice a2 d.frags.length d.frags.length)).setCell (p := ⟨w.heap.size + 1, 0, none⟩) (by simp) (.slice a1 d.sels.len d.sels.len)).setCell (p := ⟨w.heap.size + 1, 1, none⟩) (by simp) (.slice a2 d.frags.length d.frags.length)))
  have HZ5 : Hid ((((w3.setCell ⟨w.heap.size + 1 + 1, 1, none⟩ (.slice a2 d.frags.length d.frags.length)).setCell ⟨w.heap.size + 1, 0, none⟩ (.slice a1 d.sels.len d.sels.len)).setCell ⟨w.heap.size + 1, 1, none⟩ (.slice a2 d.frags.length d.frags.length)).heap.size = w3.heap.size) := Lib.hid (by simp)
  clear hs1 hs2 hs2' hb2 hk1 hk2 HK1 HK2 HS1 hl1 hz1
  go_wp2_with fail
  generalize ((w3.setCell ⟨w.heap.size + 1 + 1, 1, none⟩ (.slice a2 d.frags.length d.frags.length)).setCell ⟨w.heap.size + 1, 0, none⟩ (.slice a1 d.sels.len d.sels.len)).setCell ⟨w.heap.size + 1, 1, none⟩ (.slice a2 d.frags.length d.frags.length) = W at *
  have ⟨⟨e0, e1⟩, _⟩ := keep2 (v0 := .slice a1 d.sels.len d.sels.len) (v1 := .slice a2 d.frags.length d.frags.length) HK5.out
  have hle : w.heap.size ≤ w.heap.size + 1 + 1 + 1 := by omega
  exact bodyPost_ret (v := .agg #[.slice a1 d.sels.len d.sels.len, .slice a2 d.frags.length d.frags.length]) (by simp [results, Tryd.results7, go_sem, e0, e1]) rfl
    ⟨⟨_, rfl, a1, d.sels.len, a2, d.frags.length, rfl, by rw [HZ5.out]; exact HS5.out.wide hle (Nat.le_refl _), by rw [HZ5.out]; exact HF5.out.wide hle (Nat.le_refl _), Nat.le_refl _⟩, HB5.out⟩
end Go.Proofs.YthdncjdopejkkaaDoor.Selss
