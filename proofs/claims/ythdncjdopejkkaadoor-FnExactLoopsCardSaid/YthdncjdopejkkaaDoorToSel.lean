/-
  Contracts: laws.toSelS makes selections like those that came in, in new memory; of what was there nothing is changed. Conditions: selections in memory, no list of more than 2^20.
-/
import Derived.Test.YthdncjdopejkkaaDoorRows
import Derived.Test.YthdncjdopejkkaaDoorFragM
namespace Go.Proofs.YthdncjdopejkkaaDoor.Selss
open Go.RowKit
set_option linter.unusedVariables false
set_option maxRecDepth 100000

theorem toSel (w : World) (A B : Nat) (hB : B ≤ w.heap.size) (k : Int) (key nm : ByteArray) (f : Int) (a : Option Addr) (cap : Nat) (u : Sels) (hs : SelsAt w A B a u.len u)
    (ih : ∀ (w : World), SelsAt w A B a u.len u → B ≤ w.heap.size → Calls Tryd.prog 16 #[.slice a u.len cap] w fun e w' => (∃ a', e = .returned (.slice a' u.len u.len) ∧ SelsAt w' w.heap.size w'.heap.size a' u.len u) ∧ Below w.heap.size w w') :
    Calls Tryd.prog 33 #[.agg #[.int .i64 k, .string key, .string nm, .int .i64 f, .slice a u.len cap]] w fun e w' => (∃ a', e = .returned (.agg #[.int .i64 k, .string key, .string nm, .int .i64 f, .slice a' u.len u.len]) ∧ SelsAt w' w.heap.size w'.heap.size a' u.len u) ∧ Below w.heap.size w w' := by
  have IH := Lib.hid ih
  have HS := Lib.hid hs
  clear ih hs
  go_enter Tryd.func33, Tryd.ntmps33
  go_wp2_with fail
  have HA : ∀ o1 o2 o3, Below w.heap.size w (((w.alloc o1).alloc o2).alloc o3) := fun o1 o2 o3 => (((Below.refl _ _).alloc (Nat.le_refl _) o1).alloc (by simp) o2).alloc (by simp; omega) o3
  refine (IH.out _ (HS.out.below hB (HA _ _ _)) (Nat.le_trans hB (HA _ _ _).size)).mono ?_
  rintro e w1 ⟨⟨a', rfl, hsa⟩, hb1⟩
  have ⟨hk1, hk2⟩ := kept hb1
  have ⟨⟨d0, d1, d2, d3, d4⟩, g0, g1, g2, g3, g4⟩ := keep5 hk1
  have ⟨⟨c0, c1, c2, c3, c4⟩, f0, f1, f2, f3, f4⟩ := keep5 hk2
  have HK := Lib.hid (set5_block ((Go.Deep.blk_setCell_other w1 ⟨w.heap.size + 1 + 1, 4, none⟩ (.slice a' u.len u.len) (w.heap.size + 1) (by simp)).trans hk1) (.int .i64 k) (.string key) (.string nm) (.int .i64 f) (.slice a' u.len u.len))
  have HB1 := Lib.hid (set5_below (((HA _ _ _).trans (hb1.mono (HA _ _ _).size)).setCell (p := ⟨w.heap.size + 1 + 1, 4, none⟩) (by simp; omega) (.slice a' u.len u.len)) (g := w.heap.size + 1) (by omega) (.int .i64 k) (.string key) (.string nm) (.int .i64 f) (.slice a' u.len u.len))
  have HSA := Lib.hid (((hsa.set (g := w.heap.size + 1 + 1) (j := 4) (by simp) (.slice a' u.len u.len)).set5 (g := w.heap.size + 1) (by simp) (.int .i64 k) (.string key) (.string nm) (.int .i64 f) (.slice a' u.len u.len)).wide (HA _ _ _).size (Nat.le_refl _))
  have HZ : Hid ((set5 (w1.setCell ⟨w.heap.size + 1 + 1, 4, none⟩ (.slice a' u.len u.len)) (w.heap.size + 1) (.int .i64 k) (.string key) (.string nm) (.int .i64 f) (.slice a' u.len u.len)).heap.size = w1.heap.size) := Lib.hid (by rw [set5_size]; simp)
  clear hsa hb1 hk1 hk2
  go_wp2_with fail
  change bodyPost _ _ _ _ _ (set5 (w1.setCell ⟨w.heap.size + 1 + 1, 4, none⟩ (.slice a' u.len u.len)) (w.heap.size + 1) (.int .i64 k) (.string key) (.string nm) (.int .i64 f) (.slice a' u.len u.len))
  generalize set5 (w1.setCell ⟨w.heap.size + 1 + 1, 4, none⟩ (.slice a' u.len u.len)) (w.heap.size + 1) (.int .i64 k) (.string key) (.string nm) (.int .i64 f) (.slice a' u.len u.len) = W at *
  have ⟨⟨e0, e1, e2, e3, e4⟩, _⟩ := keep5 HK.out
  exact bodyPost_ret (v := .agg #[.int .i64 k, .string key, .string nm, .int .i64 f, .slice a' u.len u.len]) (by simp [results, Tryd.results33, go_sem, e0, e1, e2, e3, e4]) rfl ⟨⟨a', rfl, by rw [HZ.out]; exact HSA.out⟩, HB1.out⟩
theorem Lie.snoc {w : World} {A B : Nat} {k : Int} {key nm : ByteArray} {f : Int} {u r : Sels} {b : Nat} (ok : OkI k ∧ OkS key ∧ OkS nm ∧ OkI f) (hb : b < B) : ∀ (i : Nat) {s : Sels} {off : Nat}, Lie w A B (s.take i) b off → s.drop i = .cons k key nm f u r →
    w.cell? ⟨b, off + i * 5, none⟩ = some (.int .i64 k) → w.cell? ⟨b, off + i * 5 + 1, none⟩ = some (.string key) → w.cell? ⟨b, off + i * 5 + 2, none⟩ = some (.string nm) → w.cell? ⟨b, off + i * 5 + 3, none⟩ = some (.int .i64 f) →
    (∃ (a : Option Addr) (cap : Nat), w.cell? ⟨b, off + i * 5 + 4, none⟩ = some (.slice a u.len cap) ∧ SelsAt w A B a u.len u) → Lie w A B (s.take (i + 1)) b off
  | 0, s, off, h, hd, h0, h1, h2, h3, ⟨a, cap, h4, hu⟩ => by
    cases s with
    | nil => cases hd
    | cons k' key' nm' f' u' r' =>
      cases hd
      rw [Nat.zero_mul, Nat.add_zero] at h0 h1 h2 h3 h4
      exact ⟨ok, hb, h0, h1, h2, h3, ⟨a, cap, h4, hu.2⟩, trivial⟩
  | i + 1, s, off, h, hd, h0, h1, h2, h3, ⟨a, cap, h4, hu⟩ => by
    cases s with
    | nil => cases hd
    | cons k' key' nm' f' u' r' =>
      obtain ⟨g0, g1, g2, g3, g4, g5, g6, gr⟩ := h
      have e : off + (i + 1) * 5 = off + 5 + i * 5 := by omega
      rw [e] at h0 h1 h2 h3 h4
      exact ⟨g0, g1, g2, g3, g4, g5, g6, Lie.snoc ok hb i gr hd h0 h1 h2 h3 ⟨a, cap, h4, hu⟩⟩
theorem infoSel : (Tryd.prog.info? 66).map (fun i => (i.zero, i.size, i.bytes)) = some (some (.agg #[.int .i64 0, .string ⟨#[]⟩, .string ⟨#[]⟩, .int .i64 0, .slice none 0 0]), 5, 72) := by kernel_rfl
theorem make_sels (n : Nat) (h : n ≤ 1048576) : ∃ Y : Array Value, Y.size = n * 5 ∧ ∀ W : World, (Instr.makeSlice 28 (.int .i64 (n : Int)) (.int .i64 (n : Int))).run Tryd.prog W = .ok (.slice (some ⟨W.heap.size, 0, none⟩) n n) (W.alloc (.cells Y 66)) := by
  obtain ⟨i, hi, hz⟩ := Option.map_eq_some_iff.1 infoSel
  simp only [Prod.mk.injEq] at hz
  obtain ⟨hz, hs, hb⟩ := hz
  refine ⟨madeCells (Value.agg #[.int .i64 0, .string ⟨#[]⟩, .string ⟨#[]⟩, .int .i64 0, .slice none 0 0]).cells (n * 5), size_madeCells _ _, fun W => ?_⟩
  have := run_make (P := Tryd.prog) (w := W) 28 66 i _ Tryd.underlying28 hi hz .i64 .i64 (n : Int) (n : Int) (by omega) (Int.le_refl _) (by rw [hb]; omega) (by omega)
  rw [hs, Int.toNat_natCast] at this
  exact this
/-- One more lies in a row. -/
theorem Lie.step {wr w1 : World} {g i : Nat} {Y : Array Value} {T : TypeId} {s u r : Sels} {k : Int} {key nm : ByteArray} {f : Int} {a2 : Option Addr} {cap : Nat} (hg : g < wr.heap.size)
    (hl : Lie wr (g + 1) wr.heap.size (s.take i) g 0) (hi : i < s.len) (hY : Y.size = s.len * 5) (hh : w1.heap[g]? = some (.cells Y T (0, 0))) (hb : Below wr.heap.size wr w1) (hd : s.drop i = .cons k key nm f u r) (hok : OkI k ∧ OkS key ∧ OkS nm ∧ OkI f)
    (hu : SelsAt w1 (g + 1) w1.heap.size a2 u.len u) :
    ∃ Z : Array Value, Z.size = s.len * 5 ∧ (set5at w1 g (i * 5) (.int .i64 k) (.string key) (.string nm) (.int .i64 f) (.slice a2 u.len cap)).heap[g]? = some (.cells Z T (0, 0)) ∧
      Lie (set5at w1 g (i * 5) (.int .i64 k) (.string key) (.string nm) (.int .i64 f) (.slice a2 u.len cap)) (g + 1) (set5at w1 g (i * 5) (.int .i64 k) (.string key) (.string nm) (.int .i64 f) (.slice a2 u.len cap)).heap.size (s.take (i + 1)) g 0 := by
  obtain ⟨Z, hZ, hh2, z0, z1, z2, z3, z4, hz⟩ := set5at_row hh (o := i * 5) (by omega) (.int .i64 k) (.string key) (.string nm) (.int .i64 f) (.slice a2 u.len cap)
  have hu2 := hu.set5at (g := g) (o := i * 5) (Nat.lt_succ_self _) (.int .i64 k) (.string key) (.string nm) (.int .i64 f) (.slice a2 u.len cap)
  have hsz := set5at_size w1 g (i * 5) (.int .i64 k) (.string key) (.string nm) (.int .i64 f) (.slice a2 u.len cap)
  have hoth := set5at_other w1 g (i * 5) (.int .i64 k) (.string key) (.string nm) (.int .i64 f) (.slice a2 u.len cap)
  generalize set5at w1 g (i * 5) (.int .i64 k) (.string key) (.string nm) (.int .i64 f) (.slice a2 u.len cap) = W at *
  refine ⟨Z, hZ.trans hY, hh2, ?_⟩
  have hge := hb.size
  have hfr : Lie W (g + 1) W.heap.size (s.take i) g 0 := by
    refine (Lie.frame (w' := W) (fun c h1 h2 => ?_) (fun j h1 h2 => ?_) hl).wide (Nat.le_refl _) (by omega)
    · rw [hoth c (by omega)]; exact hb.block c h2
    · rw [Sels.take_len i s (by omega)] at h2
      have e1 : w1.cell? ⟨g, j, none⟩ = wr.cell? ⟨g, j, none⟩ := hb.cell (p := ⟨g, j, none⟩) hg
      rw [← e1]
      have hj : j < Y.size := by omega
      have e2 : Y[j]? = some Y[j] := Array.getElem?_eq_getElem hj
      rw [cell_of hh2 ((hz j (by omega)).trans e2), cell_of hh e2]
  refine Lie.snoc hok (by omega) i hfr hd ?_ ?_ ?_ ?_ ⟨a2, cap, ?_, ?_⟩
  · rw [Nat.zero_add]; exact cell_of hh2 z0
  · rw [Nat.zero_add]; exact cell_of hh2 z1
  · rw [Nat.zero_add]; exact cell_of hh2 z2
  · rw [Nat.zero_add]; exact cell_of hh2 z3
  · rw [Nat.zero_add]; exact cell_of hh2 z4
  · rw [hsz]; exact hu2
theorem toSelS : ∀ (n : Nat) (s : Sels), s.all < n → s.len ≤ 1048576 → s.small → ∀ (w : World) (A B : Nat) (a : Option Addr) (cap : Nat), SelsAt w A B a s.len s → B ≤ w.heap.size →
    Calls Tryd.prog 16 #[.slice a s.len cap] w fun e w' => (∃ a', e = .returned (.slice a' s.len s.len) ∧ SelsAt w' w.heap.size w'.heap.size a' s.len s) ∧ Below w.heap.size w w' := by
  intro n
  induction n with
  | zero => intro s h; omega
  | succ n ih =>
    intro s hall hlen hsmall w A B a cap hs hB
    have IH := Lib.hid ih
    have HS := Lib.hid hs
    have HM := Lib.hid hsmall
    obtain ⟨Y, hY, hmk⟩ := make_sels s.len hlen
    clear ih hs hsmall
    go_enter Tryd.func16, Tryd.ntmps16
    go_wp2_with fail
    go_loopw [4] (fun i wr => ∃ (i' : Nat) (Y : Array Value), i' ≤ s.len ∧ i = .int .i64 i' ∧ Hid (Y.size = s.len * 5) ∧ wr.heap[w.heap.size]? = some (.cells Y 66 (0, 0)) ∧ Lie wr (w.heap.size + 1) wr.heap.size (s.take i') w.heap.size 0 ∧ Below w.heap.size w wr) (fun i _ => s.len - (intOf i).toNat)
    case atStart => exact ⟨0, Y, by omega, rfl, Lib.hid hY, heap_alloc_new w _, trivial, (Below.refl _ _).alloc (Nat.le_refl _) _⟩
    case round =>
      obtain ⟨i, Y, hi, rfl, hY, hh, hl, hb⟩ := hrel
      have hg : w.heap.size < wr.heap.size := by
        rcases Nat.lt_or_ge w.heap.size wr.heap.size with h | h
        · exact h
        · rw [Array.getElem?_eq_none h] at hh; cases hh
      by_cases hlt : i < s.len
      · have hli : (i : Int) < (s.len : Int) := by omega
        obtain ⟨k, key, nm, f, u, r, b, off, a', cap', hd, rfl, hbb, hok, ⟨hc0, hc1, hc2, hc3, hc4⟩, hu⟩ := (HS.out.below (Nat.le_refl _) (hb.mono hB)).at hlt
        have hua : u.all < n := by have := Sels.all_drop hd; omega
        have hsd := Sels.small_drop i HM.out
        rw [hd] at hsd
        have HUN : Hid (∀ (w : World), SelsAt w A B a' u.len u → B ≤ w.heap.size → Calls Tryd.prog 16 #[.slice a' u.len cap'] w fun e w' => (∃ a', e = .returned (.slice a' u.len u.len) ∧ SelsAt w' w.heap.size w'.heap.size a' u.len u) ∧ Below w.heap.size w w') := Lib.hid fun w h1 h2 => IH.out u hua hsd.1 hsd.2.1 w A B a' cap' h1 h2
        have HB := Lib.hid hb
        have HL := Lib.hid hl
        have HH := Lib.hid hh
        have HD := Lib.hid hd
        have HU := Lib.hid hu
        have HOK := Lib.hid hok
        clear hlt hd hb hl hh hu hsd hok
        go_wp2_with fail
        refine (toSel _ A B (Nat.le_trans hB HB.out.size) k key nm f a' cap' u HU.out HUN.out).mono ?_
        rintro e w1 ⟨⟨a2, rfl, hsa⟩, hb1⟩
        have hh1 := (hb1.block _ hg).trans HH.out
        have hsz : i * 5 + 4 < Y.size := by rw [hY.out]; omega
        have q0 := row_cell hh1 (k := i * 5) (by omega)
        have q1 := row_cell hh1 (k := i * 5 + 1) (by omega)
        have q2 := row_cell hh1 (k := i * 5 + 2) (by omega)
        have q3 := row_cell hh1 (k := i * 5 + 3) (by omega)
        have q4 := row_cell hh1 (k := i * 5 + 4) (by omega)
        have p0 := frozen_of_row w1 w.heap.size (i * 5) _ _ hh1
        have p1 := frozen_of_row w1 w.heap.size (i * 5 + 1) _ _ hh1
        have p2 := frozen_of_row w1 w.heap.size (i * 5 + 2) _ _ hh1
        have p3 := frozen_of_row w1 w.heap.size (i * 5 + 3) _ _ hh1
        have p4 := frozen_of_row w1 w.heap.size (i * 5 + 4) _ _ hh1
        have hsa2 := hsa.wide (A' := w.heap.size + 1) hg (Nat.le_refl _)
        obtain ⟨Z, hZ, hhZ, hlZ⟩ := Lie.step (cap := u.len) hg HL.out (by omega) hY.out hh1 hb1 HD.out HOK.out hsa2
        have HBZ := Lib.hid (set5at_below (o := i * 5) (HB.out.trans (hb1.mono HB.out.size)) (Nat.le_refl _) (.int .i64 k) (.string key) (.string nm) (.int .i64 f) (.slice a2 u.len u.len))
        have HZ := Lib.hid hZ
        have HHZ := Lib.hid hhZ
        have HLZ := Lib.hid hlZ
        clear hh1 hb1 hsa hsa2 hc0 hc1 hc2 hc3 hc4 hZ hhZ hlZ
        generalize Y[i * 5] = y0 at q0
        generalize Y[i * 5 + 1] = y1 at q1
        generalize Y[i * 5 + 2] = y2 at q2
        generalize Y[i * 5 + 3] = y3 at q3
        generalize Y[i * 5 + 4] = y4 at q4
        clear hsz
        go_wp2_with fail
        go_roundw
        case rel => exact ⟨i + 1, Z, by omega, by go_num, HZ, HHZ.out, HLZ.out, HBZ.out⟩
        case measure => simp [intOf]; omega
      · obtain rfl : i = s.len := by omega
        have HB := Lib.hid hb
        have hfin : SelsAt wr w.heap.size wr.heap.size (some ⟨w.heap.size, 0, none⟩) s.len s := by
          rw [Sels.take_all] at hl
          exact ⟨rfl, by omega, .inr ⟨_, _, rfl, Nat.le_refl _, hl.wide (Nat.le_succ _) (Nat.le_refl _)⟩⟩
        have HF := Lib.hid hfin
        clear hlt hb hh hl hfin
        go_wp2_with fail
        go_ret
        exact ⟨⟨_, rfl, HF.out⟩, HB.out⟩
end Go.Proofs.YthdncjdopejkkaaDoor.Selss
