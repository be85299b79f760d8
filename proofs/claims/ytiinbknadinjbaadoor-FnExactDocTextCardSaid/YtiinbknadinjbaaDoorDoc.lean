/-
  Contracts: laws.toDoc makes a Doc like the one that came in, in new memory; laws.eqDoc says of like ones that they are; of what was there nothing is changed. Conditions: in memory, no list of more than 2^20.
-/
import Derived.Test.YtiinbknadinjbaaDoorRows
import Derived.Test.YtiinbknadinjbaaDoorToDoc
namespace Go.Proofs.YtiinbknadinjbaaDoor.Selss
open Go.RowKit
set_option linter.unusedVariables false

/-- A block of two cells. -/
theorem keep2 {w1 : World} {g : Nat} {v0 v1 : Value} {T : TypeId} (h1 : w1.heap[g]? = some (.cells #[v0, v1] T (0, 0))) :
    (w1.cell? ⟨g, 0, none⟩ = some v0 ∧ w1.cell? ⟨g, 1, none⟩ = some v1) ∧ (w1.frozen? ⟨g, 0, none⟩ = false ∧ w1.frozen? ⟨g, 1, none⟩ = false) := by
  simp [World.cell?, World.frozen?, h1]
theorem FragsAt.set {w : World} {A B len g j : Nat} {a : Option Addr} {s : List FragP} (h : FragsAt w A B a len s) (hg : g < A) (v : Value) : FragsAt (w.setCell ⟨g, j, none⟩ v) A B a len s :=
  h.block fun c hc _ => Go.Deep.blk_setCell_other _ _ _ _ (by show c ≠ g; omega)
theorem frag_small {l : List FragP} {x : FragP} (h : fragWt l ≤ 1048576) (hx : x ∈ l) : x.sels.len ≤ 1048576 ∧ x.sels.small := by
  obtain ⟨i, hi⟩ := List.mem_iff_getElem?.1 hx
  have := fragWt_mem hi
  exact ⟨by omega, Sels.small_of_wt (by omega)⟩
theorem kept1 {w w1 : World} {o1 o2 o3 : Obj} (hb : Below (((w.alloc o1).alloc o2).alloc o3).heap.size (((w.alloc o1).alloc o2).alloc o3) w1) : w1.heap[w.heap.size]? = some o1 := by
  rw [hb.block _ (by simp; omega), Go.Deep.blk_alloc_lt _ _ _ (by simp; omega), Go.Deep.blk_alloc_lt _ _ _ (by simp)]; exact Go.Deep.blk_alloc_new _ _

theorem toDoc (w : World) (A B : Nat) (v : Value) (d : DocP) (hs : DocAt w A B v d) (hB : B ≤ w.heap.size) (hwt : d.wt ≤ 1048576) :
    Calls Tryd.prog 6 #[v] w fun e w' => (∃ v', e = .returned v' ∧ DocAt w' w.heap.size w'.heap.size v' d) ∧ Below w.heap.size w w' := by
  obtain ⟨a, ca, b, cb, rfl, hd, hf, _⟩ := hs
  unfold DocP.wt at hwt
  have IH : Hid (∀ (w : World), SelsAt w A B a d.sels.len d.sels → B ≤ w.heap.size → Calls Tryd.prog 13 #[.slice a d.sels.len ca] w fun e w' => (∃ a', e = .returned (.slice a' d.sels.len d.sels.len) ∧ SelsAt w' w.heap.size w'.heap.size a' d.sels.len d.sels) ∧ Below w.heap.size w w') :=
    Lib.hid fun w h1 h2 => toSelS (d.sels.all + 1) d.sels (Nat.lt_succ_self _) (by omega) (Sels.small_of_wt (by omega)) w A B a ca h1 h2
  have IF : Hid (∀ (w : World), FragsAt w A B b d.frags.length d.frags → B ≤ w.heap.size → Calls Tryd.prog 14 #[.slice b d.frags.length cb] w fun e w' => (∃ a', e = .returned (.slice a' d.frags.length d.frags.length) ∧ FragsAt w' w.heap.size w'.heap.size a' d.frags.length d.frags) ∧ Below w.heap.size w w') :=
    Lib.hid fun w h1 h2 => toFragS w A B b d.frags.length cb d.frags h1 h2 (by omega) (fun x hx => frag_small (by omega) hx)
  have HD := Lib.hid hd
  have HF := Lib.hid hf
  clear hd hf hwt
  go_enter Tryd.func6, Tryd.ntmps6
  go_wp2_with fail
  have HA : ∀ o1 o2 o3, Below w.heap.size w (((w.alloc o1).alloc o2).alloc o3) := fun o1 o2 o3 => (((Below.refl _ _).alloc (Nat.le_refl _) o1).alloc (by simp) o2).alloc (by simp; omega) o3
  refine (IH.out _ (HD.out.below hB (HA _ _ _)) (Nat.le_trans hB (HA _ _ _).size)).mono ?_
  rintro e w1 ⟨⟨a1, rfl, hs1⟩, hb1⟩
  have hk0 := kept1 hb1
  have ⟨hk1, hk2⟩ := kept hb1
  have ⟨⟨d0, d1⟩, g0, g1⟩ := keep2 hk0
  have ⟨⟨c0, c1⟩, f0, f1⟩ := keep2 hk2
  have hw2 := ((HA _ _ _).trans (hb1.mono (HA _ _ _).size)).setCell (p := ⟨w.heap.size + 1 + 1, 0, none⟩) (by simp; omega) (.slice a1 d.sels.len d.sels.len)
  have HB1 := Lib.hid hw2
  have HS1 := Lib.hid (hs1.set (g := w.heap.size + 1 + 1) (j := 0) (by simp) (.slice a1 d.sels.len d.sels.len))
  have HK1 := Lib.hid ((Go.Deep.blk_setCell_other w1 ⟨w.heap.size + 1 + 1, 0, none⟩ (.slice a1 d.sels.len d.sels.len) (w.heap.size + 1) (by simp)).trans hk1)
  have HK2 := Lib.hid (heap_setCell_same w1 (w.heap.size + 1 + 1) 0 _ _ (.slice a1 d.sels.len d.sels.len) hk2)
  have HLT : Hid (w.heap.size + 1 + 1 + 1 ≤ (w1.setCell ⟨w.heap.size + 1 + 1, 0, none⟩ (.slice a1 d.sels.len d.sels.len)).heap.size) := Lib.hid (by have := hb1.size; simp at this ⊢; omega)
  have HSZ : Hid (w1.heap.size ≤ (w1.setCell ⟨w.heap.size + 1 + 1, 0, none⟩ (.slice a1 d.sels.len d.sels.len)).heap.size) := Lib.hid (by simp)
  clear hs1 hb1 hk0 hk1 hk2 hw2
  go_wp2_with fail
  generalize w1.setCell ⟨w.heap.size + 1 + 1, 0, none⟩ (.slice a1 d.sels.len d.sels.len) = w2 at *
  refine (IF.out _ (HF.out.below hB HB1.out) (Nat.le_trans hB HB1.out.size)).mono ?_
  rintro e w3 ⟨⟨a2, rfl, hs2⟩, hb2⟩
  have hl1 := HLT.out
  have hk1 := (hb2.block (w.heap.size + 1) (by omega)).trans HK1.out
  have hk2 := (hb2.block (w.heap.size + 1 + 1) (by omega)).trans HK2.out
  have ⟨⟨q0, q1⟩, p0, p1⟩ := keep2 hk1
  have ⟨⟨r0, r1⟩, s0, s1⟩ := keep2 (v0 := .slice a1 d.sels.len d.sels.len) (v1 := .slice none 0 0) hk2
  have hz1 := hb2.size
  have hs1 := ((HS1.out.wide (A' := w.heap.size + 1 + 1 + 1) (B' := w2.heap.size) (by simp) HSZ.out).below (Nat.le_refl _) hb2).wide (A' := w.heap.size + 1 + 1 + 1) (B' := w3.heap.size) (Nat.le_refl _) hz1
  have hs2' := hs2.wide (A' := w.heap.size + 1 + 1 + 1) (by omega) (Nat.le_refl _)
  have HS5 := Lib.hid (((hs1.set (g := w.heap.size + 1 + 1) (j := 1) (by omega) (.slice a2 d.frags.length d.frags.length)).set (g := w.heap.size + 1) (j := 0) (by omega) (.slice a1 d.sels.len d.sels.len)).set (g := w.heap.size + 1) (j := 1) (by omega) (.slice a2 d.frags.length d.frags.length))
  have HF5 := Lib.hid (((hs2'.set (g := w.heap.size + 1 + 1) (j := 1) (by omega) (.slice a2 d.frags.length d.frags.length)).set (g := w.heap.size + 1) (j := 0) (by omega) (.slice a1 d.sels.len d.sels.len)).set (g := w.heap.size + 1) (j := 1) (by omega) (.slice a2 d.frags.length d.frags.length))
  have HK5 := Lib.hid (heap_setCell_same _ (w.heap.size + 1) 1 _ _ (.slice a2 d.frags.length d.frags.length) (heap_setCell_same _ (w.heap.size + 1) 0 _ _ (.slice a1 d.sels.len d.sels.len) ((Go.Deep.blk_setCell_other w3 ⟨w.heap.size + 1 + 1, 1, none⟩ (.slice a2 d.frags.length d.frags.length) (w.heap.size + 1) (by simp)).trans hk1)))
  have HB5 := Lib.hid (((((HB1.out.trans (hb2.mono HB1.out.size)).setCell (p := ⟨w.heap.size + 1 + 1, 1, none⟩) (by simp; omega) (.slice a2 d.frags.length d.frags.length)).setCell (p := ⟨w.heap.size + 1, 0, none⟩) (by simp) (.slice a1 d.sels.len d.sels.len)).setCell (p := ⟨w.heap.size + 1, 1, none⟩) (by simp) (.slice a2 d.frags.length d.frags.length)))
  have HZ5 : Hid ((((w3.setCell ⟨w.heap.size + 1 + 1, 1, none⟩ (.slice a2 d.frags.length d.frags.length)).setCell ⟨w.heap.size + 1, 0, none⟩ (.slice a1 d.sels.len d.sels.len)).setCell ⟨w.heap.size + 1, 1, none⟩ (.slice a2 d.frags.length d.frags.length)).heap.size = w3.heap.size) := Lib.hid (by simp)
  clear hs1 hs2 hs2' hb2 hk1 hk2 HK1 HK2 HS1 hl1 hz1
  go_wp2_with fail
  generalize ((w3.setCell ⟨w.heap.size + 1 + 1, 1, none⟩ (.slice a2 d.frags.length d.frags.length)).setCell ⟨w.heap.size + 1, 0, none⟩ (.slice a1 d.sels.len d.sels.len)).setCell ⟨w.heap.size + 1, 1, none⟩ (.slice a2 d.frags.length d.frags.length) = W at *
  have ⟨⟨e0, e1⟩, _⟩ := keep2 (v0 := .slice a1 d.sels.len d.sels.len) (v1 := .slice a2 d.frags.length d.frags.length) HK5.out
  have hle : w.heap.size ≤ w.heap.size + 1 + 1 + 1 := by omega
  exact bodyPost_ret (v := .agg #[.slice a1 d.sels.len d.sels.len, .slice a2 d.frags.length d.frags.length]) (by simp [results, Tryd.results6, go_sem, e0, e1]) rfl
    ⟨⟨_, rfl, a1, d.sels.len, a2, d.frags.length, rfl, by rw [HZ5.out]; exact HS5.out.wide hle (Nat.le_refl _), by rw [HZ5.out]; exact HF5.out.wide hle (Nat.le_refl _), Nat.le_refl _⟩, HB5.out⟩

theorem eqFrag (w : World) (A B : Nat) (hB : B ≤ w.heap.size) (key nm : ByteArray) (a a' : Option Addr) (cap cap' : Nat) (u : Sels) (hs : SelsAt w A B a u.len u) (hs' : SelsAt w A B a' u.len u) :
    Calls Tryd.prog 36 #[.agg #[.string key, .string nm, .slice a u.len cap], .agg #[.string key, .string nm, .slice a' u.len cap']] w fun e w' => e = .returned (.bool true) ∧ Below w.heap.size w w' := by
  have IH : Hid (∀ (w : World), SelsAt w A B a u.len u → SelsAt w A B a' u.len u → B ≤ w.heap.size → Calls Tryd.prog 18 #[.slice a u.len cap, .slice a' u.len cap'] w fun e w' => e = .returned (.bool true) ∧ Below w.heap.size w w') :=
    Lib.hid fun w h1 h2 h3 => eqSelS (u.all + 1) u (Nat.lt_succ_self _) w A B a a' cap cap' h1 h2 h3
  have HS := Lib.hid hs
  have HS' := Lib.hid hs'
  clear hs hs'
  go_enter Tryd.func36, Tryd.ntmps36
  go_wp2_with fail
  have HA : ∀ o1 o2, Below w.heap.size w ((w.alloc o1).alloc o2) := fun o1 o2 => ((Below.refl _ _).alloc (Nat.le_refl _) o1).alloc (by simp) o2
  refine (IH.out _ (HS.out.below hB (HA _ _)) (HS'.out.below hB (HA _ _)) (Nat.le_trans hB (HA _ _).size)).mono ?_
  rintro e w1 ⟨rfl, hb1⟩
  have HB1 := Lib.hid ((HA _ _).trans (hb1.mono (HA _ _).size))
  clear hb1
  go_wp2_with fail
  go_ret
  exact ⟨rfl, HB1.out⟩
theorem FragsAt.drew {w : World} {A B len : Nat} {a : Option Addr} {s : List FragP} (h : FragsAt w A B a len s) : FragsAt w.drew A B a len s := FragsAt.block (w := w) (w' := w.drew) h (fun _ _ _ => rfl)

theorem eqFragS (w : World) (A B : Nat) (a a' : Option Addr) (len cap cap' : Nat) (l : List FragP) (hs : FragsAt w A B a len l) (hs' : FragsAt w A B a' len l) (hB : B ≤ w.heap.size) :
    Calls Tryd.prog 19 #[.slice a len cap, .slice a' len cap'] w fun e w' => e = .returned (.bool true) ∧ Below w.heap.size w w' := by
  have hlen := hs.2.1
  have HS := Lib.hid hs
  have HS' := Lib.hid hs'
  clear hs hs'
  go_enter Tryd.func19, Tryd.ntmps19
  go_wp2_with fail
  go_loopw [5] (fun i wr => ∃ i' : Nat, i' ≤ len ∧ i = .int .i64 i' ∧ Below w.heap.size w wr) (fun i _ => len - (intOf i).toNat)
  case atStart => exact ⟨0, by omega, rfl, Below.refl _ _⟩
  case round =>
    obtain ⟨i, hi, rfl, hb⟩ := hrel
    by_cases hlt : i < len
    · have hli : (i : Int) < (len : Int) := by omega
      obtain ⟨x, b, off, u1, c1, hd, rfl, hbb, hok, ⟨hc0, hc1, hc2⟩, hu⟩ := (HS.out.below (Nat.le_refl _) (hb.mono hB)).at hlt
      obtain ⟨x', b', off', u2, c2, hd', rfl, hbb', hok', ⟨hd0, hd1, hd2⟩, hu'⟩ := (HS'.out.below (Nat.le_refl _) (hb.mono hB)).at hlt
      obtain rfl : x' = x := by rw [hd] at hd'; cases hd'; rfl
      have HB := Lib.hid hb
      have HU := Lib.hid hu
      have HU' := Lib.hid hu'
      clear hlt hd hd' hb hu hu' hok hok'
      go_wp2_with fail
      go_region_with (go_at_call 36; refine (eqFrag _ A B (by first | exact Nat.le_trans hB HB.out.size | exact Nat.le_trans hB HB.out.drew.size) _ _ u1 u2 c1 c2 _ (by first | exact HU.out | exact HU.out.drew) (by first | exact HU'.out | exact HU'.out.drew)).mono ?_; rintro e w1 ⟨rfl, hb1⟩)
      all_goals
        have HB1 := Lib.hid (HB.out.drew.trans (hb1.mono HB.out.drew.size))
        clear hb1
        go_wp2_with fail
        go_roundw
        case rel => exact ⟨i + 1, by omega, by go_num, HB1.out⟩
        case measure => simp [intOf]; omega
    · obtain rfl : i = len := by omega
      have HB := Lib.hid hb
      clear hlt hb
      go_wp2_with fail
      go_ret
      exact ⟨rfl, HB.out⟩

theorem eqDoc (w : World) (A B : Nat) (v v' : Value) (d : DocP) (hs : DocAt w A B v d) (hs' : DocAt w A B v' d) (hB : B ≤ w.heap.size) :
    Calls Tryd.prog 8 #[v, v'] w fun e w' => e = .returned (.bool true) ∧ Below w.heap.size w w' := by
  obtain ⟨a, ca, b, cb, rfl, hd, hf, _⟩ := hs
  obtain ⟨a', ca', b', cb', rfl, hd', hf', _⟩ := hs'
  have IH : Hid (∀ (w : World), SelsAt w A B a d.sels.len d.sels → SelsAt w A B a' d.sels.len d.sels → B ≤ w.heap.size → Calls Tryd.prog 18 #[.slice a d.sels.len ca, .slice a' d.sels.len ca'] w fun e w' => e = .returned (.bool true) ∧ Below w.heap.size w w') :=
    Lib.hid fun w h1 h2 h3 => eqSelS (d.sels.all + 1) d.sels (Nat.lt_succ_self _) w A B a a' ca ca' h1 h2 h3
  have HD := Lib.hid hd
  have HF := Lib.hid hf
  have HD' := Lib.hid hd'
  have HF' := Lib.hid hf'
  clear hd hf hd' hf'
  go_enter Tryd.func8, Tryd.ntmps8
  go_wp2_with fail
  have HA : ∀ o1 o2, Below w.heap.size w ((w.alloc o1).alloc o2) := fun o1 o2 => ((Below.refl _ _).alloc (Nat.le_refl _) o1).alloc (by simp) o2
  refine (IH.out _ (HD.out.below hB (HA _ _)) (HD'.out.below hB (HA _ _)) (Nat.le_trans hB (HA _ _).size)).mono ?_
  rintro e w1 ⟨rfl, hb1⟩
  have HB1 := Lib.hid ((HA _ _).trans (hb1.mono (HA _ _).size))
  have hk1 := hb1.cell (p := ⟨w.heap.size, 1, none⟩) (by simp; omega)
  have hk2 := hb1.cell (p := ⟨w.heap.size + 1, 1, none⟩) (by simp)
  simp at hk1 hk2
  clear hb1
  go_wp2_with fail
  refine (eqFragS _ A B b b' _ cb cb' d.frags (HF.out.below hB HB1.out) (HF'.out.below hB HB1.out) (Nat.le_trans hB HB1.out.size)).mono ?_
  rintro e w2 ⟨rfl, hb2⟩
  have HB2 := Lib.hid (HB1.out.trans (hb2.mono HB1.out.size))
  clear hb2 hk1 hk2
  go_wp2_with fail
  go_ret
  exact ⟨rfl, HB2.out⟩

/-- What a walk knows of its own Doc parameter, behind one call more. -/
theorem kstep {w wr w' : World} {v0 v1 : Value} (hb : Below w.heap.size w wr) (hz : w.heap.size < wr.heap.size) (k0 : wr.cell? ⟨w.heap.size, 0, none⟩ = some v0) (k1 : wr.cell? ⟨w.heap.size, 1, none⟩ = some v1) (h : Below wr.heap.size wr w') :
    Below w.heap.size w w' ∧ w.heap.size < w'.heap.size ∧ w'.cell? ⟨w.heap.size, 0, none⟩ = some v0 ∧ w'.cell? ⟨w.heap.size, 1, none⟩ = some v1 :=
  ⟨hb.trans (h.mono hb.size), Nat.lt_of_lt_of_le hz h.size, (h.cell (p := ⟨w.heap.size, 0, none⟩) hz).trans k0, (h.cell (p := ⟨w.heap.size, 1, none⟩) hz).trans k1⟩
theorem kcell {wr w' : World} {g j : Nat} {v : Value} (h : Below wr.heap.size wr w') (hg : g < wr.heap.size) (k : wr.cell? ⟨g, j, none⟩ = some v) : w'.cell? ⟨g, j, none⟩ = some v := (h.cell (p := ⟨g, j, none⟩) hg).trans k
end Go.Proofs.YtiinbknadinjbaaDoor.Selss
