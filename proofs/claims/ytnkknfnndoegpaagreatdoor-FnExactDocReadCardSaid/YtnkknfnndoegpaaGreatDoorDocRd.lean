/-
  Contract: the program's reader of a Doc; of what was there its own place alone is changed. Conditions: as the theorem says.
-/
import Derived.Test.YtnkknfnndoegpaaGreatDoorRows
import Derived.Test.YtnkknfnndoegpaaGreatDoorFragRd
import Derived.Test.YtnkknfnndoegpaaGreatDoorOwnFrag
namespace Go.Proofs.YtnkknfnndoegpaaGreatDoor.Selss
open Go.RowKit Words Decs Splits
set_option linter.unusedVariables false
set_option maxRecDepth 100000

/-- The rows L were read off W0; V are the words behind them. -/
def GotF (L : List FragP) (W0 V : List Tok) : Prop := (∀ X, ReadsFrags X V ↔ ReadsFrags (L ++ X) W0) ∧ (∀ s, ReadsFrags s W0 → ∃ X, s = L ++ X)
theorem gotF_start (W0 : List Tok) : GotF [] W0 W0 := ⟨fun _ => Iff.rfl, fun s _ => ⟨s, rfl⟩⟩
theorem gotF_more {L : List FragP} {W0 V V1 : List Tok} {x : FragP} (h : GotF L W0 V) (h1 : ReadsFrag x V V1) : GotF (L ++ [x]) W0 V1 := by
  have hne : V ≠ [] := fun e => by subst e; cases h1.1
  refine ⟨fun X => ?_, fun s hs => ?_⟩
  · rw [List.append_assoc, ← h.1]
    refine ⟨fun hx => ⟨V1, h1, hx⟩, ?_⟩
    rintro ⟨V2, h2, h3⟩
    obtain ⟨_, rfl⟩ := frag_one h1 h2
    exact h3
  · obtain ⟨X, rfl⟩ := h.2 s hs
    have hx := (h.1 X).2 hs
    cases X with
    | nil => exact absurd hx hne
    | cons y X =>
      obtain ⟨V2, h2, h3⟩ := hx
      obtain ⟨rfl, _⟩ := frag_one h1 h2
      exact ⟨X, by simp⟩
theorem gotF_end {L : List FragP} {W0 : List Tok} (h : GotF L W0 []) : ReadsFrags L W0 := by
  have := (h.1 []).1 rfl
  rwa [List.append_nil] at this
theorem gotF_none {L : List FragP} {W0 V : List Tok} (h : GotF L W0 V) (hne : V ≠ []) (h1 : ¬ ∃ x W1, ReadsFrag x V W1) : ¬ ∃ s, ReadsFrags s W0 := by
  rintro ⟨s, hs⟩
  obtain ⟨X, rfl⟩ := h.2 s hs
  have hx := (h.1 X).2 hs
  cases X with
  | nil => exact absurd hx hne
  | cons y X =>
    obtain ⟨V2, h2, _⟩ := hx
    exact h1 ⟨_, _, h2⟩
theorem readsDoc_none {W : List Tok} (h : ¬ ∃ s W', word W = [123] ∧ Reads s (W.drop 1) W') : ¬ ∃ d, ReadsDoc d W := fun ⟨d, W', h1, h2, _⟩ => h ⟨_, W', h1, h2⟩
theorem readsDoc_none' {W W' : List Tok} {s : Sels} (hr : Reads s (W.drop 1) W') (h : ¬ ∃ l, ReadsFrags l W') : ¬ ∃ d, ReadsDoc d W := by
  rintro ⟨d, W1, h1, h2, h3⟩
  obtain ⟨_, rfl⟩ := reads_one hr h2
  exact h ⟨_, h3⟩
def set2 (w : World) (g : Nat) (v0 v1 : Value) : World := (w.setCell ⟨g, 0, none⟩ v0).setCell ⟨g, 1, none⟩ v1
theorem set2_block {w : World} {g : Nat} {x0 x1 : Value} {T : TypeId} (h : w.heap[g]? = some (.cells #[x0, x1] T (0, 0))) (v0 v1 : Value) :
    (set2 w g v0 v1).heap[g]? = some (.cells #[v0, v1] T (0, 0)) :=
  heap_setCell_same _ g 1 _ _ _ (heap_setCell_same _ g 0 _ _ _ h)
theorem set2_below {B g : Nat} {a w : World} (h : Below B a w) (hg : B ≤ g) (v0 v1 : Value) : Below B a (set2 w g v0 v1) :=
  (h.setCell (p := ⟨g, 0, none⟩) hg v0).setCell (p := ⟨g, 1, none⟩) hg v1
theorem set2_size (w : World) (g : Nat) (v0 v1 : Value) : (set2 w g v0 v1).heap.size = w.heap.size := by simp [set2]
theorem set2_other (w : World) (g : Nat) (v0 v1 : Value) (c : Nat) (h : c ≠ g) : (set2 w g v0 v1).heap[c]? = w.heap[c]? := by
  unfold set2
  rw [Go.Deep.blk_setCell_other _ ⟨g, _, none⟩ _ c h, Go.Deep.blk_setCell_other _ ⟨g, _, none⟩ _ c h]
theorem RdI.at {w : World} {p cap k : Nat} {a : Option Addr} {W : List Tok} (h : RdI w p a cap W k) : w.cell? ⟨p, 1, none⟩ = some (.int .i64 k) ∧ w.cell? ⟨p, 0, none⟩ = some (.slice a W.length cap) ∧ w.drew.cell? ⟨p, 1, none⟩ = some (.int .i64 k) ∧ w.drew.cell? ⟨p, 0, none⟩ = some (.slice a W.length cap) :=
  ⟨cell_of h.hd rfl, cell_of h.hd rfl, cell_of (w := w.drew) h.hd rfl, cell_of (w := w.drew) h.hd rfl⟩
noncomputable def rdAt (p : Nat) (w : World) : Nat := (intOf ((w.cell? ⟨p, 1, none⟩).getD .nilIface)).toNat
theorem rdAt_of {w : World} {p cap k : Nat} {a : Option Addr} {W : List Tok} (h : RdI w p a cap W k) : rdAt p w = k := by
  unfold rdAt; rw [h.at.1]; simp [intOf]
theorem RdI.drew {w : World} {p cap k : Nat} {a : Option Addr} {W : List Tok} (h : RdI w p a cap W k) : RdI w.drew p a cap W k := ⟨h.hd, h.row, h.small, h.sizes⟩

def DocRes (w w' : World) (p : Nat) (a : Option Addr) (cap : Nat) (W : List Tok) (e : Ending) : Prop :=
  ∃ v err k', e = .returned (.tuple #[v, err]) ∧ OnlyP p w w' ∧ k' ≤ W.length ∧ RdI w' p a cap W k' ∧
    ((err = .nilIface ∧ ∃ d, DocX w' w.heap.size w'.heap.size v d ∧ ReadsDoc d W) ∨ (err = (.iface 60 (.agg #[.int .i64 3])) ∧ v = .agg #[.slice none 0 0, .slice none 0 0] ∧ ¬ ∃ d, ReadsDoc d W))

set_option maxHeartbeats 4000000 in
theorem docOk (w : World) (p cap : Nat) (a : Option Addr) (W : List Tok) (hR : RdI w p a cap W 0) (hv : Vars p w) :
    Calls Tryz.prog 24 #[.pointer (some ⟨p, 0, none⟩)] w fun e w' => DocRes w w' p a cap W e := by
  have hplt := hR.lt
  have hsm := hR.small
  have HV := Lib.hid hv
  have HA : Hid (∀ o, Below w.heap.size w (w.alloc o)) := Lib.hid fun o => (Below.refl _ _).alloc (Nat.le_refl _) o
  have HR0 : Hid (∀ o, RdI (w.alloc o) p a cap W 0) := Lib.hid fun o => hR.below hplt (HA.out o)
  have HV0 : Hid (∀ o, Vars p (w.alloc o)) := Lib.hid fun o => hv.on ((HA.out o).mono (by omega))
  clear hv hR
  go_enter Tryz.func24, Tryz.ntmps24
  go_wp2_with fail
  refine (blockOk (W.length + 1) _ p cap 0 a W (by omega) (HR0.out _) (by omega) (HV0.out _)).mono ?_
  rintro e w1 ⟨v, err, k1, rfl, ho, g1, g2, hR1, hcase⟩
  have hr := (ho.block w.heap.size (by simp) (by omega)).trans (heap_alloc_new w _)
  have OF := Lib.hid (((OnlyP.refl p w).below (Nat.le_refl _) (HA.out _)).trans ho)
  have RF := Lib.hid hR1
  have hz1 := lt_of_get hr
  rw [show ∀ o, (w.alloc o).heap.size = w.heap.size + 1 from fun o => by simp] at hcase
  clear ho hR1
  rcases hcase with ⟨rfl, s, a', cap', rfl, hsx, hwd, hreads, hlt⟩ | ⟨rfl, rfl, hno⟩
  · have HX := Lib.hid hsx
    have HRd := Lib.hid (And.intro hwd hreads)
    have hlen := hsx.2.1
    clear hsx hwd hreads
    have ⟨⟨e0, e1⟩, p0, p1⟩ := keep2 hr
    have hg0 : Hid ((w1.alloc (.cells #[.slice a' s.len cap', .slice none 0 0] 25)).heap[w1.heap.size]? = some (.cells #[.slice a' s.len cap', .slice none 0 0] 25 (0, 0))) := Lib.hid (heap_alloc_new w1 _)
    have HA1 : Hid (Below w1.heap.size w1 (w1.alloc (.cells #[.slice a' s.len cap', .slice none 0 0] 25))) := Lib.hid ((Below.refl _ _).alloc (Nat.le_refl _) _)
    have hr0 : Hid ((w1.alloc (.cells #[.slice a' s.len cap', .slice none 0 0] 25)).heap[w.heap.size]? = _) := Lib.hid ((HA1.out.block w.heap.size hz1).trans hr)
    have hsz1 : Hid ((w1.alloc (.cells #[.slice a' s.len cap', .slice none 0 0] 25)).heap.size = w1.heap.size + 1) := Lib.hid (by simp)
    have OF1 := Lib.hid (OF.out.below (by omega) HA1.out)
    have RF1 := Lib.hid (RF.out.below RF.out.lt HA1.out)
    have HX1 := Lib.hid (HX.out.below (Nat.le_refl _) HA1.out)
    clear hr
    go_wp2_with fail
    clear e0 e1 p0 p1 OF RF HX HA1
    generalize w1.alloc (.cells #[.slice a' s.len cap', .slice none 0 0] 25) = wd at *
    generalize hg : w1.heap.size = g at *
    clear hg w1
    go_loopw [] (fun wr => ∃ (L : List RowF) (kc : Nat) (v : Value), k1 + L.length ≤ kc ∧ kc ≤ W.length ∧ Hid (GotF (L.map RowF.frag) (W.drop k1) (W.drop kc)) ∧ OwnFrag wr (g + 1) v L ∧ RdI wr p a cap W kc ∧ OnlyP p w wr ∧ Hid (wr.heap[w.heap.size]? = some (.cells #[.slice none 0 0, .slice none 0 0] 25 (0, 0))) ∧ Hid (wr.heap[g]? = some (.cells #[.slice a' s.len cap', v] 25 (0, 0))) ∧ SelsX wr (w.heap.size + 1) g a' s.len s) (fun wr => W.length - rdAt p wr)
    case atStart => exact ⟨[], k1, _, by simp, g2, Lib.hid (gotF_start _), OwnFrag.none_ _ _, RF1.out, OF1.out, hr0, hg0, HX1.out⟩
    case round =>
      obtain ⟨L, kc, v, hlk, hkc, hgot, hown, hR, hO, hr, hs, hx⟩ := hrel
      have HOW := Lib.hid hown
      have HR := Lib.hid hR
      have HO := Lib.hid hO
      have HX := Lib.hid hx
      have hz := hO.size
      have hgz := lt_of_get hs.out
      have ⟨c1, c0, d1, d0⟩ := hR.at
      have hmz : Hid (rdAt p wr = kc) := Lib.hid (rdAt_of hR)
      clear hown hR hO hx hr0 hg0 OF1 RF1 HX1
      by_cases hlt2 : kc < W.length
      · have hli : (kc : Int) < (W.length : Int) := by omega
        have HNE : Hid (W.drop kc ≠ []) := Lib.hid fun e => by have := congrArg List.length e; simp at this; omega
        go_wp2_with fail
        go_region
        go_wp2_with fail
        refine (fragOk wr.drew p cap kc a W (RdI.drew HR.out) hkc ((HO.out.vars hplt HV.out).on ((Below.refl p wr).drew))).mono ?_
        rintro e w2 ⟨nm, on, a2, cap2, s2, err, kx, rfl, ho2, h1, h2, hR2, hcase⟩
        have ho2' : OnlyP p wr w2 := ((OnlyP.refl p wr).below (Nat.le_refl _) ((Below.refl wr.heap.size wr).drew)).trans ho2
        replace hr := Lib.hid ((ho2'.block w.heap.size (by omega) (by omega)).trans hr.out)
        replace hs := Lib.hid ((ho2'.block g hgz (by omega)).trans hs.out)
        have HO2 := Lib.hid (HO.out.trans ho2')
        have HR2 := Lib.hid hR2
        have HOW2 := Lib.hid (HOW.out.frame ho2'.size (fun c c1 c2 => ho2'.block c c2 (by omega)))
        have HLT : Hid (∀ g, v.ownBlock = some g → g < wr.heap.size) := Lib.hid fun g hg => (HOW.out.own.lt g hg).2
        have HX2 := Lib.hid (HX.out.block fun c x1 x2 => ho2'.block c (by omega) (by omega))
        have hz2 := ho2'.size
        have HHI : Hid (∀ q ∈ L, q.hi ≤ wr.heap.size) := Lib.hid fun q hq => (HOW.out.ok q hq).2.2.1
        rcases hcase with ⟨rfl, hsx, hok, hro, hlt3⟩ | ⟨rfl, hno⟩
        · have HSX : Hid (SelsX w2 wr.heap.size w2.heap.size a2 s2.len s2) := Lib.hid hsx
          have HOK := Lib.hid hok
          have HRO := Lib.hid hro
          clear hsx hok hro ho2 ho2' hR2
          have hb3 : Below w2.heap.size w2 ((w2.alloc (.cells #[.string nm, .string on, .slice a2 s2.len cap2] 40)).alloc (.cells #[.string nm, .string on, .slice a2 s2.len cap2] 40)) := ((Below.refl _ w2).alloc (Nat.le_refl _) _).alloc (by simp) _
          have HC3 : Hid (((w2.alloc (.cells #[.string nm, .string on, .slice a2 s2.len cap2] 40)).alloc (.cells #[.string nm, .string on, .slice a2 s2.len cap2] 40)).heap[w2.heap.size + 1]? = some (.cells (RowF.cells ⟨nm, on, a2, cap2, s2, wr.heap.size, w2.heap.size⟩).toArray 40 (0, 0))) := Lib.hid (by
            have := heap_alloc_new (w2.alloc (.cells #[.string nm, .string on, .slice a2 s2.len cap2] 40)) (.cells #[.string nm, .string on, .slice a2 s2.len cap2] 40)
            rw [show (w2.alloc (.cells #[.string nm, .string on, .slice a2 s2.len cap2] 40)).heap.size = w2.heap.size + 1 by simp] at this
            exact this)
          have HOW3 := Lib.hid (HOW2.out.frame hb3.size (fun c _ c2 => hb3.block c c2))
          have HX3 := Lib.hid (HX2.out.below (by omega) hb3)
          have HSX3 := Lib.hid (HSX.out.below (Nat.le_refl _) hb3)
          have hz3 := hb3.size
          have hL : L.length + 1 ≤ 8001 := by omega
          have HO3 := Lib.hid (HO2.out.below (Nat.le_trans hz hz2) hb3)
          have HR3 := Lib.hid (HR2.out.below HR2.out.lt hb3)
          have hr3 := Lib.hid ((hb3.block w.heap.size (by omega)).trans hr.out)
          have hs3 := Lib.hid ((hb3.block g (by omega)).trans hs.out)
          have hs2 := Lib.hid (((Below.refl w2.heap.size w2).alloc (Nat.le_refl _) (.cells #[.string nm, .string on, .slice a2 s2.len cap2] 40)).block g (by omega) |>.trans hs.out)
          have ⟨⟨e0, e1⟩, p0, p1⟩ := keep2 hs2.out
          have ⟨⟨s0, s1⟩, q0, q1⟩ := keep2 hs3.out
          have hne1 : g ≠ w2.heap.size := by omega
          clear hb3 c0 c1 d0 d1
          go_wp2_with (at_builtin; refine app_frag rfl _ _ rfl (g + 1) v L rfl HOW3.out (w2.heap.size + 1) 1 rfl ⟨nm, on, a2, cap2, s2, wr.heap.size, w2.heap.size⟩ HC3.out ⟨⟨HOK.out, HSX3.out⟩, hgz, hz3, fun g hg => .inl (HLT.out g hg)⟩ HHI.out (by omega) (by omega) ?_; intro v4 w4 hown4 hb4; obtain ⟨a4, n4, cap4, rfl⟩ : ∃ a4 n4 cap4, v4 = .slice a4 n4 cap4 := (let ⟨x, y, h⟩ := hown4.len; ⟨x, _, y, h⟩); have hs4 := (hb4.block g (by omega)).trans hs3.out; have ⟨⟨t0, t1⟩, r0, r1⟩ := keep2 hs4)
          have hoth : ∀ c, c ≠ g → (w4.setCell ⟨g, 1, none⟩ (.slice a4 n4 cap4)).heap[c]? = w4.heap[c]? := fun c hc => Go.Deep.blk_setCell_other _ ⟨g, _, none⟩ _ c hc
          have hr5 := Lib.hid ((hoth w.heap.size (by omega)).trans ((hb4.block w.heap.size (by omega)).trans hr3.out))
          have hs5 : Hid ((w4.setCell ⟨g, 1, none⟩ (.slice a4 n4 cap4)).heap[g]? = some (.cells #[.slice a' s.len cap', (.slice a4 n4 cap4)] 25 (0, 0))) := Lib.hid (heap_setCell_same w4 g 1 _ _ _ hs4)
          have hO4 := HO3.out.below (by omega) hb4
          have HO5 := Lib.hid (hO4.put (g := g) (j := 1) (by omega) (.slice a4 n4 cap4))
          have HR4 := Lib.hid (HR3.out.below (B := g + 1) (by omega) hb4)
          have HR5 := Lib.hid (Rd.put HR4.out (g := g) (j := 1) (by omega) (.slice a4 n4 cap4))
          have HOW5 := Lib.hid (hown4.frame (w' := w4.setCell ⟨g, 1, none⟩ (.slice a4 n4 cap4)) (by simp) (fun c x1 x2 => hoth c (by omega)))
          have HX5 := Lib.hid ((HX3.out.below (C := g + 1) (by omega) hb4).block fun c x1 x2 => hoth c (by omega))
          have HG5 := Lib.hid (gotF_more hgot.out HRO.out)
          have hm1 : rdAt p (w4.setCell ⟨g, 1, none⟩ (.slice a4 n4 cap4)) = kx := rdAt_of HR5.out
          go_roundw
          case rel => exact ⟨L ++ [⟨nm, on, a2, cap2, s2, wr.heap.size, w2.heap.size⟩], kx, (.slice a4 n4 cap4), by simp; omega, h2, Lib.hid (by rw [List.map_append]; exact HG5.out), HOW5.out, HR5.out, HO5.out, hr5, hs5, HX5.out⟩
          case measure => rw [hm1, hmz.out]; omega
        · have HNO := Lib.hid (gotF_none hgot.out HNE.out hno)
          have HAF := Lib.hid ((Below.refl w2.heap.size w2).alloc (Nat.le_refl _) (.cells #[.string nm, .string on, .slice a2 s2.len cap2] 40))
          have hrF := Lib.hid ((HAF.out.block w.heap.size (by omega)).trans hr.out)
          have HN : Hid (¬ ∃ d, ReadsDoc d W) := Lib.hid (readsDoc_none' HRd.out.2 HNO.out)
          have OF := Lib.hid (HO2.out.below (by omega) HAF.out)
          have RF := Lib.hid (HR2.out.below HR2.out.lt HAF.out)
          have HFX := Lib.hid (set2_block hrF.out (.slice none 0 0) (.slice none 0 0))
          have HOF := Lib.hid (OF.out.below (Nat.le_refl _) (set2_below (Below.refl _ _) (g := w.heap.size) (Nat.le_refl _) (.slice none 0 0) (.slice none 0 0)))
          have HRF := Lib.hid (RF.out.below (B := p + 1) (Nat.lt_succ_self _) (set2_below (Below.refl _ _) (g := w.heap.size) hplt (.slice none 0 0) (.slice none 0 0)))
          have ⟨⟨e0, e1⟩, p0, p1⟩ := keep2 hr.out
          have ⟨⟨s0, s1⟩, q0, q1⟩ := keep2 hrF.out
          clear hno ho2 ho2' hR2 hr hs c0 c1 d0 d1
          go_wp2_with fail
          change bodyPost _ _ _ _ _ (set2 (w2.alloc (.cells #[.string nm, .string on, .slice a2 s2.len cap2] 40)) w.heap.size (.slice none 0 0) (.slice none 0 0))
          generalize set2 (w2.alloc (.cells #[.string nm, .string on, .slice a2 s2.len cap2] 40)) w.heap.size (.slice none 0 0) (.slice none 0 0) = WF at *
          have ⟨⟨f0, f1⟩, _⟩ := keep2 HFX.out
          exact bodyPost_ret (v := .tuple #[.agg #[.slice none 0 0, .slice none 0 0], .iface 60 (.agg #[.int .i64 3])]) (by simp [results, Tryz.results24, go_sem, f0, f1]) rfl ⟨_, _, kx, rfl, HOF.out, h2, HRF.out, .inr ⟨rfl, rfl, HN.out⟩⟩
      · obtain rfl : kc = W.length := by omega
        have hli : ¬ (W.length : Int) < (W.length : Int) := by omega
        obtain ⟨a5, cap5, rfl, hcl, hfx⟩ := HOW.out.fragsX (by omega) (by omega)
        have ⟨⟨s0, s1⟩, q0, q1⟩ := keep2 (w1 := wr.drew) hs.out
        have ⟨⟨e0, e1⟩, p0, p1⟩ := keep2 (w1 := wr.drew) hr.out
        have OF := Lib.hid (HO.out.below (Nat.le_refl _) ((Below.refl w.heap.size wr).drew))
        have hrd : wr.drew.heap[w.heap.size]? = _ := hr.out
        have HFX := Lib.hid (set2_block hrd (.slice a' s.len cap') (.slice a5 L.length cap5))
        have HOF := Lib.hid (OF.out.below (Nat.le_refl _) (set2_below (Below.refl _ _) (g := w.heap.size) (Nat.le_refl _) (.slice a' s.len cap') (.slice a5 L.length cap5)))
        have HRF := Lib.hid ((RdI.drew HR.out).below (B := p + 1) (Nat.lt_succ_self _) (set2_below (Below.refl _ _) (g := w.heap.size) hplt (.slice a' s.len cap') (.slice a5 L.length cap5)))
        have HXF := Lib.hid (HX.out.block (w' := set2 wr.drew w.heap.size (.slice a' s.len cap') (.slice a5 L.length cap5)) fun c x1 x2 => set2_other wr.drew w.heap.size _ _ c (by omega))
        have HFF := Lib.hid (hfx.block (w' := set2 wr.drew w.heap.size (.slice a' s.len cap') (.slice a5 L.length cap5)) fun c x1 x2 => set2_other wr.drew w.heap.size _ _ c (by omega))
        have HSZ : Hid ((set2 wr.drew w.heap.size (.slice a' s.len cap') (.slice a5 L.length cap5)).heap.size = wr.heap.size) := Lib.hid (by rw [set2_size]; rfl)
        have HDX : Hid (DocX (set2 wr.drew w.heap.size (.slice a' s.len cap') (.slice a5 L.length cap5)) w.heap.size (set2 wr.drew w.heap.size (.slice a' s.len cap') (.slice a5 L.length cap5)).heap.size (.agg #[.slice a' s.len cap', .slice a5 L.length cap5]) ⟨s, L.map RowF.frag⟩) := Lib.hid
          ⟨a', cap', a5, cap5, g + 1, by simp, HXF.out.wide (by omega) (by omega), by rw [HSZ.out]; simpa using HFF.out, by simpa using hcl⟩
        have HRX : Hid (ReadsDoc ⟨s, L.map RowF.frag⟩ W) := Lib.hid ⟨W.drop k1, HRd.out.1, HRd.out.2, gotF_end (by have := hgot.out; rwa [List.drop_length] at this)⟩
        have hX0 : (wr.setCell ⟨w.heap.size, 0, none⟩ (.slice a' s.len cap')).drew.heap[w.heap.size]? = some (.cells #[.slice a' s.len cap', .slice none 0 0] 25 (0, 0)) := heap_setCell_same wr w.heap.size 0 _ _ _ hr.out
        have ⟨⟨x0, x1⟩, y0, y1⟩ := keep2 hX0
        clear hfx hrd hr hX0
        go_wp2_with fail
        go_region
        go_wp2_with fail
        change bodyPost _ _ _ _ _ (set2 wr.drew w.heap.size (.slice a' s.len cap') (.slice a5 L.length cap5))
        generalize set2 wr.drew w.heap.size (.slice a' s.len cap') (.slice a5 L.length cap5) = WF at *
        have ⟨⟨f0, f1⟩, _⟩ := keep2 HFX.out
        exact bodyPost_ret (v := .tuple #[.agg #[.slice a' s.len cap', .slice a5 L.length cap5], .nilIface]) (by simp [results, Tryz.results24, go_sem, f0, f1]) rfl ⟨_, _, W.length, rfl, HOF.out, Nat.le_refl _, HRF.out, .inl ⟨rfl, _, HDX.out, HRX.out⟩⟩
  · have HN := Lib.hid (readsDoc_none hno)
    have HFX := Lib.hid (set2_block hr (.slice none 0 0) (.slice none 0 0))
    have HOF := Lib.hid (OF.out.below (Nat.le_refl _) (set2_below (Below.refl _ _) (g := w.heap.size) (Nat.le_refl _) (.slice none 0 0) (.slice none 0 0)))
    have HRF := Lib.hid (RF.out.below (B := p + 1) (Nat.lt_succ_self _) (set2_below (Below.refl _ _) (g := w.heap.size) hplt (.slice none 0 0) (.slice none 0 0)))
    have ⟨⟨e0, e1⟩, p0, p1⟩ := keep2 hr
    clear hno hr
    go_wp2_with fail
    change bodyPost _ _ _ _ _ (set2 w1 w.heap.size (.slice none 0 0) (.slice none 0 0))
    generalize set2 w1 w.heap.size (.slice none 0 0) (.slice none 0 0) = WF at *
    have ⟨⟨f0, f1⟩, _⟩ := keep2 HFX.out
    exact bodyPost_ret (v := .tuple #[.agg #[.slice none 0 0, .slice none 0 0], .iface 60 (.agg #[.int .i64 3])]) (by simp [results, Tryz.results24, go_sem, f0, f1]) rfl ⟨_, _, k1, rfl, HOF.out, g2, HRF.out, .inr ⟨rfl, rfl, HN.out⟩⟩
end Go.Proofs.YtnkknfnndoegpaaGreatDoor.Selss
