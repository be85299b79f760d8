/-
  Contract: impl's addFrag lays open a Frag, but once, given what add does with its selections; of what was there nothing else is changed. Conditions: in memory.
-/
import Derived.Test.YtceabbbmgfeofaaGreatDoorRows
import Derived.Test.YtceabbbmgfeofaaGreatDoorOpenM
import Derived.Test.YtceabbbmgfeofaaGreatDoorLoopK
namespace Go.Proofs.YtceabbbmgfeofaaGreatDoor.Selss
open Go.RowKit Words Go.Maps
set_option linter.unusedVariables false
set_option maxRecDepth 100000

theorem put_block {w : World} {g : Nat} {C : Array Value} {T : TypeId} (h : w.heap[g]? = some (.cells C T (0, 0))) (i : Nat) (v : Value) : (w.setCell ⟨g, i, none⟩ v).heap[g]? = some (.cells (C.setIfInBounds i v) T (0, 0)) := heap_setCell_same w g i _ _ v h
theorem keep4o {w1 : World} {g : Nat} {v0 v1 v2 v3 : Value} {T : TypeId} (h1 : w1.heap[g]? = some (.cells #[v0, v1, v2, v3] T (0, 0))) :
    (w1.cell? ⟨g, 0, none⟩ = some v0 ∧ w1.cell? ⟨g, 1, none⟩ = some v1 ∧ w1.cell? ⟨g, 2, none⟩ = some v2 ∧ w1.cell? ⟨g, 3, none⟩ = some v3) ∧ (w1.frozen? ⟨g, 0, none⟩ = false ∧ w1.frozen? ⟨g, 1, none⟩ = false ∧ w1.frozen? ⟨g, 2, none⟩ = false ∧ w1.frozen? ⟨g, 3, none⟩ = false) := by
  simp [World.cell?, World.frozen?, h1]
/-- The fields laid open so far: four cells in block pb, the map of what was spread in block mb, the row of its own. -/
structure OpSt (w : World) (B base pb mb : Nat) (fa : Option Addr) (fl fc : Nat) (sp : List ByteArray) (R : List RowS) : Prop where
  blk : ∃ av cv, w.heap[pb]? = some (.cells #[.slice fa fl fc, .func (.func 86) #[] #[], .map (some mb), .slice av R.length cv] 154 (0, 0)) ∧ OwnSs w base (.slice av R.length cv) R
  map : ∃ D, Nm.OwnM w mb sp.length D ∧ Nm.SD sp D
  ok : ∀ r, r ∈ R → r.k = 1 ∧ RowS.ok w 0 B r
theorem OpSt.below {w w' : World} {B base pb mb : Nat} {fa : Option Addr} {fl fc : Nat} {sp : List ByteArray} {R : List RowS} (h : OpSt w B base pb mb fa fl fc sp R) (hB : B ≤ w.heap.size) (g : Below w.heap.size w w') : OpSt w' B base pb mb fa fl fc sp R := by
  obtain ⟨⟨av, cv, h1, h2⟩, ⟨D, h3, h4⟩, h5⟩ := h
  exact ⟨⟨av, cv, (g.block pb (Rw.lt_of_get h1)).trans h1, h2.below g⟩, ⟨D, Nm.OwnM.same h3 (g.block mb h3.lt), h4⟩, fun r hr => ⟨(h5 r hr).1, (h5 r hr).2.below hB g⟩⟩
def Done (fr : List FragP) (nm : ByteArray) (F : List Fd) : Prop := ∀ x, x ∈ opens fr (fragOr nm fr).sels → x ∈ F
def Inv (fr : List FragP) (n : Nat) (sp : List ByteArray) (F : List Fd) : Prop := ∀ m, m ∈ sp → rk fr m ≤ n → Done fr m F
theorem Done.same {fr : List FragP} {nm : ByteArray} {F G X : List Fd} (h : Done fr nm F) (hs : Uq.Same G (F ++ X)) : Done fr nm G := fun x hx => hs.mem.2 (List.mem_append_left _ (h x hx))
theorem inv_frag {fr : List FragP} (hn : NoLoop fr) {n : Nat} {nm : ByteArray} {sp : List ByteArray} {F : List Fd} (hr : rk fr nm ≤ n) (h : Inv fr n sp F) : ∃ n', Low fr n' (fragOr nm fr).sels ∧ Inv fr n' (nm :: sp) F := by
  cases hk : rk fr nm with
  | zero =>
    refine ⟨0, ?_, fun m hm hm2 => ?_⟩
    · rw [fragOr_none (rk_none hk)]; intro m hm; simp [Sels.spr] at hm
    · rcases List.mem_cons.1 hm with rfl | hm
      · intro x hx; rw [fragOr_none (rk_none hk), opens_nil] at hx; simp at hx
      · exact h m hm (by omega)
  | succ k =>
    refine ⟨k, Low.frag hn (by omega), fun m hm hm2 => ?_⟩
    rcases List.mem_cons.1 hm with rfl | hm
    · omega
    · exact h m hm (by omega)
/-- What add tells. -/
def AddOut (fr : List FragP) (w : World) (B lo base pb mb : Nat) (fa : Option Addr) (fc : Nat) (sp : List ByteArray) (R : List RowS) (X : List Fd) (N : Nat) (e : Ending) (w' : World) : Prop :=
  e = .returned (.tuple #[]) ∧ (∃ sp' R', OpSt w' B base pb mb fa fr.length fc sp' R' ∧ Uq.Same (R'.map fdOf) (R.map fdOf ++ X) ∧ (∀ m, m ∈ sp' → m ∈ sp ∨ Done fr m (R'.map fdOf)) ∧ (∀ m, m ∈ sp → m ∈ sp') ∧ sp'.length + sumF fr (R'.map fdOf) ≤ sp.length + sumF fr (R.map fdOf) + N) ∧ Below lo w w'
/-- Where it all lies. -/
structure Places (w : World) (B lo base pb mb : Nat) : Prop where
  h1 : B ≤ lo
  h2 : lo ≤ pb ∧ pb < base
  h3 : lo ≤ mb ∧ mb < base
  h4 : pb ≠ mb
  h5 : base ≤ w.heap.size
theorem Places.up {w w' : World} {B lo base pb mb : Nat} (h : Places w B lo base pb mb) (hz : w.heap.size ≤ w'.heap.size) : Places w' B lo base pb mb := ⟨h.h1, h.h2, h.h3, h.h4, Nat.le_trans h.h5 hz⟩
def AddOk (fr : List FragP) (s : Sels) : Prop := ∀ (w : World) (B lo base pb mb n : Nat) (fa : Option Addr) (fc : Nat) (a : Option Addr) (cap : Nat) (sp : List ByteArray) (R : List RowS), FragsAt w 0 B fa fr.length fr → SelsAt w 0 B a s.len s → Places w B lo base pb mb → OpSt w B base pb mb fa fr.length fc sp R → Low fr n s → Inv fr n sp (R.map fdOf) → sp.length + sumF fr (R.map fdOf) + full fr s ≤ 200000000000 - 10 →
  Calls Tryz.prog 87 #[.pointer (some ⟨pb, 0, none⟩), .slice a s.len cap] w fun e w' => AddOut fr w B lo base pb mb fa fc sp R (opens fr s) (full fr s) e w'

/-- What fits: all that stands in any type. -/
theorem implFits (w : World) (x : ByteArray) : Calls Tryz.prog 86 #[.string x] w fun e w' => e = .returned (.bool true) ∧ w = w' := by
  go_enter Tryz.func86, Tryz.ntmps86
  go_wp2_with fail
  go_ret
  exact ⟨by trivial, by trivial⟩
set_option maxHeartbeats 4000000 in
theorem implAddFor {fr : List FragP} {s : Sels} (hadd : AddOk fr s) (w : World) (B lo base pb mb n : Nat) (fa : Option Addr) (fc : Nat) (a : Option Addr) (cap : Nat) (sp : List ByteArray) (R : List RowS) (x : ByteArray) (hf : FragsAt w 0 B fa fr.length fr) (hs : SelsAt w 0 B a s.len s) (hp : Places w B lo base pb mb) (hst : OpSt w B base pb mb fa fr.length fc sp R) (hlow : Low fr n s) (hinv : Inv fr n sp (R.map fdOf)) (hl : sp.length + sumF fr (R.map fdOf) + full fr s ≤ 200000000000 - 10) :
    Calls Tryz.prog 139 #[.pointer (some ⟨pb, 0, none⟩), .string x, .slice a s.len cap] w fun e w' => AddOut fr w B lo base pb mb fa fc sp R (opens fr s) (full fr s) e w' := by
  have CA := Lib.hid (hadd w B lo base pb mb n fa fc a cap sp R hf hs hp hst hlow hinv hl)
  obtain ⟨⟨av, cv, hblk, _⟩, _⟩ := hst
  have ⟨⟨b0, b1, b2, b3⟩, _⟩ := keep4o hblk
  have CF := Lib.hid (fun w => implFits w x)
  clear hblk hadd hf hs hp hlow hinv hl
  go_enter Tryz.func139, Tryz.ntmps139
  go_wp2_with fail
  refine (CF.out _).mono ?_
  rintro e w1 ⟨rfl, rfl⟩
  clear CF b0 b1 b2 b3
  go_wp2_with fail
  refine CA.out.mono ?_
  rintro e w4 ⟨rfl, h4⟩
  have HFIN : Hid (AddOut fr w B lo base pb mb fa fc sp R (opens fr s) (full fr s) (.returned (.tuple #[])) w4) := Lib.hid ⟨rfl, h4⟩
  clear h4 CA
  go_wp2_with fail
  first | (go_ret; exact HFIN.out) | exact bodyPost_ret (v := .tuple #[]) (by simp [results, go_sem]) rfl HFIN.out

set_option maxHeartbeats 4000000 in
theorem implAddFrag {fr : List FragP} (hn : NoLoop fr) (nm : ByteArray) (hadd : AddOk fr (fragOr nm fr).sels) (w : World) (B lo base pb mb n : Nat) (fa : Option Addr) (fc : Nat) (sp : List ByteArray) (R : List RowS) (hnm : OkS nm) (hf : FragsAt w 0 B fa fr.length fr) (hp : Places w B lo base pb mb) (hst : OpSt w B base pb mb fa fr.length fc sp R) (hr : rk fr nm ≤ n) (hi : Inv fr n sp (R.map fdOf)) (hl : sp.length + sumF fr (R.map fdOf) + 1 + full fr (fragOr nm fr).sels ≤ 200000000000 - 10) :
    Calls Tryz.prog 140 #[.pointer (some ⟨pb, 0, none⟩), .string nm] w fun e w' => AddOut fr w B lo base pb mb fa fc sp R (opens fr (fragOr nm fr).sels) (1 + full fr (fragOr nm fr).sels) e w' := by
  have HST := Lib.hid hst
  have HF := Lib.hid hf
  have HP := Lib.hid hp
  have HI := Lib.hid hi
  have HADD := Lib.hid hadd
  have hlo := hp.h1
  have hpb := hp.h2
  have hmb := hp.h3
  have hpm := hp.h4
  have htop := hp.h5
  obtain ⟨⟨av, cv, hblk, hown⟩, ⟨D, hmap, hsd⟩, hok⟩ := hst
  have hfl := hf.2.1
  have ⟨⟨b0, b1, b2, b3⟩, _⟩ := keep4o hblk
  have hrun := hsd.look hmap nm hnm
  obtain ⟨p, hpp⟩ : ∃ p, Nm.inN nm sp = p := ⟨_, rfl⟩
  have HPP := Lib.hid hpp
  rw [hpp] at hrun
  have HOWN := Lib.hid hown
  have HBLK := Lib.hid hblk
  have HMAP := Lib.hid hmap
  have HSD := Lib.hid hsd
  have HOK := Lib.hid hok
  have HLN := Lib.hid hl
  have HRK := Lib.hid hr
  clear hf hp hi hadd hown hblk hmap hsd hok hpp hl hr
  cases p
  · have hkey := Nm.hkeyS nm hnm
    have hspl : sp.length < maxLen := by unfold maxLen; have := HLN.out; omega
    obtain ⟨n', hlow, hinv⟩ := inv_frag hn HRK.out HI.out
    have HLOW := Lib.hid hlow
    have HINV := Lib.hid hinv
    clear hlow hinv
    go_enter Tryz.func140, Tryz.ntmps140
    go_wp2_with (at_mapUpdate; refine wpList_mapUpdate_own _ rfl _ _ _ 98 rfl 9 4 Nm.lawS Tryz.underlying98 Nm.RV mb sp.length D rfl HMAP.out hspl _ _ _ rfl rfl hkey _ [] rfl ?_; intro w2 hown2 hgrow2; have hb2 := (hgrow2.block pb (by omega) (by simp; omega)).trans HBLK.out; have ⟨⟨d0, d1, d2, d3⟩, _⟩ := keep4o hb2)
    have HB2 : Hid (Below lo w w2) := Lib.hid ((Below.refl _ _).grown hgrow2 (by omega) (fun j hj => by cases hj; omega))
    have HBB : Hid (Below mb w w2) := Lib.hid ((Below.refl _ _).grown hgrow2 (by omega) (fun j hj => by cases hj; exact Nat.le_refl _))
    have HST2 : Hid (OpSt w2 B base pb mb fa fr.length fc (nm :: sp) R) := Lib.hid
      ⟨⟨av, cv, hb2, HOWN.out.frame fun c hc hc2 => hgrow2.block c hc2 (by simp; omega)⟩, ⟨_, hown2, HSD.out.put nm⟩, fun r hr => ⟨(HOK.out r hr).1, (HOK.out r hr).2.below hlo HB2.out⟩⟩
    have hz2 := HB2.out.size
    clear hgrow2 hown2 hrun b0 b1 b2 b3
    refine (implFragNamed w2 0 B fa fc fr nm hnm (HF.out.below hlo HB2.out) (by omega)).mono ?_
    rintro e w3 ⟨⟨fv, rfl, ⟨ya, yc, rfl, hyo, hys⟩⟩, hb3⟩
    have HYS := Lib.hid hys
    have HST3 := Lib.hid (HST2.out.below (by omega) hb3)
    have HB3 := Lib.hid (HB2.out.trans (hb3.mono (by omega)))
    have hz3 := hb3.size
    generalize (fragIn nm fr).isSome = yb at *
    have HA3 : Hid (∀ o, Below w3.heap.size w3 (w3.alloc o)) := Lib.hid fun o => (Below.refl _ _).alloc (Nat.le_refl _) o
    have CA : Hid (∀ o, Calls Tryz.prog 139 #[.pointer (some ⟨pb, 0, none⟩), .string (fragOr nm fr).on, .slice ya (fragOr nm fr).sels.len yc] (w3.alloc o) fun e w' => AddOut fr (w3.alloc o) B lo base pb mb fa fc (nm :: sp) R (opens fr (fragOr nm fr).sels) (full fr (fragOr nm fr).sels) e w') := Lib.hid fun o =>
      implAddFor HADD.out (w3.alloc o) B lo base pb mb n' fa fc ya yc (nm :: sp) R (fragOr nm fr).on ((HF.out.below hlo HB3.out).below (C := w3.heap.size) (by omega) (HA3.out o)) (HYS.out.below (C := w3.heap.size) (by omega) (HA3.out o)) (HP.out.up (by simp; omega)) (HST3.out.below (by omega) (HA3.out o)) HLOW.out HINV.out (by have := HLN.out; simp only [List.length_cons]; omega)
    clear hb3 hyo hys d0 d1 d2 d3 hb2
    go_wp2_with fail
    refine (CA.out _).mono ?_
    rintro e w4 ⟨rfl, ⟨sp4, R4, hst4, hsm4, hd4, hsub4, hl4⟩, hb4⟩
    have HFIN : Hid (AddOut fr w B lo base pb mb fa fc sp R (opens fr (fragOr nm fr).sels) (1 + full fr (fragOr nm fr).sels) (.returned (.tuple #[])) w4) := Lib.hid
      ⟨rfl, ⟨sp4, R4, hst4, hsm4, fun m hm => (hd4 m hm).elim (fun h => (List.mem_cons.1 h).elim (fun e => .inr (by subst e; exact fun x hx => hsm4.mem.2 (List.mem_append_right _ hx))) .inl) .inr, fun m hm => hsub4 m (List.mem_cons_of_mem _ hm), by simp only [List.length_cons] at hl4; omega⟩, HB3.out.trans (((HA3.out _).mono (by omega)).trans hb4)⟩
    clear hst4 hsm4 hd4 hsub4 hl4 hb4
    go_wp2_with fail
    first | (go_ret; exact HFIN.out) | exact bodyPost_ret (v := .tuple #[]) (by simp [results, go_sem]) rfl HFIN.out
  · have HFIN : Hid (AddOut fr w B lo base pb mb fa fc sp R (opens fr (fragOr nm fr).sels) (1 + full fr (fragOr nm fr).sels) (.returned (.tuple #[])) w) := Lib.hid
      ⟨rfl, ⟨sp, R, HST.out, Uq.Same.more (HI.out nm (Nm.inN_mem.1 HPP.out) HRK.out), fun m hm => .inl hm, fun m hm => hm, by omega⟩, Below.refl _ _⟩
    go_enter Tryz.func140, Tryz.ntmps140
    go_wp2_with fail
    first | (go_ret; exact HFIN.out) | exact bodyPost_ret (v := .tuple #[]) (by simp [results, go_sem]) rfl HFIN.out
end Go.Proofs.YtceabbbmgfeofaaGreatDoor.Selss
