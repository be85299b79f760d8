/-
  Contracts: laws.markDoc, markDocOut, heldDoc, heldDocOut, eqDocOut over a Doc and what a reading tells; of what was there nothing but the marked is changed. Conditions: apart in memory, marks from 1 to 10^6.
-/
/-
  What outP tells is small; no program. Conditions: none.
-/
import Derived.Test.YtbloedfbpclcoaaGreatDoorRows
import Derived.Test.YtbloedfbpclcoaaGreatDoorMarkF
import Derived.Test.YtbloedfbpclcoaaGreatDoorEqDoc
import Derived.Test.YtbloedfbpclcoaaGreatDoorImplRead
namespace Go.Proofs.YtbloedfbpclcoaaGreatDoor.Selss
open Go.RowKit Decs Texts Bytes
set_option linter.unusedVariables false
set_option maxRecDepth 100000

def docMark (d : DocP) (k : Nat) : DocP := ⟨d.sels.mark k, fragsMark d.frags (k + 4 * d.sels.all)⟩
def docNum (d : DocP) : Nat := 4 * d.sels.all + fragsNum d.frags
theorem ret_n {a b : Nat} (h : a = b) : Ending.returned (.int .i64 ((a : Nat) : Int)) = .returned (.int .i64 ((b : Nat) : Int)) := by rw [h]

theorem markDoc (w : World) (A B : Nat) (v : Value) (d : DocP) (k : Nat) (hs : DocX w A B v d) (hB : B ≤ w.heap.size) (h1 : 1 ≤ k) (hk : k + docNum d ≤ 900000) :
    Calls Tryz.prog 70 #[v, .int .i64 k] w fun e w' => e = .returned (.int .i64 ((k + docNum d : Nat) : Int)) ∧ DocX w' A B v (docMark d k) ∧ Within A B w w' := by
  obtain ⟨a, ca, b, cb, M, rfl, hd, hf, hc⟩ := hs
  unfold docNum at hk ⊢
  have e1 := hd.2.2.1
  have e2 := hf.2.2.1
  have HD := Lib.hid hd
  have HF := Lib.hid hf
  have HA : Hid (∀ o, Below w.heap.size w (w.alloc o)) := Lib.hid fun o => (Below.refl _ _).alloc (Nat.le_refl _) o
  clear hd hf
  go_enter Tryz.func70, Tryz.ntmps70
  go_wp2_with fail
  refine (markSelS (d.sels.all + 1) d.sels (Nat.lt_succ_self _) _ A M a ca k (HD.out.below (by omega) (HA.out _)) (Nat.le_trans (by omega) (HA.out _).size) h1 (by omega)).mono ?_
  rintro e w1 ⟨rfl, hs1, hw1⟩
  have hx := hw1.block w.heap.size (by simp) (.inr (by omega))
  have k1 : w1.cell? ⟨w.heap.size, 1, none⟩ = some (.slice b d.frags.length cb) := (World.cell?_of_block (a := ⟨w.heap.size, 1, none⟩) hx).trans (by simp)
  have hz1 : w.heap.size ≤ w1.heap.size := by have := hw1.size; simp at this; omega
  have HF1 : Hid (FragsX w1 M B b d.frags.length d.frags) := Lib.hid ((HF.out.below (by omega) (HA.out _)).block (fun c c1 c2 => hw1.block c (by simp; omega) (.inr c1)))
  have HS1 := Lib.hid hs1
  have HW1 := Lib.hid ((Within.of_below (HA.out _)).trans (hw1.wide (Nat.le_refl A) e2))
  clear hs1 hw1 hx
  go_wp2_with fail
  refine (markFragS _ M B b _ cb d.frags (k + 4 * d.sels.all) HF1.out (by omega) (by omega) (by omega)).mono ?_
  rintro e w2 ⟨rfl, hs2, hw2⟩
  have HS2 : Hid (DocX w2 A B (.agg #[.slice a d.sels.len ca, .slice b d.frags.length cb]) (docMark d k)) := Lib.hid ⟨a, ca, b, cb, M, by simp only [docMark, Sels.mark_len, fragsMark_len], by
      show SelsX w2 A M a (d.sels.mark k).len (d.sels.mark k)
      rw [Sels.mark_len]
      exact HS1.out.block (fun c c1 c2 => hw2.block c (by omega) (.inl c2)), by
      show FragsX w2 M B b (fragsMark d.frags (k + 4 * d.sels.all)).length (fragsMark d.frags (k + 4 * d.sels.all))
      rw [fragsMark_len]; exact hs2, by
      show (fragsMark d.frags (k + 4 * d.sels.all)).length ≤ cb
      rw [fragsMark_len]; exact hc⟩
  have HW2 := Lib.hid (HW1.out.trans (hw2.wide e1 (Nat.le_refl B)))
  clear hs2 hw2 k1
  go_wp2_with fail
  go_ret
  exact ⟨ret_i (by push_cast; omega), HS2.out, HW2.out⟩
theorem markDocOut (w : World) (A B : Nat) (v0 v1 : Value) (d : DocP) (c : Int) (k : Nat) (hs : DocX w A B (.agg #[v0, v1]) d) (hB : B ≤ w.heap.size) (h1 : 1 ≤ k) (hk : k + docNum d ≤ 900000) :
    Calls Tryz.prog 33 #[.agg #[v0, v1, .int .i64 c], .int .i64 k] w fun e w' => e = .returned (.int .i64 ((k + docNum d : Nat) : Int)) ∧ DocX w' A B (.agg #[v0, v1]) (docMark d k) ∧ Within A B w w' := by
  have HD := Lib.hid hs
  have HA : Hid (∀ o, Below w.heap.size w (w.alloc o)) := Lib.hid fun o => (Below.refl _ _).alloc (Nat.le_refl _) o
  obtain ⟨a, ca, b, cb, M, e, _⟩ := hs
  obtain ⟨rfl, rfl⟩ : v0 = _ ∧ v1 = _ := by simpa using e
  go_enter Tryz.func33, Tryz.ntmps33
  go_wp2_with fail
  refine (markDoc _ A B _ d k (HD.out.below hB (HA.out _)) (Nat.le_trans hB (HA.out _).size) h1 hk).mono ?_
  rintro e w1 ⟨rfl, hs1, hw1⟩
  have HS1 := Lib.hid hs1
  have HW1 := Lib.hid ((Within.of_below (HA.out _)).trans hw1)
  clear hs1 hw1
  go_wp2_with fail
  go_ret
  exact ⟨rfl, HS1.out, HW1.out⟩
theorem heldDoc (w : World) (A B : Nat) (v : Value) (d : DocP) (k : Nat) (hs : DocAt w A B v (docMark d k)) (hB : B ≤ w.heap.size) (h1 : 1 ≤ k) (hk : k + docNum d ≤ 900000) :
    Calls Tryz.prog 71 #[v, .int .i64 k] w fun e w' => e = .returned (.int .i64 ((k + docNum d : Nat) : Int)) ∧ Below w.heap.size w w' := by
  obtain ⟨a, ca, b, cb, rfl, hd, hf, hc⟩ := hs
  unfold docNum at hk ⊢
  simp only [docMark, Sels.mark_len, fragsMark_len] at hd hf hc ⊢
  have HD := Lib.hid hd
  have HF := Lib.hid hf
  have HA : Hid (∀ o, Below w.heap.size w (w.alloc o)) := Lib.hid fun o => (Below.refl _ _).alloc (Nat.le_refl _) o
  clear hd hf
  go_enter Tryz.func71, Tryz.ntmps71
  go_wp2_with fail
  refine (heldSelS (d.sels.all + 1) d.sels (Nat.lt_succ_self _) _ A B a ca k (HD.out.below hB (HA.out _)) (Nat.le_trans hB (HA.out _).size) h1 (by omega)).mono ?_
  rintro e w1 ⟨rfl, hb1⟩
  obtain ⟨B1, z1, k0, k1⟩ := kstep (HA.out _) (by simp) (by simp; rfl) (by simp; rfl) hb1
  have HB1 := Lib.hid B1
  clear hb1 B1
  go_wp2_with fail
  refine (heldFragS _ A B b _ cb d.frags (k + 4 * d.sels.all) (HF.out.below hB HB1.out) (Nat.le_trans hB HB1.out.size) (by omega) (by omega)).mono ?_
  rintro e w2 ⟨rfl, hb2⟩
  have HB2 := Lib.hid (HB1.out.trans (hb2.mono HB1.out.size))
  clear hb2 k0 k1
  go_wp2_with fail
  go_ret
  exact ⟨ret_i (by push_cast; omega), HB2.out⟩
theorem heldDocOut (w : World) (A B : Nat) (v0 v1 : Value) (d : DocP) (c : Int) (k : Nat) (hs : DocAt w A B (.agg #[v0, v1]) (docMark d k)) (hB : B ≤ w.heap.size) (h1 : 1 ≤ k) (hk : k + docNum d ≤ 900000) :
    Calls Tryz.prog 34 #[.agg #[v0, v1, .int .i64 c], .int .i64 k] w fun e w' => e = .returned (.int .i64 ((k + docNum d : Nat) : Int)) ∧ Below w.heap.size w w' := by
  have HD := Lib.hid hs
  have HA : Hid (∀ o, Below w.heap.size w (w.alloc o)) := Lib.hid fun o => (Below.refl _ _).alloc (Nat.le_refl _) o
  obtain ⟨a, ca, b, cb, e, _⟩ := hs
  obtain ⟨rfl, rfl⟩ : v0 = _ ∧ v1 = _ := by simpa using e
  go_enter Tryz.func34, Tryz.ntmps34
  go_wp2_with fail
  refine (heldDoc _ A B _ d k (HD.out.below hB (HA.out _)) (Nat.le_trans hB (HA.out _).size) h1 hk).mono ?_
  rintro e w1 ⟨rfl, hb1⟩
  have HB1 := Lib.hid ((HA.out _).trans (hb1.mono (HA.out _).size))
  have hpos : 0 ≤ ((k + docNum d : Nat) : Int) := by omega
  obtain ⟨q, hq⟩ : ∃ q : Int, ((k + docNum d : Nat) : Int) = q := ⟨_, rfl⟩
  rw [hq] at hpos ⊢
  have HQ := Lib.hid hq
  clear hb1 hq
  go_wp2_with fail
  go_ret
  exact ⟨ret_i HQ.out.symm, HB1.out⟩
theorem eqDocOut (w : World) (A B : Nat) (v0 v1 u0 u1 : Value) (d : DocP) (c : Int) (hc : OkI c) (hs : DocAt w A B (.agg #[v0, v1]) d) (hs' : DocAt w A B (.agg #[u0, u1]) d) (hB : B ≤ w.heap.size) :
    Calls Tryz.prog 32 #[.agg #[v0, v1, .int .i64 c], .agg #[u0, u1, .int .i64 c]] w fun e w' => e = .returned (.bool true) ∧ Below w.heap.size w w' := by
  have HD := Lib.hid hs
  have HE := Lib.hid hs'
  have HA : Hid (∀ o1 o2, Below w.heap.size w ((w.alloc o1).alloc o2)) := Lib.hid fun o1 o2 => ((Below.refl _ _).alloc (Nat.le_refl _) o1).alloc (by simp) o2
  obtain ⟨a, ca, b, cb, e, _⟩ := hs
  obtain ⟨rfl, rfl⟩ : v0 = _ ∧ v1 = _ := by simpa using e
  obtain ⟨a', ca', b', cb', e', _⟩ := hs'
  obtain ⟨rfl, rfl⟩ : u0 = _ ∧ u1 = _ := by simpa using e'
  go_enter Tryz.func32, Tryz.ntmps32
  go_wp2_with fail
  refine (eqDoc _ A B _ _ d (HD.out.below hB (HA.out _ _)) (HE.out.below hB (HA.out _ _)) (Nat.le_trans hB (HA.out _ _).size)).mono ?_
  rintro e w1 ⟨rfl, hb1⟩
  have HB1 := Lib.hid ((HA.out _ _).trans (hb1.mono (HA.out _ _).size))
  have c1 := hb1.cell (p := ⟨w.heap.size, 2, none⟩) (by simp; omega)
  have c2 := hb1.cell (p := ⟨w.heap.size + 1, 2, none⟩) (by simp)
  simp at c1 c2
  clear hb1
  go_wp2_with fail
  go_ret
  exact ⟨rfl, HB1.out⟩
end Go.Proofs.YtbloedfbpclcoaaGreatDoor.Selss

namespace Go.Proofs.YtbloedfbpclcoaaGreatDoor.Selss
open Go.RowKit
set_option linter.unusedVariables false

theorem docX_slices {w : World} {A B : Nat} {v0 v1 : Value} {d : DocP} (h : DocX w A B (.agg #[v0, v1]) d) : ∃ a ca b cb, v0 = .slice a d.sels.len ca ∧ v1 = .slice b d.frags.length cb := by
  obtain ⟨a, ca, b, cb, M, e, _⟩ := h
  obtain ⟨rfl, rfl⟩ : v0 = _ ∧ v1 = _ := by simpa using e
  exact ⟨a, ca, b, cb, rfl, rfl⟩
theorem outP_code (t : ByteArray) : OkI (outP t).2 := by
  unfold outP OkI
  split
  · simp
  · split <;> simp
theorem fragsNum_all : ∀ l : List FragP, fragsNum l = 2 * l.length + 4 * fragAll l
  | [] => rfl
  | x :: l => by
    have := fragsNum_all l
    simp only [fragsNum, fragAll, List.length_cons, this]; omega
theorem outP_num (t : ByteArray) : 1 + docNum (outP t).1 ≤ 900000 := by
  by_cases hb : 8000 < t.size
  · rw [outP_big hb]; decide
  by_cases h : ∃ d, docB d = true ∧ docT d = t
  · obtain ⟨d, h1, h2⟩ := h
    rw [outP_is hb h1 h2]
    obtain ⟨_, hfl, hall, _, _⟩ := docB_parts h1
    have := fragsNum_all d.frags
    show 1 + docNum d ≤ 900000
    unfold docNum
    unfold DocP.all at hall
    omega
  · rw [outP_not hb h]; decide
end Go.Proofs.YtbloedfbpclcoaaGreatDoor.Selss
