/-
  Contracts: laws.heldNode, heldNodeOut, eqNodeOut: a node that was told, with its code, marked and looked at, compared; of what was there nothing is changed. How many marks a right node takes. Conditions: in memory; marks of at most 9000000.
-/
import Derived.Test.YtlncdkeooacebaaDoorRows
import Derived.Test.YtlncdkeooacebaaDoorNdH
import Derived.Test.YtlncdkeooacebaaDoorNodeE
import Derived.Test.YtlncdkeooacebaaDoorNdO
import Derived.Test.YtlncdkeooacebaaDoorJsC
namespace Go.Proofs.YtlncdkeooacebaaDoor.Rw
open Go.RowKit Decs
set_option linter.unusedVariables false
set_option maxRecDepth 100000

theorem NodeV.mono : ∀ {n k : Nat} {w : World} {A B : Nat} {v : Value} {x : NodeP}, n ≤ k → NodeV n w A B v x → NodeV k w A B v x
  | 0, _, _, _, _, _, _, _, h => h.elim
  | n + 1, 0, _, _, _, _, _, hk, _ => absurd hk (by omega)
  | n + 1, k + 1, w, A, B, v, x, hk, ⟨a, ca, c, cc, hv, hok, h2, h3, h4⟩ => ⟨a, ca, c, cc, hv, hok, h2, h3.imp fun _ _ _ g => NodeLie.mono (by omega) g, h4⟩
/-- A right node takes few marks. -/
theorem cnt_part : ∀ n d x, PartOk d x → cntN n x + 1 ≤ 3 * szN n x
  | 0, _, x, _ => by simp only [cntN, szN]; omega
  | n + 1, d, x, h => by
    obtain ⟨e, rfl, hs, hk⟩ := part_pos h
    have hkeys : x.keys.length ≤ x.kids.length := by
      rcases hs.1 with g | g | g | g
      · have := g.2.2; omega
      · have := g.2.2; omega
      · have := g.2.2; omega
      · have := g.2.2; omega
    have hsum : ∀ l : List NodeP, (∀ y ∈ l, PartOk e y) → sumOf (cntN n) l + l.length ≤ 3 * sumOf (szN n) l := by
      intro l
      induction l with
      | nil => intro _; simp [sumOf]
      | cons y l ih =>
        intro hl
        have h1 := ih fun z hz => hl z (by simp [hz])
        have h2 := cnt_part n e y (hl y (by simp))
        simp only [sumOf, List.length_cons]; omega
    have := hsum x.kids hk
    simp only [cntN, szN]; omega
theorem outJ_few {t : ByteArray} {x : NodeP} {c : Int} (h : OutJ t x c) (n : Nat) (hn : 101 ≤ n) : cntN n x ≤ 6000 := by
  obtain ⟨m, rfl⟩ : ∃ m, n = m + 1 := ⟨n - 1, by omega⟩
  have h0 : cntN (m + 1) node0 ≤ 6000 := by simp [cntN, node0, sumOf]
  rcases h with ⟨_, rfl, _⟩ | ⟨_, ⟨g1, g2, _⟩, _⟩ | ⟨_, _, rfl, _⟩
  · exact h0
  · have hs := js_same (m + 1) 101 x (fits_mono hn g1) g1
    have h3 := cnt_part (m + 1) _ x g2.2
    have h4 := g2.1
    rw [hs.2] at h3
    omega
  · exact h0
theorem outJ_code {t : ByteArray} {x : NodeP} {c : Int} (h : OutJ t x c) : OkI c := by
  unfold OkI
  rcases h with ⟨_, _, rfl⟩ | ⟨_, _, rfl⟩ | ⟨_, _, _, rfl⟩ <;> omega

set_option maxHeartbeats 2000000 in
theorem heldNode {n : Nat} (w : World) (A B : Nat) (kd : Int) (tx : ByteArray) (ks : List ByteArray) (ns : List NodeP) (a c : Option Addr) (ca cc k : Nat) (h2 : TextsAt w A B a ks.length (textsMark ks k)) (h3 : NodesAt n w A B c ns.length (mkL (mkN n) (cntN n) ns (k + ks.length))) (hB : B ≤ w.heap.size) (h1 : 1 ≤ k) (hk : k + ks.length + sumOf (cntN n) ns ≤ 9000000) :
    Calls Tryd.prog 55 #[.agg #[.int .i64 kd, .string tx, .slice a ks.length ca, .slice c ns.length cc], .int .i64 k] w fun e w' => e = .returned (.int .i64 ((k + ks.length + sumOf (cntN n) ns : Nat) : Int)) ∧ Below w.heap.size w w' := by
  have HA : Hid (∀ o, Below w.heap.size w (w.alloc o)) := Lib.hid fun o => (Below.refl _ _).alloc (Nat.le_refl _) o
  have CT : Hid (∀ w', Below w.heap.size w w' → Calls Tryd.prog 86 #[.slice a ks.length ca, .int .i64 k] w' fun e w'' => e = .returned (.int .i64 ((k + ks.length : Nat) : Int)) ∧ Below w'.heap.size w' w'') := Lib.hid fun w' g =>
    heldStringS w' A B a ks.length ca ks k (h2.below textLies hB g) (Nat.le_trans hB g.size) h1 (by omega)
  have CK : Hid (∀ w', Below w.heap.size w w' → Calls Tryd.prog 87 #[.slice c ns.length cc, .int .i64 ((k + ks.length : Nat) : Int)] w' fun e w'' => e = .returned (.int .i64 ((k + ks.length + sumOf (cntN n) ns : Nat) : Int)) ∧ Below w'.heap.size w' w'') := Lib.hid fun w' g =>
    hdAll n w' A B c cc ns (k + ks.length) (h3.below (nodeLies n) hB g) (Nat.le_trans hB g.size) (by omega) hk
  obtain ⟨K2, hK2⟩ : ∃ K2 : Int, ((k + ks.length : Nat) : Int) = K2 := ⟨_, rfl⟩
  obtain ⟨K3, hK3⟩ : ∃ K3 : Int, ((k + ks.length + sumOf (cntN n) ns : Nat) : Int) = K3 := ⟨_, rfl⟩
  rw [hK2] at CT CK
  rw [hK3] at CK ⊢
  have hk2n : (0 : Int) ≤ K2 := by omega
  have hk3n : (0 : Int) ≤ K3 := by omega
  clear h2 h3 hk hK2 hK3
  go_enter Tryd.func55, Tryd.ntmps55
  go_wp2_with fail
  refine (CT.out _ (HA.out _)).mono ?_
  rintro e w1 ⟨rfl, hb1⟩
  have HB1 := Lib.hid ((HA.out _).trans (hb1.mono (HA.out _).size))
  have HN1 := Lib.hid ((hb1.block w.heap.size (by simp)).trans (heap_alloc_new w _))
  have ⟨⟨z0, z1, z2, z3⟩, _⟩ := keep4 HN1.out
  clear hb1
  go_wp2_with fail
  refine (CK.out _ HB1.out).mono ?_
  rintro e w2 ⟨rfl, hb2⟩
  have HB2 := Lib.hid (HB1.out.trans (hb2.mono HB1.out.size))
  clear hb2 z0 z1 z2 z3
  go_wp2_with fail
  go_ret
  exact ⟨rfl, HB2.out⟩
set_option maxHeartbeats 2000000 in
theorem heldNodeOut {n : Nat} (w : World) (A B : Nat) (kd code : Int) (tx : ByteArray) (ks : List ByteArray) (ns : List NodeP) (a c : Option Addr) (ca cc k : Nat) (h2 : TextsAt w A B a ks.length (textsMark ks k)) (h3 : NodesAt n w A B c ns.length (mkL (mkN n) (cntN n) ns (k + ks.length))) (hB : B ≤ w.heap.size) (h1 : 1 ≤ k) (hk : k + ks.length + sumOf (cntN n) ns ≤ 9000000) :
    Calls Tryd.prog 29 #[.agg #[.int .i64 kd, .string tx, .slice a ks.length ca, .slice c ns.length cc, .int .i64 code], .int .i64 k] w fun e w' => e = .returned (.int .i64 ((k + ks.length + sumOf (cntN n) ns : Nat) : Int)) ∧ Below w.heap.size w w' := by
  have HA : Hid (∀ o, Below w.heap.size w (w.alloc o)) := Lib.hid fun o => (Below.refl _ _).alloc (Nat.le_refl _) o
  have C : Hid (∀ o, Calls Tryd.prog 55 #[.agg #[.int .i64 kd, .string tx, .slice a ks.length ca, .slice c ns.length cc], .int .i64 k] (w.alloc o) fun e w' => e = .returned (.int .i64 ((k + ks.length + sumOf (cntN n) ns : Nat) : Int)) ∧ Below (w.alloc o).heap.size (w.alloc o) w') := Lib.hid fun o =>
    heldNode _ A B kd tx ks ns a c ca cc k (h2.below textLies hB (HA.out o)) (h3.below (nodeLies n) hB (HA.out o)) (Nat.le_trans hB (HA.out o).size) h1 hk
  obtain ⟨K3, hK3⟩ : ∃ K3 : Int, ((k + ks.length + sumOf (cntN n) ns : Nat) : Int) = K3 := ⟨_, rfl⟩
  rw [hK3] at C ⊢
  have hk3n : (0 : Int) ≤ K3 := by omega
  clear h2 h3 hk hK3
  go_enter Tryd.func29, Tryd.ntmps29
  go_wp2_with fail
  refine (C.out _).mono ?_
  rintro e w1 ⟨rfl, hb1⟩
  have HB1 := Lib.hid ((HA.out _).trans (hb1.mono (HA.out _).size))
  clear hb1
  go_wp2_with fail
  go_ret
  exact ⟨rfl, HB1.out⟩
set_option maxHeartbeats 2000000 in
theorem eqNodeOut {n : Nat} (w : World) (A B : Nat) (kd code : Int) (tx : ByteArray) (ks : List ByteArray) (ns : List NodeP) (a a' c c' : Option Addr) (ca ca' cc cc' : Nat)
    (h : NodeV n w A B (.agg #[.int .i64 kd, .string tx, .slice a ks.length ca, .slice c ns.length cc]) ⟨kd, tx, ks, ns⟩) (h' : NodeV n w A B (.agg #[.int .i64 kd, .string tx, .slice a' ks.length ca', .slice c' ns.length cc']) ⟨kd, tx, ks, ns⟩) (hB : B ≤ w.heap.size) :
    Calls Tryd.prog 27 #[.agg #[.int .i64 kd, .string tx, .slice a ks.length ca, .slice c ns.length cc, .int .i64 code], .agg #[.int .i64 kd, .string tx, .slice a' ks.length ca', .slice c' ns.length cc', .int .i64 code]] w fun e w' => e = .returned (.bool true) ∧ Below w.heap.size w w' := by
  have HA : Hid (∀ o1 o2, Below w.heap.size w ((w.alloc o1).alloc o2)) := Lib.hid fun o1 o2 => ((Below.refl _ _).alloc (Nat.le_refl _) o1).alloc (by simp) o2
  have C : Hid (∀ o1 o2, Calls Tryd.prog 53 #[.agg #[.int .i64 kd, .string tx, .slice a ks.length ca, .slice c ns.length cc], .agg #[.int .i64 kd, .string tx, .slice a' ks.length ca', .slice c' ns.length cc']] ((w.alloc o1).alloc o2) fun e w' => e = .returned (.bool true) ∧ Below ((w.alloc o1).alloc o2).heap.size ((w.alloc o1).alloc o2) w') := Lib.hid fun o1 o2 =>
    eqNode _ A B _ _ ⟨kd, tx, ks, ns⟩ (h.below hB (HA.out o1 o2)) (h'.below hB (HA.out o1 o2)) (Nat.le_trans hB (HA.out o1 o2).size)
  clear h h'
  go_enter Tryd.func27, Tryd.ntmps27
  go_wp2_with fail
  refine (C.out _ _).mono ?_
  rintro e w1 ⟨rfl, hb1⟩
  have HB1 := Lib.hid ((HA.out _ _).trans (hb1.mono (HA.out _ _).size))
  have hk1 := hb1.cell (p := ⟨w.heap.size, 4, none⟩) (by simp; omega)
  have hk2 := hb1.cell (p := ⟨w.heap.size + 1, 4, none⟩) (by simp)
  simp at hk1 hk2
  clear hb1
  go_wp2_with fail
  go_ret
  exact ⟨rfl, HB1.out⟩
end Go.Proofs.YtlncdkeooacebaaDoor.Rw
