/-
  Contracts: laws.markNode, markNodeOut: a node that was told, with its code, is marked; of what was there nothing else is changed. Conditions: apart in memory, marks of at most 9000000.
-/
import Derived.Test.YtlncdkeooacebaaDoorRows
import Derived.Test.YtlncdkeooacebaaDoorNdL
namespace Go.Proofs.YtlncdkeooacebaaDoor.Rw
open Go.RowKit Decs
set_option linter.unusedVariables false
set_option maxRecDepth 100000

/-- A node whose keys and kids are marked from k on. -/
def topMk (n : Nat) (x : NodeP) (k : Nat) : NodeP := ⟨x.kind, x.text, textsMark x.keys k, mkL (mkN n) (cntN n) x.kids (k + x.keys.length)⟩
set_option maxHeartbeats 2000000 in
theorem markNode {n : Nat} (w : World) (F : List Nat) (x : NodeP) (a c : Option Addr) (ca cc k : Nat) (hs : BodyF (NdF n) w F x a ca c cc) (hnd : F.Nodup) (hF : ∀ b ∈ F, b < w.heap.size) (h1 : 1 ≤ k) (hk : k + x.keys.length + sumOf (cntN n) x.kids ≤ 9000000) :
    Calls Tryd.prog 54 #[.agg #[.int .i64 x.kind, .string x.text, .slice a x.keys.length ca, .slice c x.kids.length cc], .int .i64 k] w fun e w' => e = .returned (.int .i64 ((k + x.keys.length + sumOf (cntN n) x.kids : Nat) : Int)) ∧ BodyF (NdF n) w' F (topMk n x k) a ca c cc ∧ Chg F w w' := by
  obtain ⟨hok, hka, hkc, hk1, hk2, F1, F2, rfl, htx, hrw⟩ := hs
  obtain ⟨kd, tx, ks, ns⟩ := x
  simp only at hok hka hkc hk1 hk2 htx hrw hk ⊢
  obtain ⟨hnF1, hnF2, hdF⟩ := List.nodup_append.1 hnd
  have HD12 : Hid (∀ q ∈ F2, q ∉ F1) := Lib.hid fun q hq hm => hdF q hm q hq rfl
  have HD21 : Hid (∀ q ∈ F1, q ∉ F2) := Lib.hid fun q hq hm => hdF q hq q hm rfl
  have HL1 : Hid (∀ q ∈ F1, q < w.heap.size) := Lib.hid fun q hq => hF q (List.mem_append_left _ hq)
  have HL2 : Hid (∀ q ∈ F2, q < w.heap.size) := Lib.hid fun q hq => hF q (List.mem_append_right _ hq)
  have HA : Hid (∀ o, Below w.heap.size w (w.alloc o)) := Lib.hid fun o => (Below.refl _ _).alloc (Nat.le_refl _) o
  obtain ⟨SK, hSK⟩ : ∃ SK : Nat, sumOf (cntN n) ns = SK := ⟨_, rfl⟩
  have CS : Hid (∀ w, TxF w F1 a ks → (∀ c ∈ F1, c < w.heap.size) → Calls Tryd.prog 84 #[.slice a ks.length ca, .int .i64 k] w fun e w' => e = .returned (.int .i64 ((k + ks.length : Nat) : Int)) ∧ TxF w' F1 a (textsMark ks k) ∧ Chg F1 w w') := Lib.hid fun w h2 h3 => markTxF h2 hk1 ca k h3 h1 (by omega)
  have CK : Hid (∀ w, RwF (NdF n) w F2 c ns → (∀ c ∈ F2, c < w.heap.size) → Calls Tryd.prog 85 #[.slice c ns.length cc, .int .i64 ((k + ks.length : Nat) : Int)] w fun e w' => e = .returned (.int .i64 ((k + ks.length + sumOf (cntN n) ns : Nat) : Int)) ∧ RwF (NdF n) w' F2 c (mkL (mkN n) (cntN n) ns (k + ks.length)) ∧ Chg F2 w w') := Lib.hid fun w h2 h3 => mkAll n w F2 c cc ns (k + ks.length) h2 hnF2 h3 hk2 (by omega) hk
  rw [hSK] at CK ⊢
  have HTX := Lib.hid htx
  have HRW := Lib.hid hrw
  have HKS := Lib.hid (And.intro hka (And.intro hkc (And.intro hk1 hk2)))
  have HOK := Lib.hid hok
  obtain ⟨kv, hkv⟩ : ∃ kv : Nat, k + ks.length = kv := ⟨_, rfl⟩
  have HKV := Lib.hid hkv
  rw [hkv] at CS CK ⊢
  clear htx hrw hka hkc hk1 hk2 hok hnd hF hnF1 hnF2 hdF hSK hkv hk h1
  go_enter Tryd.func54, Tryd.ntmps54
  go_wp2_with fail
  refine (CS.out _ (HTX.out.frame fun q hq => (HA.out _).block q (HL1.out q hq)) (fun q hq => Nat.lt_of_lt_of_le (HL1.out q hq) (HA.out _).size)).mono ?_
  rintro e w1 ⟨rfl, htx1, hw1⟩
  have HTX1 := Lib.hid htx1
  have HN1 := Lib.hid ((hw1.block w.heap.size (by simp) (fun hm => by have := HL1.out _ hm; omega)).trans (heap_alloc_new w _))
  have ⟨⟨z0, z1, z2, z3⟩, _⟩ := keep4 HN1.out
  have hz1 := Nat.le_trans (HA.out _).size hw1.size
  have HRW1 : Hid (RwF (NdF n) w1 F2 c ns) := Lib.hid (HRW.out.frame (fun _ _ _ _ g g1 g2 => NdF.frame g g1 g2) fun q hq => (hw1.block q (Nat.lt_of_lt_of_le (HL2.out q hq) (HA.out _).size) (HD12.out q hq)).trans ((HA.out _).block q (HL2.out q hq)))
  have HC1 : Hid (Chg (F1 ++ F2) w w1) := Lib.hid ((Chg.of_below (HA.out _)).trans (hw1.mono fun q hq => List.mem_append_left _ hq))
  clear htx1 hw1
  go_wp2_with fail
  refine (CK.out w1 HRW1.out (fun q hq => Nat.lt_of_lt_of_le (HL2.out q hq) hz1)).mono ?_
  rintro e w2 ⟨rfl, hrw2, hw2⟩
  have HC2 : Hid (Chg (F1 ++ F2) w w2) := Lib.hid (HC1.out.trans (hw2.mono fun q hq => List.mem_append_right _ hq))
  have HX2 : Hid (BodyF (NdF n) w2 (F1 ++ F2) (topMk n ⟨kd, tx, ks, ns⟩ k) a ca c cc) := Lib.hid (by
    refine ⟨HOK.out, ?_, ?_, ?_, ?_, F1, F2, rfl, HTX1.out.frame fun q hq => hw2.block q (Nat.lt_of_lt_of_le (HL1.out q hq) hz1) (HD21.out q hq), ?_⟩
    · simp only [topMk, textsMark_len]; exact HKS.out.1
    · simp only [topMk, mkL_len]; exact HKS.out.2.1
    · simp only [topMk, textsMark_len]; exact HKS.out.2.2.1
    · simp only [topMk, mkL_len]; exact HKS.out.2.2.2
    · simp only [topMk]; rw [HKV.out]; exact hrw2)
  clear hrw2 hw2 z0 z1 z2 z3
  go_wp2_with fail
  go_ret
  exact ⟨rfl, HX2.out, HC2.out⟩
set_option maxHeartbeats 2000000 in
theorem markNodeOut {n : Nat} (w : World) (F : List Nat) (x : NodeP) (a c : Option Addr) (ca cc k : Nat) (code : Int) (hs : BodyF (NdF n) w F x a ca c cc) (hnd : F.Nodup) (hF : ∀ b ∈ F, b < w.heap.size) (h1 : 1 ≤ k) (hk : k + x.keys.length + sumOf (cntN n) x.kids ≤ 9000000) :
    Calls Tryd.prog 28 #[.agg #[.int .i64 x.kind, .string x.text, .slice a x.keys.length ca, .slice c x.kids.length cc, .int .i64 code], .int .i64 k] w fun e w' => e = .returned (.int .i64 ((k + x.keys.length + sumOf (cntN n) x.kids : Nat) : Int)) ∧ BodyF (NdF n) w' F (topMk n x k) a ca c cc ∧ Chg F w w' := by
  have HA : Hid (∀ o, Below w.heap.size w (w.alloc o)) := Lib.hid fun o => (Below.refl _ _).alloc (Nat.le_refl _) o
  have HC : Hid (∀ o, Calls Tryd.prog 54 #[.agg #[.int .i64 x.kind, .string x.text, .slice a x.keys.length ca, .slice c x.kids.length cc], .int .i64 k] (w.alloc o) fun e w' => e = .returned (.int .i64 ((k + x.keys.length + sumOf (cntN n) x.kids : Nat) : Int)) ∧ BodyF (NdF n) w' F (topMk n x k) a ca c cc ∧ Chg F (w.alloc o) w') := Lib.hid fun o =>
    markNode _ F x a c ca cc k (hs.frameN fun q hq => (HA.out o).block q (hF q hq)) hnd (fun q hq => Nat.lt_of_lt_of_le (hF q hq) (HA.out o).size) h1 hk
  generalize ((k + x.keys.length + sumOf (cntN n) x.kids : Nat) : Int) = K at *
  obtain ⟨kd, tx, ks, ns⟩ := x
  simp only at HC ⊢
  generalize topMk n ⟨kd, tx, ks, ns⟩ k = y at *
  clear hs hnd hF hk
  go_enter Tryd.func28, Tryd.ntmps28
  go_wp2_with fail
  refine (HC.out _).mono ?_
  rintro e w1 ⟨rfl, hx1, hw1⟩
  have HX := Lib.hid hx1
  have HC1 : Hid (Chg F w w1) := Lib.hid ((Chg.of_below (HA.out _)).trans hw1)
  clear hx1 hw1
  go_wp2_with fail
  go_ret
  exact ⟨rfl, HX.out, HC1.out⟩
end Go.Proofs.YtlncdkeooacebaaDoor.Rw
