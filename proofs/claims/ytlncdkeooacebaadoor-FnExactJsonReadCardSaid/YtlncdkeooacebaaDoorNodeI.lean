/-
  Contracts: impl.keysRight, impl.shapeRight, impl.countNode, impl.NodeRight answer what is right of a node plainly; of what was there nothing is changed. Conditions: in memory.
-/
import Derived.Test.YtlncdkeooacebaaDoorRows
import Derived.Test.YtlncdkeooacebaaDoorNodeS
import Derived.Test.YtlncdkeooacebaaDoorImplWordW
import Derived.Test.YtlncdkeooacebaaDoorSetM
import Derived.Carry
namespace Go.Proofs.YtlncdkeooacebaaDoor.Rw
open Go.RowKit Words Go.Maps
open Nm (inN)
set_option linter.unusedVariables false
set_option maxRecDepth 100000

theorem inN_app {k x : ByteArray} {l : List ByteArray} : inN k (l ++ [x]) = inN k (x :: l) := by
  have h : inN k (l ++ [x]) = true ↔ inN k (x :: l) = true := by
    rw [Nm.inN_mem, Nm.inN_mem]; simp [or_comm]
  cases h1 : inN k (l ++ [x]) <;> cases h2 : inN k (x :: l) <;> simp_all
theorem inN_cons {k x : ByteArray} {l l' : List ByteArray} (h : ∀ y, inN y l = inN y l') : inN k (x :: l) = inN k (x :: l') := by
  have e : inN k (x :: l) = true ↔ inN k (x :: l') = true := by
    rw [Nm.inN_mem, Nm.inN_mem, List.mem_cons, List.mem_cons, ← Nm.inN_mem, ← Nm.inN_mem (l := l'), h]
  cases h1 : inN k (x :: l) <;> cases h2 : inN k (x :: l') <;> simp_all
theorem inN_take {ks : List ByteArray} {i : Nat} {x : ByteArray} {seen : List ByteArray} (hx : ks[i]? = some x) (h : ∀ y, inN y seen = inN y (ks.take i)) : ∀ y, inN y (x :: seen) = inN y (ks.take (i + 1)) := fun y => by
  rw [List.take_add_one, hx]
  show _ = inN y (ks.take i ++ [x])
  rw [inN_app]; exact inN_cons h

set_option maxHeartbeats 1000000 in
theorem implKeysRight (w : World) (A B : Nat) (a : Option Addr) (len cap : Nat) (ks : List ByteArray) (hs : TextsAt w A B a len ks) (hB : B ≤ w.heap.size) :
    Calls Tryd.prog 124 #[.slice a len cap] w fun e w' => e = .returned (.bool (decB (KeysOk ks))) ∧ Below w.heap.size w w' := by
  have hlen := hs.2.1
  have HS0 := Lib.hid hs
  have hll := Lib.hid hs.1
  clear hs
  have hmm := @run_makeMap Tryd.prog
  go_enter Tryd.func124, Tryd.ntmps124
  go_wp2_with fail
  have HM0 : Hid (Nm.OwnM (w.alloc (.map #[] 0)) w.heap.size 0 (.map [])) := Lib.hid (by
    have := World.ownsMap_made w Tryd.prog 9 Nm.RV
    simpa using this)
  have HB0 : Hid (Below w.heap.size w (w.alloc (.map #[] 0))) := Lib.hid ((Below.refl _ _).alloc (Nat.le_refl _) _)
  have hz0 : w.heap.size < (w.alloc (.map #[] 0)).heap.size := by simp
  generalize w.alloc (.map #[] 0) = w0 at *
  clear hmm
  go_loopw [9] (fun i wr => ∃ (i' : Nat) (seen : List ByteArray) (D : DataW Value), i' ≤ len ∧ i = .int .i64 i' ∧ Hid (∀ j k, j < i' → ks[j]? = some k → KeyOk ks j k) ∧ Hid (∀ y, inN y seen = inN y (ks.take i')) ∧ Hid (Nm.OwnM wr w.heap.size i' D) ∧ Hid (Nm.SD seen D) ∧ w.heap.size < wr.heap.size ∧ Below w.heap.size w wr) (fun i _ => len - (intOf i).toNat)
  case atStart => exact ⟨0, [], .map [], by omega, rfl, Lib.hid (by omega), Lib.hid (fun y => rfl), HM0, Lib.hid Nm.SD.nil, hz0, HB0.out⟩
  case round =>
    obtain ⟨i, seen, D, hi, rfl, hall, hseen, HM, HS, hz, hb⟩ := hrel
    have HB := Lib.hid hb
    clear hz0 HM0 HB0
    by_cases hlt : i < len
    · have hli : (i : Int) < (len : Int) := by omega
      obtain ⟨k, b, off, hd, rfl, hA, hbb, hok, hc⟩ := (HS0.out.below textLies (Nat.le_refl _) (hb.mono hB)).at hlt
      rw [Nat.mul_one] at hc
      have HD := Lib.hid hd
      have HOK := Lib.hid hok
      have hrun := HS.out.look HM.out k hok
      have CW : Hid (∀ w, Calls Tryd.prog 118 #[.string k] w fun e w' => e = .returned (.bool (wordB k)) ∧ w = w') := Lib.hid fun w => implWordRight k (by unfold OkS at hok; unfold maxLen; omega) w
      obtain ⟨b1, hb1⟩ : ∃ q, wordB k = q := ⟨_, rfl⟩
      obtain ⟨b2, hb2⟩ : ∃ q, inN k seen = q := ⟨_, rfl⟩
      rw [hb1] at CW
      rw [hb2] at hrun
      have HN : Hid ((b1 = false ∨ b2 = true) → decB (KeysOk ks) = false) := Lib.hid fun e => decB_no fun h => by
        obtain ⟨g1, g2⟩ := h i k HD.out
        rw [← hseen.out, hb2] at g2
        rw [hb1] at g1
        rcases e with e | e
        · rw [e] at g1; cases g1
        · rw [e] at g2; cases g2
      have HY : Hid (b1 = true → b2 = false → ∀ j k, j < i + 1 → ks[j]? = some k → KeyOk ks j k) := Lib.hid fun e1 e2 j k' hj hk' => by
        by_cases e : j = i
        · subst e; rw [HD.out] at hk'; cases hk'; exact ⟨hb1.trans e1, by rw [← hseen.out, hb2]; exact e2⟩
        · exact hall.out j k' (by omega) hk'
      have HLT := Lib.hid hlt
      have hkm : (i : Int) < 9223372036854775807 := by omega
      clear hlt hd hb hok hb1 hb2
      cases b1
      · have hf := Lib.hid (HN.out (.inl rfl))
        go_wp2_with (go_at_call 118; refine (CW.out _).mono ?_; rintro e w' ⟨rfl, rfl⟩)
        go_ret
        exact ⟨ret_bool hf.out.symm, HB.out⟩
      · cases b2
        · have hkey := Nm.hkeyS k HOK.out
          go_wp2_with (first | (go_at_call 118; refine (CW.out _).mono ?_; rintro e w' ⟨rfl, rfl⟩) | (at_mapUpdate; refine wpList_mapUpdate_own _ rfl _ _ _ 131 rfl 9 4 Nm.lawS Tryd.underlying131 Nm.RV w.heap.size i D rfl HM.out (by unfold maxLen; omega) _ _ _ rfl rfl hkey _ [] rfl ?_; intro w2 hown2 hgrow2))
          have HB2 := Lib.hid (HB.out.grown hgrow2 HB.out.size (fun j hj => by cases hj; exact Nat.le_refl _))
          have HM2 := Lib.hid hown2
          have HS2 := Lib.hid (HS.out.put k)
          have HSE := Lib.hid (inN_take HD.out hseen.out)
          have HZ2 : Hid (w.heap.size < w2.heap.size) := Lib.hid (Nat.lt_of_lt_of_le hz hgrow2.size)
          have HY2 := Lib.hid (HY.out (by trivial) (by trivial))
          clear hgrow2 hown2 hrun hc hall
          go_wp2_with fail
          go_roundw
          case rel => exact ⟨i + 1, k :: seen, _, by have := HLT.out; omega, by go_num, HY2, HSE, HM2, HS2, HZ2.out, HB2.out⟩
          case measure => have := HLT.out; simp [intOf]; omega
        · have hf := Lib.hid (HN.out (.inr rfl))
          go_wp2_with (go_at_call 118; refine (CW.out _).mono ?_; rintro e w' ⟨rfl, rfl⟩)
          go_ret
          exact ⟨ret_bool hf.out.symm, HB.out⟩
    · obtain rfl : i = len := by omega
      have hf := Lib.hid (decB_yes (p := KeysOk ks) fun j k hk => hall.out j k (by have := (List.getElem?_eq_some_iff.1 hk).1; have := hll.out; omega) hk)
      clear hlt hb
      go_wp2_with fail
      go_ret
      exact ⟨ret_bool hf.out.symm, HB.out⟩

set_option maxHeartbeats 1000000 in
theorem implShape {n : Nat} (w : World) (A B : Nat) (v : Value) (x : NodeP) (hs : NodeV n w A B v x) (hB : B ≤ w.heap.size) :
    Calls Tryd.prog 116 #[v] w fun e w' => e = .returned (.bool (decB (ShapeOk x))) ∧ Below w.heap.size w w' := by
  obtain ⟨m, rfl⟩ : ∃ m, n = m + 1 := by
    cases n with
    | zero => exact hs.elim
    | succ m => exact ⟨m, rfl⟩
  obtain ⟨a, ca, c, cc, rfl, hk, ⟨h2, hca⟩, h3, hcc⟩ := hs
  obtain ⟨xd, hxd⟩ : ∃ y, y = x := ⟨_, rfl⟩
  obtain ⟨kd, tx, ks, ns⟩ := x
  obtain ⟨⟨hk1, hk2⟩, hkt⟩ := hk
  unfold OkS at hkt
  simp only [NodeP.cells] at h2 h3 hk1 hk2 hkt hca hcc ⊢
  have hlen := h3.2.1
  have hlk := h2.2.1
  have H2 := Lib.hid h2
  have HXD := Lib.hid hxd
  have C1 : Hid (∀ w, Calls Tryd.prog 123 #[.string tx] w fun e w' => e = .returned (.bool (plainB tx)) ∧ w = w') := Lib.hid fun w => implPlain tx (by unfold maxLen; omega) w
  clear h2 h3 hxd
  obtain ⟨nk, hnk⟩ : ∃ q, ks.length = q := ⟨_, rfl⟩
  obtain ⟨nn, hnn⟩ : ∃ q, ns.length = q := ⟨_, rfl⟩
  rw [hnk] at H2 hca hlk
  rw [hnn] at hcc hlen
  rw [hnk, hnn]
  have HNK := Lib.hid hnk
  have HNN := Lib.hid hnn
  clear hnk hnn
  have HA : Hid (∀ o, Below w.heap.size w (w.alloc o)) := Lib.hid fun o => (Below.refl _ _).alloc (Nat.le_refl _) o
  obtain ⟨p, hpe⟩ : ∃ q, plainB tx = q := ⟨_, rfl⟩
  obtain ⟨z1, hz1⟩ : ∃ q, ((nk : Int) == 0) = q := ⟨_, rfl⟩
  obtain ⟨z2, hz2⟩ : ∃ q, ((nn : Int) == 0) = q := ⟨_, rfl⟩
  obtain ⟨z3, hz3⟩ : ∃ q, (tx.toList == []) = q := ⟨_, rfl⟩
  obtain ⟨z4, hz4⟩ : ∃ q, ((nk : Int) == (nn : Int)) = q := ⟨_, rfl⟩
  obtain ⟨q1, hq1⟩ : ∃ q, (kd == 1) = q := ⟨_, rfl⟩
  obtain ⟨q2, hq2⟩ : ∃ q, (kd == 2) = q := ⟨_, rfl⟩
  obtain ⟨q3, hq3⟩ : ∃ q, (kd == 3) = q := ⟨_, rfl⟩
  obtain ⟨q4, hq4⟩ : ∃ q, (kd == 4) = q := ⟨_, rfl⟩
  rw [hpe] at C1
  have HPE := Lib.hid (And.intro hpe (And.intro hz1 (And.intro hz2 (And.intro hz3 (And.intro hz4 (And.intro hq1 (And.intro hq2 (And.intro hq3 hq4))))))))
  clear hpe
  have CK : Hid (∀ o, Calls Tryd.prog 124 #[.slice a nk ca] (w.alloc o) fun e w' => e = .returned (.bool (decB (KeysOk ks))) ∧ Below (w.alloc o).heap.size (w.alloc o) w') := Lib.hid fun o => implKeysRight (w.alloc o) A B a nk ca ks (H2.out.below textLies hB (HA.out o)) (Nat.le_trans hB (HA.out o).size)
  obtain ⟨pk, hpk⟩ : ∃ q, decB (KeysOk ks) = q := ⟨_, rfl⟩
  rw [hpk] at CK
  have HPK := Lib.hid hpk
  clear hpk
  cases q1
  · cases q2
    · cases q3
      · cases q4
        · cases z1
          all_goals
            go_enter Tryd.func116, Tryd.ntmps116
            go_wp2_with fail
            go_ret
            exact ⟨ret_bool (decB_no (by
              have e0 := HXD.out; subst e0
              obtain ⟨-, -, -, -, -, f1, f2, f3, f4⟩ := HPE.out
              have g1 : kd ≠ 1 := by simpa using f1
              have g2 : kd ≠ 2 := by simpa using f2
              have g3 : kd ≠ 3 := by simpa using f3
              have g4 : kd ≠ 4 := by simpa using f4
              exact fun h => base0 g1 g2 g3 g4 h.1)).symm, HA.out _⟩
        · have HK4 : Hid (z3 = true → z4 = true → pk = decB (ShapeOk ⟨kd, tx, ks, ns⟩)) := Lib.hid fun e3 e4 => by
            have e0 := HXD.out; subst e0
            obtain ⟨f0, f1, f2, f3, f4, f5, f6, f7, f8⟩ := HPE.out
            have g1 := HNK.out; have g2 := HNN.out
            have k4 : kd = 4 := by simpa using f8
            rw [← HPK.out]
            refine congrArg decB (propext ⟨fun h => ⟨(base4 k4).2 ⟨by rw [e3] at f3; simpa using f3, by have g : (nk : Int) = (nn : Int) := (by rw [e4] at f4; simpa using f4); simp only [g1, g2]; omega⟩, h⟩, fun h => h.2⟩)
          have HK0 : Hid (z3 = false ∨ z4 = false → decB (ShapeOk ⟨kd, tx, ks, ns⟩) = false) := Lib.hid fun e => decB_no fun h => by
            have e0 := HXD.out; subst e0
            obtain ⟨f0, f1, f2, f3, f4, f5, f6, f7, f8⟩ := HPE.out
            have g1 := HNK.out; have g2 := HNN.out
            have k4 : kd = 4 := by simpa using f8
            obtain ⟨h1, h2⟩ := (base4 k4).1 h.1
            simp only [g1, g2] at h1 h2
            rcases e with e | e
            · rw [e, h1] at f3; cases f3
            · rw [e, h2] at f4; simp at f4
          cases z3
          · have hf := Lib.hid (HK0.out (.inl rfl))
            clear HK4 HK0
            cases z1
            all_goals
              go_enter Tryd.func116, Tryd.ntmps116
              go_wp2_with fail
              go_ret
              exact ⟨ret_bool hf.out.symm, HA.out _⟩
          · cases z4
            · have hf := Lib.hid (HK0.out (.inr rfl))
              clear HK4 HK0
              cases z1
              all_goals
                go_enter Tryd.func116, Tryd.ntmps116
                go_wp2_with fail
                go_ret
                exact ⟨ret_bool hf.out.symm, HA.out _⟩
            · have hf := Lib.hid (HK4.out rfl rfl)
              clear HK4 HK0
              cases z1
              all_goals
                go_enter Tryd.func116, Tryd.ntmps116
                go_wp2_with (go_at_call 124; refine (CK.out _).mono ?_; rintro e w1 ⟨rfl, hb1⟩)
                have HB1 := Lib.hid ((HA.out _).trans (hb1.mono (HA.out _).size))
                go_ret
                exact ⟨ret_bool hf.out, HB1.out⟩
      · cases z3 <;> cases z1
        all_goals go_enter Tryd.func116, Tryd.ntmps116
        all_goals go_wp2_with fail
        all_goals go_ret
        all_goals (refine ⟨ret_bool ?_, HA.out _⟩; have e0 := HXD.out; subst e0; obtain ⟨f0, f1, f2, f3, f4, f5, f6, f7, f8⟩ := HPE.out; have g1 := HNK.out; have g2 := HNN.out; have k4 : kd = 3 := (by simpa using f7); first | (refine (decB_yes ⟨(base3 k4).2 ⟨by simpa using f3, by simp only [g1]; simpa using f1⟩, KeysOk.nil (by simp only [g1]; simpa using f1)⟩).symm) | (refine (decB_no fun h => ?_).symm; obtain ⟨h1, h2⟩ := (base3 k4).1 h.1; simp only [g1] at h1 h2; first | (rw [h1] at f3; cases f3; done) | (rw [h2] at f1; simp at f1; done)))
    · cases p <;> cases z1 <;> cases z2
      all_goals go_enter Tryd.func116, Tryd.ntmps116
      all_goals go_wp2_with (go_at_call 123; refine (C1.out _).mono ?_; rintro e w' ⟨rfl, rfl⟩)
      all_goals go_ret
      all_goals (refine ⟨ret_bool ?_, HA.out _⟩; have e0 := HXD.out; subst e0; obtain ⟨f0, f1, f2, f3, f4, f5, f6, f7, f8⟩ := HPE.out; have g1 := HNK.out; have g2 := HNN.out; have k4 : kd = 2 := (by simpa using f6); first | (refine (decB_yes ⟨(base2 k4).2 ⟨f0, by simp only [g1]; simpa using f1, by simp only [g2]; simpa using f2⟩, KeysOk.nil (by simp only [g1]; simpa using f1)⟩).symm) | (refine (decB_no fun h => ?_).symm; obtain ⟨h1, h2, h3⟩ := (base2 k4).1 h.1; simp only [g1, g2] at h1 h2 h3; first | (rw [h1] at f0; cases f0; done) | (rw [h2] at f1; simp at f1; done) | (rw [h3] at f2; simp at f2; done)))
  · cases z3 <;> cases z1 <;> cases z2
    all_goals go_enter Tryd.func116, Tryd.ntmps116
    all_goals go_wp2_with fail
    all_goals go_ret
    all_goals (refine ⟨ret_bool ?_, HA.out _⟩; have e0 := HXD.out; subst e0; obtain ⟨f0, f1, f2, f3, f4, f5, f6, f7, f8⟩ := HPE.out; have g1 := HNK.out; have g2 := HNN.out; have k4 : kd = 1 := (by simpa using f5); first | (refine (decB_yes ⟨(base1 k4).2 ⟨by simpa using f3, by simp only [g1]; simpa using f1, by simp only [g2]; simpa using f2⟩, KeysOk.nil (by simp only [g1]; simpa using f1)⟩).symm) | (refine (decB_no fun h => ?_).symm; obtain ⟨h1, h2, h3⟩ := (base1 k4).1 h.1; simp only [g1, g2] at h1 h2 h3; first | (rw [h1] at f3; cases f3; done) | (rw [h2] at f1; simp at f1; done) | (rw [h3] at f2; simp at f2; done)))

/-- Right, no deeper than d, at most 2000. -/
def RD (n d : Nat) (x : NodeP) : Prop := szN n x ≤ 2000 ∧ PartOk d x
noncomputable def cntB (n d : Nat) (x : NodeP) : Int := if decB (RD n d x) = true then (szN n x : Int) else 0
theorem ret_ib {k : IntKind} {a b : Int} {p q : Bool} (h1 : a = b) (h2 : p = q) : Ending.returned (.tuple #[.int k a, .bool p]) = .returned (.tuple #[.int k b, .bool q]) := by rw [h1, h2]
theorem cnt_no {n d : Nat} {x : NodeP} (h : ¬ RD n d x) : Ending.returned (.tuple #[.int .i64 0, .bool false]) = .returned (.tuple #[.int .i64 (cntB n d x), .bool (decB (RD n d x))]) := by
  refine ret_ib ?_ (decB_no h).symm; unfold cntB; rw [decB_no h]; rfl
theorem cnt_yes {n d : Nat} {x : NodeP} {k : Int} (h : RD n d x) (hk : k = (szN n x : Int)) : Ending.returned (.tuple #[.int .i64 k, .bool true]) = .returned (.tuple #[.int .i64 (cntB n d x), .bool (decB (RD n d x))]) := by
  refine ret_ib ?_ (decB_yes h).symm; unfold cntB; rw [decB_yes h, hk]; rfl
def CntOne (n : Nat) : Prop := ∀ (w : World) (A B : Nat) (v : Value) (x : NodeP) (D : Int), NodeV n w A B v x → B ≤ w.heap.size → 0 ≤ D → D ≤ 100 →
    Calls Tryd.prog 106 #[v, .int .i64 D] w fun e w' => e = .returned (.tuple #[.int .i64 (cntB n D.toNat x), .bool (decB (RD n D.toNat x))]) ∧ Below w.heap.size w w'
set_option maxHeartbeats 1000000 in
theorem cntOne_of (n : Nat) (HN : CntOne n) : CntOne (n + 1) := by
  intro w A B v x D hs hB hD0 hD1
  have HSV := Lib.hid hs
  obtain ⟨a, ca, c, cc, rfl, hk, ⟨h2, hca⟩, h3, hcc⟩ := hs
  obtain ⟨xd, hxd⟩ : ∃ y, y = x := ⟨_, rfl⟩
  obtain ⟨kd, tx, ks, ns⟩ := x
  simp only [NodeP.cells] at h2 h3 hca hcc HSV ⊢
  have hlen := h3.2.1
  have H3 := Lib.hid h3
  have HXD := Lib.hid hxd
  have HNH := Lib.hid HN
  clear h2 h3 hxd HN hk
  obtain ⟨nk, hnk⟩ : ∃ q, ks.length = q := ⟨_, rfl⟩
  obtain ⟨nn, hnn⟩ : ∃ q, ns.length = q := ⟨_, rfl⟩
  rw [hnk] at hca HSV
  rw [hnn] at hcc hlen H3 HSV
  rw [hnk, hnn]
  have HNN := Lib.hid hnn
  clear hnk hnn hca
  have HSZ : Hid (szN (n + 1) ⟨kd, tx, ks, ns⟩ = 1 + sumOf (szN n) ns) := Lib.hid rfl
  have HA : Hid (∀ o, Below w.heap.size w (w.alloc o)) := Lib.hid fun o => (Below.refl _ _).alloc (Nat.le_refl _) o
  have HPO : Hid (PartOk D.toNat ⟨kd, tx, ks, ns⟩ → D ≠ 0) := Lib.hid fun h e => by subst e; exact h
  by_cases hD : D = 0
  · have hf := Lib.hid (cnt_no (n := n + 1) (d := D.toNat) (x := ⟨kd, tx, ks, ns⟩) fun h => HPO.out h.2 hD)
    have hDb : (D == 0) = true := by simpa using hD
    clear hD
    go_enter Tryd.func106, Tryd.ntmps106
    go_wp2_with fail
    exact bodyPost_ret (v := .tuple #[.int .i64 0, .bool false]) (by simp [results, Tryd.results106, go_sem]) rfl ⟨hf.out, HA.out _⟩
  have hDb : (D == 0) = false := by simpa using hD
  have hDp : 1 ≤ D := by omega
  obtain ⟨d1, hd1⟩ : ∃ q : Int, D - 1 = q := ⟨_, rfl⟩
  have hd1lo : 0 ≤ d1 := by omega
  have hd1hi : d1 ≤ 100 := by omega
  have HPQ : Hid (PartOk D.toNat ⟨kd, tx, ks, ns⟩ ↔ (ShapeOk ⟨kd, tx, ks, ns⟩ ∧ ∀ k ∈ ns, PartOk d1.toNat k)) := Lib.hid (by rw [show D.toNat = d1.toNat + 1 by omega]; exact Iff.rfl)
  clear hD
  by_cases h2k : 2000 ≤ nn
  · have hf := Lib.hid (cnt_no (n := n + 1) (d := D.toNat) (x := ⟨kd, tx, ks, ns⟩) fun h => by have := h.1; rw [HSZ.out] at this; have := sum_len (n := n) ns; have := HNN.out; omega)
    have h2i : (2000 : Int) ≤ (nn : Int) := by omega
    clear h2k hd1
    go_enter Tryd.func106, Tryd.ntmps106
    go_wp2_with fail
    exact bodyPost_ret (v := .tuple #[.int .i64 0, .bool false]) (by simp [results, Tryd.results106, go_sem]) rfl ⟨hf.out, HA.out _⟩
  have h2i : (nn : Int) < 2000 := by omega
  clear h2k
  have CS : Hid (∀ o, Calls Tryd.prog 116 #[.agg #[.int .i64 kd, .string tx, .slice a nk ca, .slice c nn cc]] (w.alloc o) fun e w' => e = .returned (.bool (decB (ShapeOk ⟨kd, tx, ks, ns⟩))) ∧ Below (w.alloc o).heap.size (w.alloc o) w') := Lib.hid fun o => implShape (n := n + 1) (w.alloc o) A B _ ⟨kd, tx, ks, ns⟩ (HSV.out.below hB (HA.out o)) (Nat.le_trans hB (HA.out o).size)
  obtain ⟨sb, hsb⟩ : ∃ q, decB (ShapeOk ⟨kd, tx, ks, ns⟩) = q := ⟨_, rfl⟩
  rw [hsb] at CS
  cases sb
  · have hf := Lib.hid (cnt_no (n := n + 1) (d := D.toNat) (x := ⟨kd, tx, ks, ns⟩) fun h => by have := (HPQ.out.1 h.2).1; rw [decB_yes this] at hsb; cases hsb)
    clear hsb hd1
    go_enter Tryd.func106, Tryd.ntmps106
    go_wp2_with (go_at_call 116; refine (CS.out _).mono ?_; rintro e w1 ⟨rfl, hb1⟩)
    have HB1 := Lib.hid ((HA.out _).trans (hb1.mono (HA.out _).size))
    exact bodyPost_ret (v := .tuple #[.int .i64 0, .bool false]) (by simp [results, Tryd.results106, go_sem]) rfl ⟨hf.out, HB1.out⟩
  have HSB : Hid (ShapeOk ⟨kd, tx, ks, ns⟩) := Lib.hid (by
    by_cases h : ShapeOk ⟨kd, tx, ks, ns⟩
    · exact h
    · rw [decB_no h] at hsb; cases hsb)
  clear hsb
  have HD1 := Lib.hid hd1
  go_enter Tryd.func106, Tryd.ntmps106
  go_wp2_with (go_at_call 116; refine (CS.out _).mono ?_; rintro e w1 ⟨rfl, hb1⟩; have ⟨⟨k0, k1, k2, k3⟩, _⟩ := keep4 ((hb1.block w.heap.size (by simp)).trans (Go.Deep.blk_alloc_new _ _)))
  have HB1 := Lib.hid ((HA.out _).trans (hb1.mono (HA.out _).size))
  clear hb1 CS k0 k1 k2 k3
  go_loopw [6, 27] (fun al i wr => ∃ (i' : Nat) (al' : Nat), i' ≤ nn ∧ al' ≤ 2000 ∧ Hid (al' = 1 + sumOf (szN n) (ns.take i')) ∧ Hid (∀ j k, j < i' → ns[j]? = some k → PartOk d1.toNat k) ∧ al = .int .i64 (al' : Nat) ∧ i = .int .i64 i' ∧ Below w.heap.size w wr) (fun _ i _ => nn - (intOf i).toNat)
  case atStart => exact ⟨0, 1, by omega, by omega, Lib.hid (by simp [sumOf]), Lib.hid (by omega), rfl, rfl, HB1.out⟩
  case round =>
    obtain ⟨i, al, hi, hal, HAL, hall, rfl, rfl, hb⟩ := hrel
    have HB := Lib.hid hb
    clear HB1
    by_cases hlt : i < nn
    · have hli : (i : Int) < (nn : Int) := by omega
      obtain ⟨x, b, off, hd, rfl, hA, hbb, hxl⟩ := (H3.out.below (nodeLies n) hB HB.out).at hlt
      obtain ⟨a1, ca1, c1, cc1, hc, hv⟩ := hxl.val
      obtain ⟨d0, d1', d2, d3⟩ := nrow4 hc
      have HD := Lib.hid hd
      have HAW : Hid (∀ o, Below wr.heap.size wr (wr.alloc o)) := Lib.hid fun o => (Below.refl _ _).alloc (Nat.le_refl _) o
      have hBr := Nat.le_trans hB HB.out.size
      have HX : Hid (∀ o, Calls Tryd.prog 106 #[.agg #[.int .i64 x.kind, .string x.text, .slice a1 x.keys.length ca1, .slice c1 x.kids.length cc1], .int .i64 d1] (wr.alloc o) fun e w' => e = .returned (.tuple #[.int .i64 (cntB n d1.toNat x), .bool (decB (RD n d1.toNat x))]) ∧ Below (wr.alloc o).heap.size (wr.alloc o) w') := Lib.hid fun o => HNH.out (wr.alloc o) A B _ x d1 (hv.below hBr (HAW.out o)) (Nat.le_trans hBr (HAW.out o).size) hd1lo hd1hi
      have HBA : Hid (∀ o, Below w.heap.size w (wr.alloc o)) := Lib.hid fun o => HB.out.alloc HB.out.size o
      have hle : sumOf (szN n) (ns.take (i + 1)) ≤ sumOf (szN n) ns := sum_take_le ns (i + 1)
      have hst := sum_part (f := szN n) hd
      by_cases hr : RD n d1.toNat x
      · have e1 : cntB n d1.toNat x = (szN n x : Int) := by unfold cntB; rw [decB_yes hr]; rfl
        rw [e1, decB_yes hr] at HX
        obtain ⟨sx, hsx⟩ : ∃ q, szN n x = q := ⟨_, rfl⟩
        rw [hsx] at HX hst
        have hsx2 : sx ≤ 2000 := by rw [← hsx]; exact hr.1
        have HPX : Hid (PartOk d1.toNat x) := Lib.hid hr.2
        have HST := Lib.hid hst
        have HLE := Lib.hid hle
        have hsi : (sx : Int) ≤ 2000 := by omega
        by_cases hov : 2000 < al + sx
        · have hf := Lib.hid (cnt_no (n := n + 1) (d := D.toNat) (x := ⟨kd, tx, ks, ns⟩) fun h => by have := h.1; rw [HSZ.out] at this; have := HAL.out; omega)
          have hoi : (2000 : Int) < (al : Int) + (sx : Int) := by omega
          clear hlt hd hb hc hxl hv hle hst hsx hsx2 hov hr e1
          go_wp2_with (go_at_call 106; refine (HX.out _).mono ?_; rintro e w2 ⟨rfl, hb2⟩)
          have HB2 := Lib.hid ((HBA.out _).trans (hb2.mono (HBA.out _).size))
          exact bodyPost_ret (v := .tuple #[.int .i64 0, .bool false]) (by simp [results, Tryd.results106, go_sem]) rfl ⟨hf.out, HB2.out⟩
        · have hoi : (al : Int) + (sx : Int) ≤ 2000 := by omega
          have hov' : al + sx ≤ 2000 := by omega
          have HAL2 : Hid (al + sx = 1 + sumOf (szN n) (ns.take (i + 1))) := Lib.hid (by have := HAL.out; omega)
          have HY : Hid (∀ j k, j < i + 1 → ns[j]? = some k → PartOk d1.toNat k) := Lib.hid fun j k' hj hk' => by
            by_cases e : j = i
            · subst e; rw [HD.out] at hk'; cases hk'; exact HPX.out
            · exact hall.out j k' (by omega) hk'
          clear hlt hd hb hc hxl hv hle hst hsx hsx2 hov hr e1
          go_wp2_with (go_at_call 106; refine (HX.out _).mono ?_; rintro e w2 ⟨rfl, hb2⟩)
          have HB2 := Lib.hid ((HBA.out _).trans (hb2.mono (HBA.out _).size))
          go_roundw
          case rel => exact ⟨i + 1, al + sx, by omega, by omega, HAL2, HY, by go_num, by go_num, HB2.out⟩
          case measure => simp [intOf]; omega
      · have e1 : cntB n d1.toNat x = 0 := by unfold cntB; rw [decB_no hr]; rfl
        rw [e1, decB_no hr] at HX
        have hf := Lib.hid (cnt_no (n := n + 1) (d := D.toNat) (x := ⟨kd, tx, ks, ns⟩) fun h => hr ⟨by
          have g1 := h.1; rw [HSZ.out] at g1
          have := sumOf_mem (f := szN n) HD.out; omega, (HPQ.out.1 h.2).2 x (List.mem_of_getElem? HD.out)⟩)
        clear hlt hd hb hc hxl hv hle hst hr e1
        go_wp2_with (go_at_call 106; refine (HX.out _).mono ?_; rintro e w2 ⟨rfl, hb2⟩)
        have HB2 := Lib.hid ((HBA.out _).trans (hb2.mono (HBA.out _).size))
        exact bodyPost_ret (v := .tuple #[.int .i64 0, .bool false]) (by simp [results, Tryd.results106, go_sem]) rfl ⟨hf.out, HB2.out⟩
    · have hin : i = nn := by omega
      have hnl : (nn : Int) ≤ (i : Int) := by omega
      have hf := Lib.hid (cnt_yes (n := n + 1) (d := D.toNat) (x := ⟨kd, tx, ks, ns⟩) (k := (al : Int)) (by
        have e1 := HAL.out
        have e2 := HNN.out
        rw [hin, ← e2, List.take_length] at e1
        refine ⟨by rw [HSZ.out]; omega, HPQ.out.2 ⟨HSB.out, fun k hk => ?_⟩⟩
        obtain ⟨j, hj, rfl⟩ := List.getElem_of_mem hk
        exact hall.out j _ (by omega) (List.getElem?_eq_getElem hj)) (by
        have e1 := HAL.out
        have e2 := HNN.out
        rw [hin, ← e2, List.take_length] at e1
        rw [HSZ.out]; omega))
      clear hlt hb hin
      go_wp2_with fail
      exact bodyPost_ret (v := .tuple #[.int .i64 (al : Int), .bool true]) (by simp [results, Tryd.results106, go_sem]) rfl ⟨hf.out, HB.out⟩
theorem implCount : ∀ n, CntOne n
  | 0 => fun _ _ _ _ _ _ h => h.elim
  | n + 1 => cntOne_of n (implCount n)
theorem implNodeRight {n : Nat} (w : World) (A B : Nat) (v : Value) (x : NodeP) (hs : NodeV n w A B v x) (hB : B ≤ w.heap.size) :
    Calls Tryd.prog 81 #[v] w fun e w' => e = .returned (.bool (decB (RightN n x))) ∧ Below w.heap.size w w' := by
  have C1 := Lib.hid (implCount n)
  have HS := Lib.hid hs
  have hv : ∃ v0 v1 v2 v3, v = .agg #[v0, v1, v2, v3] := by
    cases n with
    | zero => exact hs.elim
    | succ n => obtain ⟨a, ca, c, cc, hv, _⟩ := hs; exact ⟨_, _, _, _, hv⟩
  obtain ⟨v0, v1, v2, v3, rfl⟩ := hv
  have HA : Hid (∀ o, Below w.heap.size w (w.alloc o)) := Lib.hid fun o => (Below.refl _ _).alloc (Nat.le_refl _) o
  clear hs
  go_enter Tryd.func81, Tryd.ntmps81
  go_wp2_with fail
  refine (C1.out _ A B _ x 100 (HS.out.below hB (HA.out _)) (Nat.le_trans hB (HA.out _).size) (by omega) (by omega)).mono ?_
  rintro e w1 ⟨rfl, hb1⟩
  have HB1 := Lib.hid ((HA.out _).trans (hb1.mono (HA.out _).size))
  rw [show (100 : Int).toNat = 100 from rfl]
  clear hb1
  generalize cntB n 100 x = k
  go_wp2_with fail
  go_ret
  exact ⟨rfl, HB1.out⟩
end Go.Proofs.YtlncdkeooacebaaDoor.Rw
