/-
  Contracts: spec.l09Size answers how many nodes there are, or one more than so many; spec.l09Part whether a node is right, no deeper than so much; spec.NodeRight both; of what was there nothing is changed. Conditions: in memory.
-/
import Derived.Test.YtlncdkeooacebaaDoorRows
import Derived.Test.YtlncdkeooacebaaDoorNodeP
import Derived.Deep.CutRange
import Derived.Deep.CutBlock
import Derived.Deep.QuietTactic
import Derived.BigQuiet
namespace Go.Proofs.YtlncdkeooacebaaDoor.Rw
open Go.RowKit Words
open Nm (inN)
set_option linter.unusedVariables false
set_option maxRecDepth 100000

/-- How many, or one more than so many. -/
def upto (s most : Nat) : Nat := min s (most + 1)
def SizeOne (n : Nat) : Prop := ∀ (w : World) (A B : Nat) (v : Value) (x : NodeP) (most : Nat), NodeV n w A B v x → B ≤ w.heap.size → most ≤ 2000 →
    Calls Tryd.prog 101 #[v, .int .i64 most] w fun e w' => e = .returned (.int .i64 (upto (szN n x) most : Nat)) ∧ Below w.heap.size w w'
theorem sizeOne_of (n : Nat) (HN : SizeOne n) : SizeOne (n + 1) := by
  intro w A B v x most hs hB hmost
  obtain ⟨a, ca, c, cc, rfl, hk, ⟨h2, _⟩, h3, _⟩ := hs
  obtain ⟨kd, tx, ks, ns⟩ := x
  simp only [NodeP.cells, szN] at h2 h3 ⊢
  have hlen := h3.2.1
  have H3 := Lib.hid h3
  have HNH := Lib.hid HN
  clear h2 h3 HN hk
  generalize hf : szN n = f
  have HF := Lib.hid hf
  clear hf
  have HA : Hid (∀ o, Below w.heap.size w (w.alloc o)) := Lib.hid fun o => (Below.refl _ _).alloc (Nat.le_refl _) o
  go_enter Tryd.func101, Tryd.ntmps101
  go_wp2_with fail
  go_loopw [5, 6] (fun o i wr => ∃ (i' : Nat) (o' : Nat), i' ≤ ns.length ∧ o' ≤ most + 1 ∧ Hid (o' = upto (1 + sumOf f (ns.take i')) most) ∧ o = .int .i64 (o' : Nat) ∧ i = .int .i64 i' ∧ wr.cell? ⟨w.heap.size, 3, none⟩ = some (.slice c ns.length cc) ∧ w.heap.size < wr.heap.size ∧ Below w.heap.size w wr) (fun _ i _ => ns.length - (intOf i).toNat)
  case atStart => exact ⟨0, 1, by omega, by omega, Lib.hid (by simp only [List.take_zero, sumOf, upto]; omega), rfl, rfl, by simp, by simp, HA.out _⟩
  case round =>
    obtain ⟨i, o, hi, ho1, ho, rfl, rfl, hc3, hg, hb⟩ := hrel
    have HB := Lib.hid hb
    by_cases hlt : i < ns.length
    · have hli : (i : Int) < (ns.length : Int) := by omega
      by_cases hle : o ≤ most
      · have hlei : (o : Int) ≤ (most : Int) := by omega
        obtain ⟨x, b, off, hd, rfl, hA, hbb, hxl⟩ := (H3.out.below (nodeLies n) hB HB.out).at hlt
        obtain ⟨a1, ca1, c1, cc1, hc, hv⟩ := hxl.val
        obtain ⟨d0, d1, d2, d3⟩ := nrow4 hc
        obtain ⟨left, hleft⟩ : ∃ l : Nat, l = most - o := ⟨_, rfl⟩
        have hli2 : (most : Int) - (o : Int) = (left : Int) := by omega
        have HX : Hid (Calls Tryd.prog 101 #[.agg #[.int .i64 x.kind, .string x.text, .slice a1 x.keys.length ca1, .slice c1 x.kids.length cc1], .int .i64 left] wr fun e w' => e = .returned (.int .i64 (upto (f x) left : Nat)) ∧ Below wr.heap.size wr w') := Lib.hid (by rw [← HF.out]; exact HNH.out wr A B _ x left hv (Nat.le_trans hB HB.out.size) (by omega))
        have hnew : Hid (o + upto (f x) left = upto (1 + sumOf f (ns.take (i + 1))) most) := Lib.hid (by
          have e1 := ho.out
          rw [sum_part hd]
          unfold upto at *; omega)
        have hub : upto (f x) left ≤ left + 1 := by unfold upto; omega
        generalize upto (f x) left = r at *
        have hlw : w.heap.size < wr.heap.size := hg
        clear hlt hd hb hc hxl hv ho hleft hlw
        go_wp2_with fail
        refine HX.out.mono ?_
        rintro e w1 ⟨rfl, hb1⟩
        have hk3 := kcell hb1 hg hc3
        have hg1 := Nat.lt_of_lt_of_le hg hb1.size
        have HB1 := Lib.hid (HB.out.trans (hb1.mono HB.out.size))
        clear hb1 HX
        go_wp2_with fail
        go_roundw
        case rel => exact ⟨i + 1, o + r, by omega, by omega, hnew, by go_num, by go_num, hk3, hg1, HB1.out⟩
        case measure => simp [intOf]; omega
      · have hgt : (most : Int) < (o : Int) := by omega
        have hf : Hid (o = upto (1 + sumOf f ns) most) := Lib.hid (by
          have e1 := ho.out
          have e2 := sum_take_le (f := f) ns i
          unfold upto at *; omega)
        clear hle hb ho
        go_wp2_with fail
        go_ret
        exact ⟨ret_i (by rw [← hf.out]), HB.out⟩
    · obtain rfl : i = ns.length := by omega
      have hf : Hid (o = upto (1 + sumOf f ns) most) := Lib.hid (by have := ho.out; rwa [List.take_length] at this)
      clear hlt hb ho
      go_wp2_with fail
      go_ret
      exact ⟨ret_i (by rw [← hf.out]), HB.out⟩
theorem specSize : ∀ n, SizeOne n
  | 0 => fun _ _ _ _ _ _ h => h.elim
  | n + 1 => sizeOne_of n (specSize n)

/-- Whether a text is among others: it only reads. -/
theorem specInQ (w : World) (A B : Nat) (a : Option Addr) (len cap : Nat) (l : List ByteArray) (nm : ByteArray) (hn : OkS nm) (hs : TextsAt w A B a len l) (hB : B ≤ w.heap.size) :
    Calls Tryd.prog 68 #[.slice a len cap, .string nm] w fun e w' => e = .returned (.bool (inN nm l)) ∧ w' = w := by
  have hlen := hs.2.1
  have HS := Lib.hid hs
  obtain ⟨hll, _⟩ := hs
  subst hll
  go_enter Tryd.func68, Tryd.ntmps68
  go_wp2_with fail
  go_loopw [5] (fun i wr => ∃ (i' : Nat), i' ≤ l.length ∧ Hid (inN nm l = inN nm (l.drop i')) ∧ i = .int .i64 i' ∧ w = wr) (fun i _ => l.length - (intOf i).toNat)
  case atStart => exact ⟨0, by omega, Lib.hid (by rw [List.drop_zero]), rfl, rfl⟩
  case round =>
    obtain ⟨i, hi, hm, rfl, rfl⟩ := hrel
    by_cases hlt : i < l.length
    · have hli : (i : Int) < (l.length : Int) := by omega
      obtain ⟨x, b, off, hd, rfl, hA, hbb, hok, hc⟩ := HS.out.at hlt
      rw [Nat.mul_one] at hc
      by_cases hx : x = nm
      · have hf := Lib.hid (hm.out.trans (Nm.inN_hit hd hx))
        clear hlt hd hok
        go_wp2_with fail
        go_ret
        exact ⟨ret_bool hf.out.symm, rfl⟩
      · have hn1 := Nm.toList_ne hx
        have hn2 := Nm.toList_beq hx
        have hrel := Lib.hid (hm.out.trans (Nm.inN_miss hd hx))
        clear hlt hd hok
        go_wp2_with fail
        go_roundw
        case rel => exact ⟨i + 1, by omega, hrel, by go_num, by trivial⟩
        case measure => simp [intOf]; omega
    · obtain rfl : i = l.length := by omega
      have hf : Hid (inN nm l = false) := Lib.hid (by rw [hm.out, List.drop_length]; rfl)
      clear hlt
      go_wp2_with fail
      go_ret
      exact ⟨ret_bool hf.out.symm, rfl⟩
theorem TextsAt.part {w : World} {A B len i : Nat} {a : Option Addr} {l : List ByteArray} (h : TextsAt w A B a len l) (hi : i ≤ len) : TextsAt w A B a i (l.take i) := by
  have h1 := h.1
  have h2 := h.2.1
  refine ⟨by rw [List.length_take]; omega, by omega, ?_⟩
  rcases h.2.2 with h0 | ⟨b, off, e, hA, hB, hl⟩
  · left; rw [h0]; simp
  · refine .inr ⟨b, off, e, hA, hB, fun q y hy => ?_⟩
    have hq : q < i := by have := (List.getElem?_eq_some_iff.1 hy).1; rw [List.length_take] at this; omega
    exact hl q y (by rw [List.getElem?_take_of_lt hq] at hy; exact hy)
theorem TextsAt.drewN {w : World} {A B len : Nat} {a : Option Addr} {l : List ByteArray} (h : TextsAt w A B a len l) (n : Nat) : TextsAt (w.drewN n) A B a len l := RowsAt.block (w := w) textLies h fun _ _ _ => rfl
theorem part_step {n : Nat} {x : NodeP} (h : ShapeOk x) (hk : ∀ j k, j < x.kids.length → x.kids[j]? = some k → PartOk n k) : PartOk (n + 1) x := ⟨h, fun k hk' => by
  obtain ⟨j, hj, rfl⟩ := List.getElem_of_mem hk'
  exact hk j _ hj (List.getElem?_eq_getElem hj)⟩

def PartOne (n : Nat) : Prop := ∀ (w : World) (A B : Nat) (v : Value) (x : NodeP) (deep : Int), NodeV n w A B v x → B ≤ w.heap.size → (szN n x : Int) ≤ deep + 5000 → deep ≤ 100 →
    Calls Tryd.prog 102 #[v, .int .i64 deep] w fun e w' => e = .returned (.bool (decB (PartOk deep.toNat x))) ∧ Below w.heap.size w w'
set_option maxHeartbeats 1000000 in
theorem partOne_of (n : Nat) (HN : PartOne n) : PartOne (n + 1) := by
  intro w A B v x deep hs hB hsz hdp
  obtain ⟨a, ca, c, cc, rfl, hk, ⟨h2, hca⟩, h3, hcc⟩ := hs
  obtain ⟨xd, hxd⟩ : ∃ y, y = x := ⟨_, rfl⟩
  obtain ⟨kd, tx, ks, ns⟩ := x
  obtain ⟨⟨hk1, hk2⟩, hkt⟩ := hk
  unfold OkS at hkt
  simp only [NodeP.cells, szN] at h2 h3 hk1 hk2 hkt hca hcc hsz ⊢
  have hlen := h3.2.1
  have hlk := h2.2.1
  have H2 := Lib.hid h2
  have H3 := Lib.hid h3
  have HNH := Lib.hid HN
  have HXD := Lib.hid hxd
  have hlo : -4999 ≤ deep := by omega
  have HSZ : Hid (∀ k ∈ ns, (szN n k : Int) ≤ deep - 1 + 5000) := Lib.hid fun k hk => by
    obtain ⟨j, hj, rfl⟩ := List.getElem_of_mem hk
    have := sumOf_mem (f := szN n) (List.getElem?_eq_getElem hj); omega
  have hkci : (ks.length : Int) ≤ (ca : Int) := by omega
  have C1 : Hid (∀ w, Calls Tryd.prog 112 #[.string tx, .int .i64 120] w fun e w' => e = .returned (.bool (plainB tx)) ∧ w = w') := Lib.hid fun w => specPlain tx (by unfold maxLen; omega) w
  clear h2 h3 HN hsz hxd
  obtain ⟨nk, hnk⟩ : ∃ q, ks.length = q := ⟨_, rfl⟩
  obtain ⟨nn, hnn⟩ : ∃ q, ns.length = q := ⟨_, rfl⟩
  rw [hnk] at H2 hca hlk hkci
  rw [hnn] at H3 hcc hlen
  rw [hnk, hnn]
  have HNK := Lib.hid hnk
  have HNN := Lib.hid hnn
  clear hnk hnn
  have HA : Hid (Below w.heap.size w (w.alloc (.cells #[.int .i64 kd, .string tx, .slice a nk ca, .slice c nn cc] 53)).drew) := Lib.hid ((Below.refl _ _).alloc (Nat.le_refl _) _).drew
  go_enter Tryd.func102, Tryd.ntmps102
  go_wp2_with fail
  go_region
  go_upto_block 0 with fail
  go_cut [7] from 16 to 62 (fun v7 wx => v7 = .bool (decB (BaseOk xd)) ∧ wx = (w.alloc (.cells #[.int .i64 kd, .string tx, .slice a nk ca, .slice c nn cc] 53)).drew)
  case first =>
    obtain ⟨p, hpe⟩ : ∃ q, plainB tx = q := ⟨_, rfl⟩
    obtain ⟨z1, hz1⟩ : ∃ q, ((nk : Int) == 0) = q := ⟨_, rfl⟩
    obtain ⟨z2, hz2⟩ : ∃ q, ((nn : Int) == 0) = q := ⟨_, rfl⟩
    obtain ⟨z3, hz3⟩ : ∃ q, (tx.toList == []) = q := ⟨_, rfl⟩
    obtain ⟨z4, hz4⟩ : ∃ q, ((nk : Int) == (nn : Int)) = q := ⟨_, rfl⟩
    obtain ⟨q1, hq1⟩ : ∃ q, (kd == 1) = q := ⟨_, rfl⟩
    obtain ⟨q2, hq2⟩ : ∃ q, (kd == 2) = q := ⟨_, rfl⟩
    obtain ⟨q3, hq3⟩ : ∃ q, (kd == 3) = q := ⟨_, rfl⟩
    obtain ⟨q4, hq4⟩ : ∃ q, (kd == 4) = q := ⟨_, rfl⟩
    rw [hpe] at C1
    have HPE := Lib.hid (And.intro hpe (And.intro hz1 (And.intro hz2 (And.intro hz3 (And.intro hz4 (And.intro hq1 (And.intro hq2 (And.intro hq3 hq4))))))))
    clear hpe
    cases q1
    · cases q2
      · cases q3
        · cases q4
          · go_wp2_with fail
            go_meet
            exact ⟨congrArg Value.bool (decB_no (by
              have e0 := HXD.out; subst e0
              obtain ⟨-, -, -, -, -, f1, f2, f3, f4⟩ := HPE.out
              have g1 : kd ≠ 1 := by simpa using f1
              have g2 : kd ≠ 2 := by simpa using f2
              have g3 : kd ≠ 3 := by simpa using f3
              have g4 : kd ≠ 4 := by simpa using f4
              exact base0 g1 g2 g3 g4)).symm, rfl⟩
          · cases z3 <;> cases z4
            all_goals go_wp2_with fail
            all_goals go_meet
            all_goals (refine ⟨congrArg Value.bool ?_, rfl⟩; have e0 := HXD.out; subst e0; obtain ⟨f0, f1, f2, f3, f4, f5, f6, f7, f8⟩ := HPE.out; have g1 := HNK.out; have g2 := HNN.out; have k4 : kd = 4 := (by simpa using f8); first | (refine (decB_yes ((base4 k4).2 ⟨by simpa using f3, by have e4 : (nk : Int) = (nn : Int) := (by simpa using f4); simp only [g1, g2]; omega⟩)).symm) | (refine (decB_no fun h => ?_).symm; obtain ⟨h1, h2⟩ := (base4 k4).1 h; simp only [g1, g2] at h1 h2; first | (rw [h1] at f3; cases f3; done) | (rw [h2] at f4; simp at f4; done)))
        · cases z3 <;> cases z1
          all_goals go_wp2_with fail
          all_goals go_meet
          all_goals (refine ⟨congrArg Value.bool ?_, rfl⟩; have e0 := HXD.out; subst e0; obtain ⟨f0, f1, f2, f3, f4, f5, f6, f7, f8⟩ := HPE.out; have g1 := HNK.out; have g2 := HNN.out; have k4 : kd = 3 := (by simpa using f7); first | (refine (decB_yes ((base3 k4).2 ⟨by simpa using f3, by simp only [g1]; simpa using f1⟩)).symm) | (refine (decB_no fun h => ?_).symm; obtain ⟨h1, h2⟩ := (base3 k4).1 h; simp only [g1] at h1 h2; first | (rw [h1] at f3; cases f3; done) | (rw [h2] at f1; simp at f1; done)))
      · cases p <;> cases z1 <;> cases z2
        all_goals go_wp2_with (go_at_call 112; refine (C1.out _).mono ?_; rintro e w' ⟨rfl, rfl⟩)
        all_goals go_meet
        all_goals (refine ⟨congrArg Value.bool ?_, rfl⟩; have e0 := HXD.out; subst e0; obtain ⟨f0, f1, f2, f3, f4, f5, f6, f7, f8⟩ := HPE.out; have g1 := HNK.out; have g2 := HNN.out; have k4 : kd = 2 := (by simpa using f6); first | (refine (decB_yes ((base2 k4).2 ⟨f0, by simp only [g1]; simpa using f1, by simp only [g2]; simpa using f2⟩)).symm) | (refine (decB_no fun h => ?_).symm; obtain ⟨h1, h2, h3⟩ := (base2 k4).1 h; simp only [g1, g2] at h1 h2 h3; first | (rw [h1] at f0; cases f0; done) | (rw [h2] at f1; simp at f1; done) | (rw [h3] at f2; simp at f2; done)))
    · cases z3 <;> cases z1 <;> cases z2
      all_goals go_wp2_with fail
      all_goals go_meet
      all_goals (refine ⟨congrArg Value.bool ?_, rfl⟩; have e0 := HXD.out; subst e0; obtain ⟨f0, f1, f2, f3, f4, f5, f6, f7, f8⟩ := HPE.out; have g1 := HNK.out; have g2 := HNN.out; have k4 : kd = 1 := (by simpa using f5); first | (refine (decB_yes ((base1 k4).2 ⟨by simpa using f3, by simp only [g1]; simpa using f1, by simp only [g2]; simpa using f2⟩)).symm) | (refine (decB_no fun h => ?_).symm; obtain ⟨h1, h2, h3⟩ := (base1 k4).1 h; simp only [g1, g2] at h1 h2 h3; first | (rw [h1] at f3; cases f3; done) | (rw [h2] at f1; simp at f1; done) | (rw [h3] at f2; simp at f2; done)))
  case rest =>
    obtain ⟨rfl, rfl⟩ := hcut
    generalize hob : decB (BaseOk xd) = ob
    have HOB := Lib.hid hob
    clear hob C1
    obtain ⟨w1, hw1⟩ : ∃ q, (w.alloc (.cells #[.int .i64 kd, .string tx, .slice a nk ca, .slice c nn cc] 53)).drew = q := ⟨_, rfl⟩
    have x2 : w1.cell? ⟨w.heap.size, 2, none⟩ = some (.slice a nk ca) := by rw [← hw1]; simp
    have x3 : w1.cell? ⟨w.heap.size, 3, none⟩ = some (.slice c nn cc) := by rw [← hw1]; simp
    have hg1 : w.heap.size < w1.heap.size := by rw [← hw1]; simp
    rw [hw1] at HA ⊢
    have HA1 := Lib.hid HA.out
    clear hw1 HA
    have HS1 : Hid (ob = true → BaseOk xd ∧ ∀ j k, j < 0 → ks[j]? = some k → KeyOk ks j k) := Lib.hid fun h => by
      refine ⟨?_, fun j k hj => absurd hj (by omega)⟩
      by_cases hb : BaseOk xd
      · exact hb
      · have := HOB.out; rw [decB_no hb] at this; rw [← this] at h; cases h
    have HS2 : Hid (ob = false → ¬ ShapeOk xd) := Lib.hid fun h hs => by
      have := HOB.out; rw [decB_yes hs.1] at this; rw [← this] at h; cases h
    go_upto_block 1 with fail
    go_cut [7, 8] from 63 to 89 (fun v7 v8 wx => v7 = .bool (decB (ShapeOk xd)) ∧ wx.cell? ⟨w.heap.size, 3, none⟩ = some (.slice c nn cc) ∧ w.heap.size < wx.heap.size ∧ Below w.heap.size w wx)
    case first =>
      go_wp2_with fail
      go_loopw [7, 8] (fun v7 i wr => ∃ (ok : Bool) (i' : Nat), v7 = .bool ok ∧ i' ≤ nk ∧ i = .int .i64 i' ∧ Hid (ok = true → BaseOk xd ∧ ∀ j k, j < i' → ks[j]? = some k → KeyOk ks j k) ∧ Hid (ok = false → ¬ ShapeOk xd) ∧ wr.cell? ⟨w.heap.size, 2, none⟩ = some (.slice a nk ca) ∧ wr.cell? ⟨w.heap.size, 3, none⟩ = some (.slice c nn cc) ∧ w.heap.size < wr.heap.size ∧ Below w.heap.size w wr) (fun _ i _ => nk - (intOf i).toNat)
      case atStart => exact ⟨ob, 0, rfl, by omega, rfl, HS1, HS2, x2, x3, hg1, HA1.out⟩
      case round =>
        obtain ⟨ok, i, rfl, hi, rfl, hyes, hno, y2, y3, hg, hb⟩ := hrel
        have HB := Lib.hid hb
        clear x2 x3 hg1 HA1
        by_cases hlt : i < nk
        · have hli : (i : Int) < (nk : Int) := by omega
          cases ok
          · have hf := Lib.hid (decB_no (hno.out rfl))
            clear hb
            go_wp2_with fail
            go_meet
            exact ⟨congrArg Value.bool hf.out.symm, y3, hg, HB.out⟩
          · obtain ⟨k, b, off, hd, rfl, hA, hbb, hok, hc⟩ := (H2.out.below textLies hB HB.out).at hlt
            rw [Nat.mul_one] at hc
            unfold OkS at hok
            have HIC : Hid ((i : Int) ≤ (ca : Int)) := Lib.hid (by omega)
            have hic : (i : Int) ≤ (ca : Int) := HIC.out
            have CW : Hid (∀ m, Calls Tryd.prog 64 #[.string k] (wr.drewN m) fun e w' => e = .returned (.bool (wordB k)) ∧ w' = wr.drewN m) := Lib.hid fun m => (specWordRight k (by unfold maxLen; omega) _).mono fun _ _ ⟨h1, h2⟩ => ⟨h1, h2.symm⟩
            have CI : Hid (∀ m, Calls Tryd.prog 68 #[.slice (some ⟨b, off, none⟩) i ca, .string k] (wr.drewN m) fun e w' => e = .returned (.bool (inN k (ks.take i))) ∧ w' = wr.drewN m) := Lib.hid fun m => specInQ _ A B _ i ca _ k hok ((TextsAt.part (H2.out.below textLies hB HB.out) (Nat.le_of_lt hlt)).drewN m) (Nat.le_trans hB HB.out.size)
            have HBN : Hid (∀ m, Below w.heap.size w (wr.drewN m)) := Lib.hid fun m => ⟨HB.out.os, HB.out.tape, HB.out.output, HB.out.size, HB.out.block⟩
            have HD := Lib.hid hd
            obtain ⟨b1, hb1⟩ : ∃ q, wordB k = q := ⟨_, rfl⟩
            obtain ⟨b2, hb2⟩ : ∃ q, inN k (ks.take i) = q := ⟨_, rfl⟩
            rw [hb1] at CW
            rw [hb2] at CI
            have HY : Hid (b1 = true → b2 = false → BaseOk xd ∧ ∀ j k, j < i + 1 → ks[j]? = some k → KeyOk ks j k) := Lib.hid fun e1 e2 => ⟨(hyes.out rfl).1, fun j k' hj hk' => by
              by_cases e : j = i
              · subst e; rw [HD.out] at hk'; cases hk'; exact ⟨hb1.trans e1, hb2.trans e2⟩
              · exact (hyes.out rfl).2 j k' (by omega) hk'⟩
            have HN : Hid ((b1 = false ∨ b2 = true) → ¬ ShapeOk xd) := Lib.hid fun e h => by
              have e0 := HXD.out; subst e0
              obtain ⟨g1, g2⟩ := h.2 i k HD.out
              rcases e with e | e
              · rw [hb1, e] at g1; cases g1
              · rw [hb2, e] at g2; cases g2
            clear hlt hd hb hb1 hb2 hyes hno hok
            cases b1
            · go_upto_region 15 with fail
              go_quiet ((first | (go_at_call 64; exact Calls.quiet_of_same (CW.out _)) | (go_at_call 68; exact Calls.quiet_of_same (CI.out _))))
              go_wp2_with fail
              go_roundw
              case rel => exact ⟨false, i + 1, rfl, by omega, by go_num, Lib.hid (fun h => by cases h), Lib.hid (fun _ => HN.out (.inl rfl)), y2, y3, hg, HBN.out _⟩
              case measure => simp [intOf]; omega
            · cases b2
              · go_upto_region 15 with fail
                go_quiet ((first | (go_at_call 64; exact Calls.quiet_of_same (CW.out _)) | (go_at_call 68; exact Calls.quiet_of_same (CI.out _))))
                go_wp2_with fail
                go_roundw
                case rel => exact ⟨true, i + 1, rfl, by omega, by go_num, Lib.hid (fun _ => HY.out rfl rfl), Lib.hid (fun h => by cases h), y2, y3, hg, HBN.out _⟩
                case measure => simp [intOf]; omega
              · go_upto_region 15 with fail
                go_quiet ((first | (go_at_call 64; exact Calls.quiet_of_same (CW.out _)) | (go_at_call 68; exact Calls.quiet_of_same (CI.out _))))
                go_wp2_with fail
                go_roundw
                case rel => exact ⟨false, i + 1, rfl, by omega, by go_num, Lib.hid (fun h => by cases h), Lib.hid (fun _ => HN.out (.inr rfl)), y2, y3, hg, HBN.out _⟩
                case measure => simp [intOf]; omega
        · have hin : i = nk := by omega
          have hnl : (nk : Int) ≤ (i : Int) := by omega
          have hsh : Hid (ok = decB (ShapeOk xd)) := Lib.hid (by
            cases ok
            · exact (decB_no (hno.out rfl)).symm
            · refine (decB_yes ⟨(hyes.out rfl).1, fun j k hk => ?_⟩).symm
              have e0 := HXD.out; subst e0
              refine (hyes.out rfl).2 j k ?_ hk
              have := (List.getElem?_eq_some_iff.1 hk).1; have := HNK.out; simp only at *; omega)
          clear hlt hb hin
          go_wp2_with fail
          go_meet
          exact ⟨congrArg Value.bool hsh.out, y3, hg, HB.out⟩
    case rest =>
      obtain ⟨rfl, x3', hg2, hb2⟩ := hcut
      have HB2 := Lib.hid hb2
      clear hb2 x2 x3 hg1 HA1 HS1 HS2 HOB
      obtain ⟨os, hos⟩ : ∃ q, decB (ShapeOk xd) = q := ⟨_, rfl⟩
      rw [hos]
      obtain ⟨d1, hd1⟩ : ∃ q : Int, deep - 1 = q := ⟨_, rfl⟩
      have HD1 := Lib.hid hd1
      have hd1lo : -5000 ≤ d1 := by omega
      have hd1hi : d1 ≤ 100 := by omega
      have HQ : Hid (0 < deep → (PartOk deep.toNat xd ↔ (ShapeOk xd ∧ ∀ k ∈ ns, PartOk d1.toNat k))) := Lib.hid fun h => by
        have e0 := HXD.out; subst e0
        rw [show deep.toNat = d1.toNat + 1 by omega]; exact Iff.rfl
      have HQ0 : Hid (deep ≤ 0 → ¬ PartOk deep.toNat xd) := Lib.hid fun h => by rw [show deep.toNat = 0 by omega]; exact id
      have HS1 : Hid (os = true → ShapeOk xd ∧ ∀ j k, j < 0 → ns[j]? = some k → PartOk d1.toNat k) := Lib.hid fun h => by
        refine ⟨?_, fun j k hj => absurd hj (by omega)⟩
        by_cases hb : ShapeOk xd
        · exact hb
        · rw [decB_no hb] at hos; rw [← hos] at h; cases h
      have HS2 : Hid (os = false → ¬ (ShapeOk xd ∧ ∀ k ∈ ns, PartOk d1.toNat k)) := Lib.hid fun h hs => by
        rw [decB_yes hs.1] at hos; rw [← hos] at h; cases h
      have HSD : Hid (∀ k ∈ ns, (szN n k : Int) ≤ d1 + 5000) := Lib.hid fun k hk => by have := HSZ.out k hk; omega
      clear hos HSZ
      go_wp2_with fail
      go_loopw [7, 9] (fun v7 i wr => ∃ (ok : Bool) (i' : Nat), v7 = .bool ok ∧ i' ≤ nn ∧ i = .int .i64 i' ∧ Hid (ok = true → ShapeOk xd ∧ ∀ j k, j < i' → ns[j]? = some k → PartOk d1.toNat k) ∧ Hid (ok = false → ¬ (ShapeOk xd ∧ ∀ k ∈ ns, PartOk d1.toNat k)) ∧ wr.cell? ⟨w.heap.size, 3, none⟩ = some (.slice c nn cc) ∧ w.heap.size < wr.heap.size ∧ Below w.heap.size w wr) (fun _ i _ => nn - (intOf i).toNat)
      case atStart => exact ⟨os, 0, rfl, by omega, rfl, HS1, HS2, x3', hg2, HB2.out⟩
      case round =>
        obtain ⟨ok, i, rfl, hi, rfl, hyes, hno, y3, hg, hb⟩ := hrel
        have HB := Lib.hid hb
        clear x3' hg2 HB2 HS1 HS2
        by_cases hlt : i < nn
        · have hli : (i : Int) < (nn : Int) := by omega
          cases ok
          · have hf := Lib.hid (show decB (PartOk deep.toNat xd) = false from decB_no fun h => by
              by_cases hdd : 0 < deep
              · exact hno.out rfl ((HQ.out hdd).1 h)
              · exact HQ0.out (by omega) h)
            clear hb
            go_wp2_with fail
            go_ret
            exact ⟨ret_bool (by rw [← HXD.out]; exact hf.out.symm), HB.out⟩
          · obtain ⟨x, b, off, hd, rfl, hA, hbb, hxl⟩ := (H3.out.below (nodeLies n) hB HB.out).at hlt
            obtain ⟨a1, ca1, c1, cc1, hc, hv⟩ := hxl.val
            obtain ⟨d0, d1', d2, d3⟩ := nrow4 hc
            have HD := Lib.hid hd
            obtain ⟨pb, hpb⟩ : ∃ q, decB (PartOk d1.toNat x) = q := ⟨_, rfl⟩
            have HX : Hid (Calls Tryd.prog 102 #[.agg #[.int .i64 x.kind, .string x.text, .slice a1 x.keys.length ca1, .slice c1 x.kids.length cc1], .int .i64 d1] wr fun e w' => e = .returned (.bool pb) ∧ Below wr.heap.size wr w') := Lib.hid (by rw [← hpb]; exact HNH.out wr A B _ x d1 hv (Nat.le_trans hB HB.out.size) (HSD.out x (List.mem_of_getElem? hd)) hd1hi)
            have HY : Hid (pb = true → ShapeOk xd ∧ ∀ j k, j < i + 1 → ns[j]? = some k → PartOk d1.toNat k) := Lib.hid fun e1 => ⟨(hyes.out rfl).1, fun j k' hj hk' => by
              by_cases e : j = i
              · subst e; rw [HD.out] at hk'; cases hk'
                by_cases hb : PartOk d1.toNat x
                · exact hb
                · rw [decB_no hb] at hpb; rw [← hpb] at e1; cases e1
              · exact (hyes.out rfl).2 j k' (by omega) hk'⟩
            have HN : Hid (pb = false → ¬ (ShapeOk xd ∧ ∀ k ∈ ns, PartOk d1.toNat k)) := Lib.hid fun e h => by
              rw [decB_yes (h.2 x (List.mem_of_getElem? HD.out))] at hpb; rw [← hpb] at e; cases e
            clear hlt hd hb hc hxl hv hpb hyes hno
            go_wp2_with fail
            refine HX.out.mono ?_
            rintro e w2 ⟨rfl, hb2⟩
            have hk3 := kcell hb2 hg y3
            have hg1 := Nat.lt_of_lt_of_le hg hb2.size
            have HB1 := Lib.hid (HB.out.trans (hb2.mono HB.out.size))
            clear hb2 HX
            go_wp2_with fail
            go_roundw
            case rel => exact ⟨pb, i + 1, rfl, by omega, by go_num, HY, HN, hk3, hg1, HB1.out⟩
            case measure => simp [intOf]; omega
        · have hin : i = nn := by omega
          have hnl : (nn : Int) ≤ (i : Int) := by omega
          have hall : Hid (ok = decB (ShapeOk xd ∧ ∀ k ∈ ns, PartOk d1.toNat k)) := Lib.hid (by
            cases ok
            · exact (decB_no (hno.out rfl)).symm
            · refine (decB_yes ⟨(hyes.out rfl).1, fun k hk => ?_⟩).symm
              obtain ⟨j, hj, rfl⟩ := List.getElem_of_mem hk
              exact (hyes.out rfl).2 j _ (by have := HNN.out; omega) (List.getElem?_eq_getElem hj))
          clear hlt hb hin hyes hno
          by_cases hdd : 0 < deep
          · have hres : Hid (ok = decB (PartOk deep.toNat xd)) := Lib.hid (by rw [hall.out]; exact congrArg decB (propext (HQ.out hdd).symm))
            cases ok
            · go_wp2_with fail
              go_ret
              exact ⟨ret_bool (by rw [← HXD.out]; exact hres.out), HB.out⟩
            · go_wp2_with fail
              go_ret
              exact ⟨ret_bool (by rw [← HXD.out]; exact hres.out), HB.out⟩
          · have hdn : deep ≤ 0 := by omega
            have hf := Lib.hid (show decB (PartOk deep.toNat xd) = false from decB_no (HQ0.out hdn))
            clear hdd
            cases ok
            · go_wp2_with fail
              go_ret
              exact ⟨ret_bool (by rw [← HXD.out]; exact hf.out.symm), HB.out⟩
            · go_wp2_with fail
              go_ret
              exact ⟨ret_bool (by rw [← HXD.out, hf.out]; exact decide_eq_false (by omega)), HB.out⟩
theorem specPart : ∀ n, PartOne n
  | 0 => fun _ _ _ _ _ _ h => h.elim
  | n + 1 => partOne_of n (specPart n)

/-- A node that is right: at most 2000, no deeper than 100. -/
def RightN (n : Nat) (x : NodeP) : Prop := szN n x ≤ 2000 ∧ PartOk 100 x
theorem specNodeRight {n : Nat} (w : World) (A B : Nat) (v : Value) (x : NodeP) (hs : NodeV n w A B v x) (hB : B ≤ w.heap.size) :
    Calls Tryd.prog 78 #[v] w fun e w' => e = .returned (.bool (decB (RightN n x))) ∧ Below w.heap.size w w' := by
  obtain ⟨xd, hxd⟩ : ∃ y, y = x := ⟨_, rfl⟩
  have C1 := Lib.hid (specSize n)
  have C2 := Lib.hid (specPart n)
  have HS := Lib.hid hs
  have hv : ∃ v0 v1 v2 v3, v = .agg #[v0, v1, v2, v3] := by
    cases n with
    | zero => exact hs.elim
    | succ n => obtain ⟨a, ca, c, cc, hv, _⟩ := hs; exact ⟨_, _, _, _, hv⟩
  obtain ⟨v0, v1, v2, v3, rfl⟩ := hv
  have HA : Hid (∀ o, Below w.heap.size w (w.alloc o)) := Lib.hid fun o => (Below.refl _ _).alloc (Nat.le_refl _) o
  clear hs
  have HRES : Hid (∀ k, k = upto (szN n x) 2000 → (k ≤ 2000 ↔ szN n x ≤ 2000)) := Lib.hid fun k hk => by unfold upto at hk; omega
  go_enter Tryd.func78, Tryd.ntmps78
  go_wp2_with fail
  refine (C1.out _ A B _ x 2000 (HS.out.below hB (HA.out _)) (Nat.le_trans hB (HA.out _).size) (Nat.le_refl _)).mono ?_
  rintro e w1 ⟨rfl, hb1⟩
  have HB1 := Lib.hid ((HA.out _).trans (hb1.mono (HA.out _).size))
  have ⟨⟨k0, k1, k2, k3⟩, _⟩ := keep4 ((hb1.block w.heap.size (by simp)).trans (Go.Deep.blk_alloc_new _ _))
  clear hb1
  by_cases hle : szN n x ≤ 2000
  · have hu : upto (szN n x) 2000 = szN n x := by unfold upto; omega
    rw [hu]
    obtain ⟨q, hq⟩ : ∃ q, szN n x = q := ⟨_, rfl⟩
    have HQ := Lib.hid hq
    rw [hq] at hle ⊢
    have hqi : (q : Int) ≤ 2000 := by omega
    have HRT : Hid (decB (PartOk 100 x) = decB (RightN n x)) := Lib.hid (congrArg decB (propext ⟨fun h => ⟨by rw [hq]; exact hle, h⟩, fun h => h.2⟩))
    clear hu hq
    go_wp2_with fail
    refine (C2.out _ A B _ x 100 (HS.out.below hB HB1.out) (Nat.le_trans hB HB1.out.size) (by rw [HQ.out]; omega) (by omega)).mono ?_
    rintro e w2 ⟨rfl, hb2⟩
    have HB2 := Lib.hid (HB1.out.trans (hb2.mono HB1.out.size))
    rw [show (100 : Int).toNat = 100 from rfl, HRT.out]
    clear hb2
    go_wp2_with fail
    go_ret
    exact ⟨rfl, HB2.out⟩
  · have hu : upto (szN n x) 2000 = 2001 := by unfold upto; omega
    rw [hu]
    have hf := Lib.hid (decB_no (p := RightN n x) fun h => hle h.1)
    clear hle hu
    go_wp2_with fail
    go_ret
    exact ⟨ret_bool hf.out.symm, HB1.out⟩
end Go.Proofs.YtlncdkeooacebaaDoor.Rw
