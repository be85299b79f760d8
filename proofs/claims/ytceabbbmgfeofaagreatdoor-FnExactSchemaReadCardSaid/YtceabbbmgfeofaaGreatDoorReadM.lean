/-
  Contract: spec.SchemaRead; of what was there nothing is changed. Conditions: a text in memory.
-/
import Derived.Test.YtceabbbmgfeofaaGreatDoorRows
import Derived.Test.YtceabbbmgfeofaaGreatDoorReadP
import Derived.Test.YtceabbbmgfeofaaGreatDoorOwnTy
import Derived.Test.YtceabbbmgfeofaaGreatDoorOwnRw
import Derived.Test.YtceabbbmgfeofaaGreatDoorSchTC
import Derived.Deep.RegionLaw
namespace Go.Proofs.YtceabbbmgfeofaaGreatDoor.Rw
open Go.RowKit Words Decs Splits
set_option linter.unusedVariables false
set_option maxRecDepth 100000

/-- What reading a text answers. -/
noncomputable def outS (t : ByteArray) : List TypeP × Int :=
  if 8000 < t.size then ([], 2) else if schT (schemaP (bL t)) = t ∧ t.size ≠ 0 then (schemaP (bL t), 0) else ([], 3)
def OutS (w w' : World) (t : ByteArray) (e : Ending) : Prop := ∃ a ca, e = .returned (.agg #[.slice a (outS t).1.length ca, .int .i64 (outS t).2]) ∧ (outS t).1.length ≤ ca ∧ TypesX w' w.heap.size w'.heap.size a (outS t).1.length (outS t).1
/-- Where the types lie that are read, and that the members of each are a row of the call's own. -/
def MemsS (w w' : World) (t : ByteArray) (e : Ending) : Prop := ∀ (i : Nat) (x : TypeP), (outS t).1[i]? = some x → ∃ gb cap c cc base, e = .returned (.agg #[.slice (some ⟨gb, 0, none⟩) (outS t).1.length cap, .int .i64 (outS t).2]) ∧ w.heap.size ≤ gb ∧ w.heap.size ≤ base ∧
  w'.cell? ⟨gb, i * 5 + 4, none⟩ = some (.slice c x.members.length cc) ∧ OwnTs w' base (.slice c x.members.length cc) x.members
theorem MemsS.none {w w' : World} {t : ByteArray} {e : Ending} (h : (outS t).1 = []) : MemsS w w' t e := fun i x hi => by rw [h] at hi; simp at hi
/-- w' is w with new blocks, and writes to block p alone. -/
structure OnlyR (p : Nat) (w w' : World) : Prop where
  os : w'.os = w.os
  tape : w'.tape = w.tape
  output : w'.output = w.output
  size : w.heap.size ≤ w'.heap.size
  block : ∀ k, k < w.heap.size → k ≠ p → w'.heap[k]? = w.heap[k]?
theorem OnlyR.refl (p : Nat) (w : World) : OnlyR p w w := ⟨rfl, rfl, rfl, Nat.le_refl _, fun _ _ _ => rfl⟩
theorem OnlyR.below {p B : Nat} {a b c : World} (h : OnlyR p a b) (hB : a.heap.size ≤ B) (g : Below B b c) : OnlyR p a c :=
  ⟨g.os.trans h.os, g.tape.trans h.tape, g.output.trans h.output, Nat.le_trans h.size g.size, fun k hk hp => (g.block k (Nat.lt_of_lt_of_le hk hB)).trans (h.block k hk hp)⟩
theorem OnlyR.trans {p : Nat} {a b c : World} (h : OnlyR p a b) (g : OnlyR p b c) : OnlyR p a c :=
  ⟨g.os.trans h.os, g.tape.trans h.tape, g.output.trans h.output, Nat.le_trans h.size g.size, fun k hk hp => (g.block k (Nat.lt_of_lt_of_le hk h.size) hp).trans (h.block k hk hp)⟩
theorem OnlyR.set {p j : Nat} {a b : World} (h : OnlyR p a b) (v : Value) : OnlyR p a (b.setCell ⟨p, j, none⟩ v) :=
  ⟨h.os, h.tape, h.output, by simpa using h.size, fun k hk hp => (Go.Deep.blk_setCell_other _ ⟨p, j, none⟩ _ _ hp).trans (h.block k hk hp)⟩
theorem OnlyR.toBelow {p B : Nat} {a b : World} (h : OnlyR p a b) (hp : B ≤ p) (hB : B ≤ a.heap.size) : Below B a b :=
  ⟨h.os, h.tape, h.output, h.size, fun k hk => h.block k (by omega) (by omega)⟩
theorem toList_ubR (l : List UInt8) : (ubR l).toList = l := by rw [Lib.toList_data]; simp [ubR]
theorem row2z {w : World} {b : Nat} {v0 v1 : Value} (h : RowN w b 0 [v0, v1]) : w.cell? ⟨b, 0, none⟩ = some v0 ∧ w.cell? ⟨b, 1, none⟩ = some v1 := ⟨h 0 _ rfl, h 1 _ rfl⟩

set_option maxHeartbeats 4000000 in
theorem specSchemaReadM (t : ByteArray) (ht : OkS t) (w : World) :
    Calls Tryz.prog 21 #[.string t] w fun e w' => (OutS w w' t e ∧ MemsS w w' t e) ∧ Below w.heap.size w w' := by
  unfold OkS at ht
  by_cases h8 : 8000 < t.size
  · have HF : Hid (outS t = ([], 2)) := Lib.hid (by unfold outS; rw [if_pos h8])
    have h8i : (8000 : Int) < (t.size : Int) := by omega
    go_enter Tryz.func21, Tryz.ntmps21
    go_wp2_with fail
    exact bodyPost_ret (v := .agg #[.slice none 0 0, .int .i64 2]) (by simp [results, Tryz.results21, go_sem]) rfl ⟨⟨⟨none, 0, by rw [HF.out]; rfl, by rw [HF.out]; exact Nat.le_refl _, by rw [HF.out]; exact RowsX.nil (by simp)⟩, MemsS.none (by rw [HF.out])⟩, (Below.refl _ _).alloc (Nat.le_refl _) _⟩
  · have h8i : (t.size : Int) ≤ 8000 := by omega
    have HF : Hid (outS t = if schT (schemaP (bL t)) = t ∧ t.size ≠ 0 then (schemaP (bL t), 0) else ([], 3)) := Lib.hid (by unfold outS; rw [if_neg h8])
    have C1 : Hid (∀ w, Calls Tryz.prog 58 #[.string t, .int .u8 10] w fun e w' => (∃ a cap, e = .returned (.slice a (splitL 10 (bL t)).length cap) ∧ StrsAt w' w.heap.size w'.heap.size a (splitL 10 (bL t)).length (splitL 10 (bL t))) ∧ Below w.heap.size w w') := Lib.hid fun w => specSplitR t (by omega) 10 w
    have hP := splitL_ne 10 (bL t)
    have hPl : (splitL 10 (bL t)).length ≤ 8001 := by have := splitR_len 10 (bL t); rw [bL_len] at this; omega
    have HPs : Hid (∀ x ∈ splitL 10 (bL t), x.length ≤ 8000) := Lib.hid fun x hx => by have := splitR_sizes 10 (bL t) x hx; rw [bL_len] at this; omega
    have HS : Hid (schemaP (bL t) = ((splitL 10 (bL t)).dropLast.take 13).map fun l => lineP (splitL 32 l)) := Lib.hid rfl
    generalize schemaP (bL t) = sp at *
    generalize splitL 10 (bL t) = P at *
    clear h8
    go_enter Tryz.func21, Tryz.ntmps21
    go_wp2_with fail
    refine (C1.out _).mono ?_
    rintro e w1 ⟨⟨a1, cap1, rfl, hs1⟩, hb1⟩
    have hkk := keptR hb1
    have HA : Below w.heap.size w ((w.alloc (.cells #[.slice none 0 0, .int .i64 0] 54)).alloc (.cells #[.slice none 0 0] 25)) := ((Below.refl _ _).alloc (Nat.le_refl _) _).alloc (by simp) _
    have HB1 := Lib.hid (HA.trans (hb1.mono HA.size))
    have hG : w.heap.size + 2 ≤ w1.heap.size := by have := lt_of_get hkk.2; omega
    obtain ⟨P0, PR, rfl⟩ := consR hP
    obtain ⟨b1, o1, rfl, hlo1, hhi1, _⟩ := strsR hs1 (i := 0) (x := P0) rfl
    have hlo2 : w.heap.size + 2 ≤ b1 := by simp at hlo1; omega
    have HS1 : Hid (∀ (i : Nat) (x : List UInt8), (P0 :: PR)[i]? = some x → w1.cell? ⟨b1, o1 + i, none⟩ = some (.string (ubR x))) := Lib.hid fun i x hx => by
      obtain ⟨b, o, e, _, _, hc⟩ := strsR hs1 hx
      cases e; exact hc
    clear hb1 hs1 HA hlo1 hP
    obtain ⟨n, hn⟩ : ∃ n, min 13 ((P0 :: PR).length - 1) = n := ⟨_, rfl⟩
    have HD : Hid (∀ i, i < n → ∃ x, (P0 :: PR)[i]? = some x ∧ x.length ≤ 8000 ∧ sp[i]? = some (lineP (splitL 32 x))) := Lib.hid fun i hi => by
      have hil : i < (P0 :: PR).length := by omega
      refine ⟨(P0 :: PR)[i], List.getElem?_eq_getElem hil, HPs.out _ (List.getElem_mem hil), ?_⟩
      rw [HS.out, List.getElem?_map, List.getElem?_take_of_lt (by omega), List.getElem?_dropLast, if_pos (by omega), List.getElem?_eq_getElem hil]; rfl
    have HSn : Hid (sp.length = n) := Lib.hid (by rw [HS.out, List.length_map, List.length_take, List.length_dropLast]; omega)
    have HK0 := Lib.hid hkk.1
    have hpl0 : 0 < (P0 :: PR).length := by simp
    clear HS HPs
    generalize (P0 :: PR).length = pl at *
    have hn1 : n ≤ 13 := by omega
    have hn2 : n ≤ pl - 1 := by omega
    have hn3 : n = 13 ∨ n = pl - 1 := by omega
    obtain ⟨G, hGe⟩ : ∃ G, w1.heap.size = G := ⟨_, rfl⟩
    rw [hGe] at hG hhi1
    have hkz := hkk.2
    clear hkk hn
    go_wp2_with fail
    go_loopw [5] (fun i wr => ∃ (i' : Nat) (av : Option Addr) (cap : Nat) (L : List RowT), i' ≤ n ∧ i = .int .i64 i' ∧ L.length = i' ∧ wr.heap[w.heap.size + 1]? = some (.cells #[.slice av i' cap] 25 (0, 0)) ∧ Hid (OwnTy wr G (.slice av i' cap) L) ∧ Hid (L.map RowT.x = sp.take i') ∧ Hid (∀ r ∈ L, r.own = true) ∧ Hid (OnlyR (w.heap.size + 1) w1 wr)) (fun i _ => n - (intOf i).toNat)
    case atStart => exact ⟨0, none, 0, [], by omega, rfl, rfl, hkz, Lib.hid (OwnTy.nil _ _), Lib.hid (by rw [List.take_zero]; rfl), Lib.hid (fun r hr => by cases hr), Lib.hid (OnlyR.refl _ _)⟩
    case round =>
      obtain ⟨i, av, cap, L, hi, rfl, hLl, hz, HO, HM, HQW, HR⟩ := hrel
      clear hkz
      have hsz : G ≤ wr.heap.size := by rw [← hGe]; exact HR.out.size
      have hbl : ∀ c, c < G → c ≠ w.heap.size + 1 → wr.heap[c]? = w1.heap[c]? := fun c h1 h2 => HR.out.block c (by rw [hGe]; exact h1) h2
      have HBL := Lib.hid hbl
      clear hbl
      by_cases hlt : i < n
      · obtain ⟨x, hx, hxl, hsx⟩ := HD.out i hlt
        have hcx : wr.cell? ⟨b1, o1 + i, none⟩ = some (.string (ubR x)) := (World.cell?_of_block (w := w1) (HBL.out b1 hhi1 (by omega))).trans (HS1.out i x hx)
        have hli : (i : Int) < (pl : Int) - 1 := by omega
        have hlj : (i : Int) < (pl : Int) := by omega
        have hw1 : IntKind.i64.wrap ((pl : Int) - 1) = (pl : Int) - 1 := IntWalk.i64_in _ (by omega)
        have h12 : (i : Int) ≤ 12 := by omega
        have C2 : Hid (∀ w, Calls Tryz.prog 58 #[.string (ubR x), .int .u8 32] w fun e w' => (∃ a cap, e = .returned (.slice a (splitL 32 x).length cap) ∧ StrsAt w' w.heap.size w'.heap.size a (splitL 32 x).length (splitL 32 x)) ∧ Below w.heap.size w w') := Lib.hid fun w => by
          have := specSplitR (ubR x) (by rw [ubR_size]; omega) 32 w
          rw [bL_ub] at this; exact this
        have HSX := Lib.hid hsx
        have hQ := splitL_ne 32 x
        have hQl : (splitL 32 x).length ≤ 8001 := by have := splitR_len 32 x; omega
        have HQs : Hid (∀ y ∈ splitL 32 x, y.length ≤ 8000) := Lib.hid fun y hy => by have := splitR_sizes 32 x y hy; omega
        clear hx hsx hlt
        generalize splitL 32 x = Q at *
        generalize ubR x = ux at *
        go_wp2_with fail
        refine (C2.out _).mono ?_
        rintro e w2 ⟨⟨a2, cap2, rfl, hs2⟩, hb2⟩
        obtain ⟨Q0, QR, rfl⟩ := consR hQ
        obtain ⟨b2, o2, rfl, hlo3, hhi2, hd0⟩ := strsR hs2 (i := 0) (x := Q0) rfl
        rw [Nat.add_zero] at hd0
        have HS2 : Hid (∀ (j : Nat) (y : List UInt8), (Q0 :: QR)[j]? = some y → w2.cell? ⟨b2, o2 + j, none⟩ = some (.string (ubR y))) := Lib.hid fun j y hy => by
          obtain ⟨b, o, e, _, _, hc⟩ := strsR hs2 hy
          cases e; exact hc
        have hz2 := (hb2.block _ (lt_of_get hz)).trans hz
        have HO2 := Lib.hid (HO.out.below hb2)
        have HR2 := Lib.hid (HR.out.below HR.out.size hb2)
        have hsz2 : wr.heap.size ≤ w2.heap.size := hb2.size
        have hGz : w.heap.size + 1 < G := by omega
        obtain ⟨nm, hnm⟩ : ∃ nm, nameP (Q0 :: QR) = nm := ⟨_, rfl⟩
        have hnL : nm.size ≤ 8000 := by
          rw [← hnm]; unfold nameP
          split
          · rename_i h
            rw [ubR_size, List.getD_eq_getElem?_getD, List.getElem?_eq_getElem h]
            exact HQs.out _ (List.getElem_mem h)
          · simp
        have HNM := Lib.hid hnm
        obtain ⟨m, hm⟩ : ∃ m, (argsP (Q0 :: QR)).length = m := ⟨_, rfl⟩
        have HAR : Hid (∀ j, j < m → ∃ y, (Q0 :: QR)[2 + j]? = some y ∧ (argsP (Q0 :: QR))[j]? = some y ∧ y.length ≤ 8000) := Lib.hid fun j hj => by
          have hml : m = min 10 ((Q0 :: QR).length - 2) := by rw [← hm]; unfold argsP; rw [List.length_take, List.length_drop]
          have hil : 2 + j < (Q0 :: QR).length := by omega
          refine ⟨(Q0 :: QR)[2 + j], List.getElem?_eq_getElem hil, ?_, HQs.out _ (List.getElem_mem hil)⟩
          unfold argsP
          rw [List.getElem?_take_of_lt (by omega), List.getElem?_drop, List.getElem?_eq_getElem hil]
        have HAL := Lib.hid hm
        have hml : m = min 10 ((Q0 :: QR).length - 2) := by rw [← hm]; unfold argsP; rw [List.length_take, List.length_drop]
        have HHD : Hid (lineP (Q0 :: QR) = { bodyP Q0 nm (argsP (Q0 :: QR)) with kind := kindP Q0 }) := Lib.hid (by rw [← hnm]; rfl)
        obtain ⟨g, hg⟩ : ∃ g, w2.heap.size = g := ⟨_, rfl⟩
        have hnl := Nat.lt_or_ge 1 (Q0 :: QR).length
        have hql0 : 0 < (Q0 :: QR).length := by simp
        have HN1 : Hid (1 < (Q0 :: QR).length → w2.cell? ⟨b2, o2 + 1, none⟩ = some (.string nm)) := Lib.hid fun h => by
          rw [HS2.out 1 _ (List.getElem?_eq_getElem h), ← hnm]
          unfold nameP
          rw [if_pos h, List.getD_eq_getElem?_getD, List.getElem?_eq_getElem h]; rfl
        have HN2 : Hid (¬ 1 < (Q0 :: QR).length → nm = ⟨#[]⟩) := Lib.hid fun h => by
          rw [← hnm]; unfold nameP; rw [if_neg h]; rfl
        clear hs2 hb2 hz hQ hnm hm HQs C2 hcx
        generalize (Q0 :: QR).length = ql at *
        have hb2g : b2 < g := by omega
        have hb2n : b2 ≠ g := by omega
        have hb2m : ¬ (b2 = g) := by omega
        have hm1 : m ≤ 10 := by omega
        have hm2 : m + 2 ≤ ql ∨ m = 0 := by omega
        have hm3 : m = 10 ∨ ql ≤ m + 2 := by omega
        have hq0i : (0 : Int) < (ql : Int) := by omega
        clear hml
        have HZ2 := Lib.hid hz2
        clear hz2
        have HG3 := Lib.hid (heap_alloc_new w2 (.cells #[.string nm, .int .i64 0, .int .i64 0, .slice none 0 0, .slice none 0 0] 48))
        have HB3 : Hid (Below w2.heap.size w2 (w2.alloc (.cells #[.string nm, .int .i64 0, .int .i64 0, .slice none 0 0, .slice none 0 0] 48))) := Lib.hid ((Below.refl _ _).alloc (Nat.le_refl _) _)
        have HS3 : Hid ((w2.alloc (.cells #[.string nm, .int .i64 0, .int .i64 0, .slice none 0 0, .slice none 0 0] 48)).heap.size = g + 1) := Lib.hid (by simp [hg])
        rw [hg] at HG3
        obtain ⟨W3, hW3⟩ : ∃ W3, w2.alloc (.cells #[.string nm, .int .i64 0, .int .i64 0, .slice none 0 0, .slice none 0 0] 48) = W3 := ⟨_, rfl⟩
        rw [hW3] at HG3 HB3 HS3
        have HW3 := Lib.hid hW3
        clear hW3
        rcases hnl with hnl | hnl
        case' inl =>
          have hd1 := HN1.out hnl
          have hnli : (1 : Int) < (ql : Int) := by omega
          have hd1A : (w2.alloc (.cells #[.string ⟨#[]⟩, .int .i64 0, .int .i64 0, .slice none 0 0, .slice none 0 0] 48)).cell? ⟨b2, o2 + 1, none⟩ = some (.string nm) :=
            (World.cell?_of_block (w := w2) (Go.Deep.blk_alloc_lt _ _ _ (by omega))).trans hd1
          clear HN1 HN2
          go_wp2_with fail
          rw [HW3.out]
          clear hd1A hd1 hnl
        case' inr =>
          have hnli : (ql : Int) ≤ 1 := by omega
          have HNE := Lib.hid (HN2.out (by omega))
          clear HN1 HN2
          go_wp2_with fail
          have hW4 := HW3.out
          rw [HNE.out] at hW4
          rw [hW4]
          clear hW4 hnl
        all_goals
          go_loopw [8] (fun k wr => ∃ (j : Nat) (x' : TypeP) (fa : Option Addr) (fc : Nat) (ma : Option Addr) (mc : Nat), j ≤ m ∧ k = .int .i64 ((j : Int) + 2) ∧ Hid (x' = bodyP Q0 nm ((argsP (Q0 :: QR)).take j)) ∧ wr.heap[g]? = some (.cells #[.string nm, .int .i64 0, .int .i64 x'.bytes, .slice fa x'.fields.length fc, .slice ma x'.members.length mc] 48 (0, 0)) ∧ Hid (OwnFs wr (g + 1) (.slice fa x'.fields.length fc) x'.fields) ∧ Hid (OwnTs wr (g + 1) (.slice ma x'.members.length mc) x'.members) ∧ Hid (x'.fields = [] → fa = none ∧ fc = 0) ∧ Hid (x'.members = [] → ma = none ∧ mc = 0) ∧ Hid (OnlyR g W3 wr)) (fun k _ => m + 2 - (intOf k).toNat)
          case atStart => exact ⟨0, ⟨nm, 0, 0, [], []⟩, none, 0, none, 0, by omega, by go_num, Lib.hid (by rw [List.take_zero]; rfl), HG3.out, Lib.hid (OwnFs.nil _ _), Lib.hid (OwnTs.nil _ _), Lib.hid fun _ => ⟨rfl, rfl⟩, Lib.hid fun _ => ⟨rfl, rfl⟩, Lib.hid (OnlyR.refl _ _)⟩
          case round =>
            obtain ⟨j, x', fa, fc, ma, mc, hj, rfl, HX, hgk, HFk, HTk, HFn, HMn, HRk⟩ := hrel
            have hgl := lt_of_get hgk
            have HBk : Hid (∀ c, c < g → wr.heap[c]? = w2.heap[c]?) := Lib.hid fun c hc => (HRk.out.block c (by rw [HS3.out]; omega) (by omega)).trans (HB3.out.block c (by omega))
            have hd0k : wr.cell? ⟨b2, o2, none⟩ = some (.string (ubR Q0)) := (World.cell?_of_block (w := w2) (HBk.out b2 hb2g)).trans hd0
            have HBO : Hid (BodyOk Q0 nm j x') := Lib.hid (by
              rw [HX.out]
              exact body_ok Q0 nm j _ (by rw [List.length_take, HAL.out]; omega))
            by_cases hjl : j < m
            · try (exfalso; omega)
              all_goals
                obtain ⟨y, hy, hya, hyl⟩ := HAR.out j hjl
                have hcy : wr.cell? ⟨b2, o2 + (j + 2), none⟩ = some (.string (ubR y)) := by
                  have := HS2.out _ _ hy
                  rw [Nat.add_comm 2 j] at this
                  exact (World.cell?_of_block (w := w2) (HBk.out b2 hb2g)).trans this
                have hki : (j : Int) + 2 < (ql : Int) := by omega
                have hkj : (j : Int) + 2 < 12 := by omega
                have hj0 : (0 : Int) ≤ (j : Int) + 2 := by omega
                have hjt : ((j : Int) + 2).toNat = j + 2 := by omega
                have HNX : Hid (stepP Q0 x' y = bodyP Q0 nm ((argsP (Q0 :: QR)).take (j + 1))) := Lib.hid (by rw [List.take_add_one, hya, Option.toList_some, bodyP_snoc, HX.out])
                have CN : Hid (∀ w, Calls Tryz.prog 59 #[.string (ubR y)] w fun e w' => e = .returned (.int .i64 (numR y)) ∧ w = w') := Lib.hid fun w => by
                  have := specNumR (ubR y) (by rw [ubR_size]; omega) w
                  rwa [bL_ub] at this
                have CP : Hid (∀ w, Calls Tryz.prog 60 #[.string (ubR y)] w fun e w' => e = .returned (.agg (partP2 y).cells.toArray) ∧ Below w.heap.size w w') := Lib.hid fun w => by
                  have := specPart2 (ubR y) (by rw [ubR_size]; omega) w
                  rwa [bL_ub] at this
                have ⟨⟨t0, t1, t2, t3, t4⟩, p0, p1, p2, p3, p4⟩ := keep5 hgk
                have HGk := Lib.hid hgk
                clear hy hya hgk hd0
                have hu0 := toList_ubR Q0
                by_cases q1 : Q0 = leafW
                · have e1 : ((ubR Q0).toList == [108, 101, 97, 102]) = true := by rw [hu0, q1]; rfl
                  have HSt : Hid (stepP Q0 x' y = { x' with bytes := numR y }) := Lib.hid (by unfold stepP; rw [if_pos q1])
                  clear hu0 q1
                  generalize ubR Q0 = u0 at *
                  generalize ubR y = uy at *
                  generalize numR y = nv at *
                  go_wp2_with ((go_at_call 59; refine (CN.out _).mono ?_; rintro e w5 ⟨rfl, rfl⟩))
                  go_roundw
                  case rel => exact ⟨j + 1, { x' with bytes := nv }, fa, fc, ma, mc, by omega, by go_num, Lib.hid (by rw [← HNX.out, HSt.out]), heap_setCell_same wr g 2 _ _ _ HGk.out, Lib.hid (OwnFs.frame HFk.out fun c c1 _ => Go.Deep.blk_setCell_other _ ⟨g, 2, none⟩ _ c (by show c ≠ g; omega)), Lib.hid (OwnTs.frame HTk.out fun c c1 _ => Go.Deep.blk_setCell_other _ ⟨g, 2, none⟩ _ c (by show c ≠ g; omega)), HFn, HMn, Lib.hid (HRk.out.set _)⟩
                  case measure => simp [intOf]; omega
                · have e1 : ((ubR Q0).toList == [108, 101, 97, 102]) = false := by rw [hu0]; exact beq_eq_false_iff_ne.2 q1
                  by_cases q2 : Q0 = objW
                  · have e2 : ((ubR Q0).toList == [111, 98, 106]) = true := by rw [hu0, q2]; rfl
                    have HSt : Hid (stepP Q0 x' y = { x' with fields := x'.fields ++ [partP2 y] }) := Lib.hid (by unfold stepP; rw [if_neg q1, if_pos q2])
                    have HOBJ : Hid (Q0 ≠ oneW) := Lib.hid (by rw [q2]; decide)
                    clear hu0 q1 q2
                    have hfl : x'.fields.length ≤ 10 := by have := HBO.out.few; omega
                    generalize ubR Q0 = u0 at *
                    generalize ubR y = uy at *
                    generalize partP2 y = f at *
                    have HOd : Hid (OwnFs wr.drew (g + 1) (.slice fa x'.fields.length fc) x'.fields) := Lib.hid (OwnFs.frame HFk.out fun _ _ _ => rfl)
                    have HGd : Hid (wr.drew.heap[g]? = _) := HGk
                    have hzd : g + 1 ≤ wr.drew.heap.size := hgl
                    simp only [FieldP.cells] at CP
                    go_wp2_with fail
                    go_region_law (first
                      | (refine step_app_field (by rfl) _ _ (by rfl) (g + 1) (.slice fa x'.fields.length fc) x'.fields (by rfl) HO3.out w5.heap.size 1 (by rfl) f HC3.out (by omega) hz3 ?_; intro a3 cap3 w6 hown3 hb3; have HG6 := Lib.hid ((hb3.block g (by omega)).trans HGN.out); have ⟨⟨s0, s1, s2, s3, s4⟩, r0, r1, r2, r3, r4⟩ := keep5 HG6.out)
                      | (go_simp; go_at_call 60; refine (CP.out _).mono ?_; rintro e w5 ⟨rfl, hb5⟩; have HG5 := Lib.hid ((hb5.block g hzd).trans HGd.out); have hgl5 := lt_of_get HG5.out; have ⟨⟨n0, n1, n2, n3, n4⟩, _⟩ := keep5 HG5.out; have HO3 : Hid (OwnFs (w5.alloc (.cells #[.string f.name, .string f.typ, .bool f.list, .bool f.must, .int .i64 f.size, .int .i64 f.cap] 50)) (g + 1) (.slice fa x'.fields.length fc) x'.fields) := Lib.hid ((HOd.out.below hb5).below ((Below.refl _ _).alloc (Nat.le_refl _) _)); have HC3 : Hid ((w5.alloc (.cells #[.string f.name, .string f.typ, .bool f.list, .bool f.must, .int .i64 f.size, .int .i64 f.cap] 50)).heap[w5.heap.size]? = some (.cells f.cells.toArray 50 (0, 0))) := Lib.hid (heap_alloc_new w5 _); have HGN := Lib.hid ((Go.Deep.blk_alloc_lt w5 (.cells #[.string f.name, .string f.typ, .bool f.list, .bool f.must, .int .i64 f.size, .int .i64 f.cap] 50) g hgl5).trans HG5.out); have hz3 : g + 1 ≤ (w5.alloc (.cells #[.string f.name, .string f.typ, .bool f.list, .bool f.must, .int .i64 f.size, .int .i64 f.cap] 50)).heap.size := by simp; omega))
                    all_goals
                      have hlen : (x'.fields ++ [f]).length = x'.fields.length + 1 := by simp
                      have HW5 := ((Below.refl w5.heap.size w5).alloc (Nat.le_refl _) (.cells #[.string f.name, .string f.typ, .bool f.list, .bool f.must, .int .i64 f.size, .int .i64 f.cap] 50))
                      have HBB := Lib.hid ((((Below.refl (g + 1) wr).drew).trans (hb5.mono hzd)).trans ((HW5.mono (by omega)).trans hb3))
                      have hg6 : (w6.setCell ⟨g, 3, none⟩ (.slice a3 (x'.fields.length + 1) cap3)).heap[g]? = some (.cells #[.string nm, .int .i64 0, .int .i64 x'.bytes, .slice a3 (x'.fields.length + 1) cap3, .slice ma x'.members.length mc] 48 (0, 0)) := heap_setCell_same w6 g 3 _ _ _ HG6.out
                      have HO6 : Hid (OwnFs (w6.setCell ⟨g, 3, none⟩ (.slice a3 (x'.fields.length + 1) cap3)) (g + 1) (.slice a3 (x'.fields.length + 1) cap3) (x'.fields ++ [f])) := Lib.hid (OwnFs.frame hown3 fun q q1 q2 => Go.Deep.blk_setCell_other _ ⟨g, 3, none⟩ _ q (by show q ≠ g; omega))
                      have HTm : Hid (OwnTs (w6.setCell ⟨g, 3, none⟩ (.slice a3 (x'.fields.length + 1) cap3)) (g + 1) (.slice ma x'.members.length mc) x'.members) := Lib.hid (by
                        have hm0 := HBO.out.members HOBJ.out
                        obtain ⟨e1, e2⟩ := HMn.out hm0
                        rw [hm0, e1, e2]; exact OwnTs.nil _ _)
                      clear hb5 hb3 hown3 HW5
                      go_wp2_with fail
                      go_roundw
                      case rel => exact ⟨j + 1, { x' with fields := x'.fields ++ [f] }, a3, cap3, ma, mc, by omega, by go_num, Lib.hid (by rw [← HNX.out, HSt.out]), by show _ = some (Obj.cells #[.string nm, .int .i64 0, .int .i64 x'.bytes, .slice a3 (x'.fields ++ [f]).length cap3, .slice ma x'.members.length mc] 48 (0, 0)); rw [hlen]; exact hg6, Lib.hid (by show OwnFs _ _ (.slice a3 (x'.fields ++ [f]).length cap3) (x'.fields ++ [f]); rw [hlen]; exact HO6.out), HTm, Lib.hid (fun e => by simp at e), HMn, Lib.hid ((HRk.out.below (by rw [HS3.out]; exact Nat.le_refl _) HBB.out).set _)⟩
                      case measure => simp [intOf]; omega
                  · have e2 : ((ubR Q0).toList == [111, 98, 106]) = false := by rw [hu0]; exact beq_eq_false_iff_ne.2 q2
                    by_cases q3 : Q0 = oneW
                    · have e3 : ((ubR Q0).toList == [111, 110, 101]) = true := by rw [hu0, q3]; rfl
                      have HSt : Hid (stepP Q0 x' y = { x' with members := x'.members ++ [ubR y] }) := Lib.hid (by unfold stepP; rw [if_neg q1, if_neg q2, if_pos q3])
                      have HOBJ : Hid (Q0 ≠ objW) := Lib.hid q2
                      clear hu0 q1 q2 q3
                      have hfl : x'.members.length ≤ 10 := by have := HBO.out.fewM; omega
                      have hyk : OkS (ubR y) := by unfold OkS; rw [ubR_size]; omega
                      generalize ubR Q0 = u0 at *
                      generalize ubR y = uy at *
                      have HO3 : Hid (OwnTs (wr.drew.alloc (.cells #[.string uy] 9)) (g + 1) (.slice ma x'.members.length mc) x'.members) := Lib.hid ((OwnTs.frame (w' := wr.drew) HTk.out fun _ _ _ => rfl).below ((Below.refl _ _).alloc (Nat.le_refl _) _))
                      have HGN := Lib.hid ((Go.Deep.blk_alloc_lt wr.drew (.cells #[.string uy] 9) g hgl).trans (show wr.drew.heap[g]? = _ from HGk.out))
                      have hzd : g + 1 ≤ (wr.drew.alloc (.cells #[.string uy] 9)).heap.size := by simp; omega
                      go_wp2_with fail
                      go_region_law (first
                        | (refine step_app_text (by rfl) _ _ (by rfl) (g + 1) (.slice ma x'.members.length mc) x'.members (by rfl) HO3.out wr.heap.size 1 (by rfl) uy (by simp) (by omega) hzd ?_; intro a3 cap3 w6 hown3 hb3; have HG6 := Lib.hid ((hb3.block g (by omega)).trans HGN.out); have ⟨⟨s0, s1, s2, s3, s4⟩, r0, r1, r2, r3, r4⟩ := keep5 HG6.out))
                      all_goals
                        have hlen : (x'.members ++ [uy]).length = x'.members.length + 1 := by simp
                        have HBB := Lib.hid ((((Below.refl (g + 1) wr).drew).alloc hgl (.cells #[.string uy] 9)).trans hb3)
                        have hg6 : (w6.setCell ⟨g, 4, none⟩ (.slice a3 (x'.members.length + 1) cap3)).heap[g]? = some (.cells #[.string nm, .int .i64 0, .int .i64 x'.bytes, .slice fa x'.fields.length fc, .slice a3 (x'.members.length + 1) cap3] 48 (0, 0)) := heap_setCell_same w6 g 4 _ _ _ HG6.out
                        have HO6 : Hid (OwnTs (w6.setCell ⟨g, 4, none⟩ (.slice a3 (x'.members.length + 1) cap3)) (g + 1) (.slice a3 (x'.members.length + 1) cap3) (x'.members ++ [uy])) := Lib.hid (OwnTs.frame hown3 fun q q1 q2 => Go.Deep.blk_setCell_other _ ⟨g, 4, none⟩ _ q (by show q ≠ g; omega))
                        have HTm : Hid (OwnFs (w6.setCell ⟨g, 4, none⟩ (.slice a3 (x'.members.length + 1) cap3)) (g + 1) (.slice fa x'.fields.length fc) x'.fields) := Lib.hid (by
                          have hm0 := HBO.out.fields HOBJ.out
                          obtain ⟨e1, e2⟩ := HFn.out hm0
                          rw [hm0, e1, e2]; exact OwnFs.nil _ _)
                        clear hb3 hown3
                        go_wp2_with fail
                        go_roundw
                        case rel => exact ⟨j + 1, { x' with members := x'.members ++ [uy] }, fa, fc, a3, cap3, by omega, by go_num, Lib.hid (by rw [← HNX.out, HSt.out]), by show _ = some (Obj.cells #[.string nm, .int .i64 0, .int .i64 x'.bytes, .slice fa x'.fields.length fc, .slice a3 (x'.members ++ [uy]).length cap3] 48 (0, 0)); rw [hlen]; exact hg6, HTm, Lib.hid (by show OwnTs _ _ (.slice a3 (x'.members ++ [uy]).length cap3) (x'.members ++ [uy]); rw [hlen]; exact HO6.out), HFn, Lib.hid (fun e => by simp at e), Lib.hid ((HRk.out.below (by rw [HS3.out]; exact Nat.le_refl _) HBB.out).set _)⟩
                        case measure => simp [intOf]; omega
                    · have e3 : ((ubR Q0).toList == [111, 110, 101]) = false := by rw [hu0]; exact beq_eq_false_iff_ne.2 q3
                      have HSt : Hid (stepP Q0 x' y = x') := Lib.hid (by unfold stepP; rw [if_neg q1, if_neg q2, if_neg q3])
                      clear hu0 q1 q2 q3
                      generalize ubR Q0 = u0 at *
                      generalize ubR y = uy at *
                      go_wp2_with fail
                      go_roundw
                      case rel => exact ⟨j + 1, x', fa, fc, ma, mc, by omega, by go_num, Lib.hid (by rw [← HNX.out, HSt.out]), HGk.out, HFk, HTk, HFn, HMn, HRk⟩
                      case measure => simp [intOf]; omega
            · obtain rfl : j = m := by omega
              have HXF : Hid (lineP (Q0 :: QR) = { x' with kind := kindP Q0 }) := Lib.hid (by rw [HHD.out, HX.out, ← HAL.out, List.take_length])
              have HEA : Hid ((∀ f ∈ x'.fields, f.ok) ∧ ∀ m ∈ x'.members, OkS m) := Lib.hid (by
                rw [HX.out]
                refine body_each Q0 nm j _ (by rw [List.length_take, HAL.out]; omega) fun a ha => ?_
                obtain ⟨k, hk⟩ := List.mem_iff_getElem?.1 (List.mem_of_mem_take ha)
                have hkl := (List.getElem?_eq_some_iff.1 hk).1
                rw [HAL.out] at hkl
                obtain ⟨y, _, h2, h3⟩ := HAR.out k hkl
                rw [hk] at h2; cases h2; exact h3)
              have hkc : (ql : Int) ≤ (j : Int) + 2 ∨ ((j : Int) + 2 < (ql : Int) ∧ (12 : Int) ≤ (j : Int) + 2) := by omega
              have HGk := Lib.hid hgk
              have hj0 : (0 : Int) ≤ (j : Int) + 2 := by omega
              have HKT : Hid ((ubR Q0).toList = Q0) := Lib.hid (toList_ubR Q0)
              clear hgk hjl
              rcases hkc with hkc | ⟨hkc, hkd⟩
              case' inl => go_wp2_with fail
              case' inr => go_wp2_with fail
              all_goals
                obtain ⟨wi, hwi⟩ : ∃ wi, wr = wi := ⟨_, rfl⟩
                have HWI := Lib.hid hwi
                rw [hwi] at HGk HFk HTk HRk HBk hd0k hgl ⊢
                clear hwi
                go_loopw [9] (fun kd wr => ∃ q : Nat, 1 ≤ q ∧ q ≤ 4 ∧ kd = .int .i64 (q : Int) ∧ wr.heap[g]? = some (.cells #[.string nm, .int .i64 (kindAt Q0 q), .int .i64 x'.bytes, .slice fa x'.fields.length fc, .slice ma x'.members.length mc] 48 (0, 0)) ∧ Hid (OnlyR g wi wr)) (fun kd _ => 5 - (intOf kd).toNat)
                case atStart => exact ⟨1, by omega, by omega, by go_num, by rw [kindAt_one]; exact HGk.out, Lib.hid (OnlyR.refl _ _)⟩
                case round =>
                  obtain ⟨q, hq1, hq4, rfl, hgq, HRq⟩ := hrel
                  have hglq := lt_of_get hgq
                  have HGq := Lib.hid hgq
                  have hd0q : wr.cell? ⟨b2, o2, none⟩ = some (.string (ubR Q0)) := (World.cell?_of_block (w := wi) (HRq.out.block b2 (by omega) hb2n)).trans hd0k
                  have hb2w : b2 < wr.heap.size := by omega
                  have hb2x : b2 ≠ wr.heap.size := by omega
                  have ⟨⟨t0, t1, t2, t3, t4⟩, p0, p1, p2, p3, p4⟩ := keep5 hgq
                  clear hgq hd0k
                  by_cases hqe : q = 4
                  · subst hqe
                    rw [kindAt_four] at HGq t1
                    have hzq := (HRq.out.block (w.heap.size + 1) (by omega) (by omega)).trans ((HBk.out (w.heap.size + 1) (by omega)).trans HZ2.out)
                    have ⟨z0, y0⟩ := keep1 hzq
                    have HZq := Lib.hid hzq
                    clear hzq
                    have hFX : x'.fields.length ≤ fc ∧ FieldsX wr (g + 1) wr.heap.size fa x'.fields.length x'.fields := by
                      obtain ⟨a9, c9, he, hc9, hx9⟩ := OwnFs.fieldsX (w := wr) (OwnFs.frame HFk.out fun c c1 c2 => HRq.out.block c c2 (by omega)) HEA.out.1 (by have := HBO.out.few; omega) hglq
                      cases he; exact ⟨hc9, hx9⟩
                    have hTX : x'.members.length ≤ mc ∧ TextsX wr (g + 1) wr.heap.size ma x'.members.length x'.members := by
                      obtain ⟨a9, c9, he, hc9, hx9⟩ := OwnTs.textsX (w := wr) (OwnTs.frame HTk.out fun c c1 c2 => HRq.out.block c c2 (by omega)) HEA.out.2 (by have := HBO.out.fewM; omega) hglq
                      cases he; exact ⟨hc9, hx9⟩
                    obtain ⟨r, hr⟩ : ∃ r : RowT, (⟨⟨nm, kindP Q0, x'.bytes, x'.fields, x'.members⟩, fa, fc, ma, mc, g + 1, wr.heap.size, true⟩ : RowT) = r := ⟨_, rfl⟩
                    have HRW : Hid (r.own = true) := Lib.hid (by rw [← hr])
                    have hOT : OwnTs wr (g + 1) (.slice ma x'.members.length mc) x'.members := OwnTs.frame HTk.out fun c c1 c2 => HRq.out.block c c2 (by omega)
                    have hOM : OwnMem wr (g + 1) wr.heap.size ma mc x'.members := ⟨hOT, fun g' hg' => (World.ownsRow.lt hOT g' hg').2⟩
                    have hOK : OkT wr r := by
                      rw [← hr]
                      refine ⟨⟨by show nm.size ≤ _; omega, by have := kindP_range Q0; show OkI (kindP Q0); unfold OkI; omega, by have := HBO.out.bytes; show OkI x'.bytes; unfold OkI; omega⟩, fun _ => hOM, ?_⟩
                      by_cases hob : Q0 = objW
                      · have hm0 : x'.members = [] := HBO.out.members (by rw [hob]; decide)
                        refine ⟨wr.heap.size, ⟨hFX.2, hFX.1⟩, ?_, hTX.1⟩
                        show TextsX wr wr.heap.size wr.heap.size ma x'.members.length x'.members
                        rw [hm0]; exact RowsX.nil (Nat.le_refl _)
                      · have hm0 : x'.fields = [] := HBO.out.fields hob
                        refine ⟨g + 1, ⟨?_, hFX.1⟩, hTX.2, hTX.1⟩
                        show FieldsX wr (g + 1) (g + 1) fa x'.fields.length x'.fields
                        rw [hm0]; exact RowsX.nil (Nat.le_refl _)
                    have HRX : Hid (r.x = lineP (Q0 :: QR)) := Lib.hid (by rw [HXF.out, ← hr, ← HBO.out.name])
                    have HCY : Hid ((wr.alloc (.cells #[.string nm, .int .i64 (kindP Q0), .int .i64 x'.bytes, .slice fa x'.fields.length fc, .slice ma x'.members.length mc] 48)).heap[wr.heap.size]? = some (.cells r.cells.toArray 48 (0, 0))) := Lib.hid (by rw [← hr]; exact heap_alloc_new wr _)
                    have HRY : Hid (OkT (wr.alloc (.cells #[.string nm, .int .i64 (kindP Q0), .int .i64 x'.bytes, .slice fa x'.fields.length fc, .slice ma x'.members.length mc] 48)) r ∧ G ≤ r.lo ∧ r.hi ≤ (wr.alloc (.cells #[.string nm, .int .i64 (kindP Q0), .int .i64 x'.bytes, .slice fa x'.fields.length fc, .slice ma x'.members.length mc] 48)).heap.size ∧ ∀ g', (Value.slice av i cap).ownBlock = some g' → g' < r.lo ∨ r.hi ≤ g') := Lib.hid (by
                      refine ⟨hOK.block fun c _ c2 => Go.Deep.blk_alloc_lt _ _ _ (by rw [← hr] at c2; exact c2), by rw [← hr]; show G ≤ g + 1; omega, by rw [← hr]; show wr.heap.size ≤ _; simp, fun g' hg' => .inl ?_⟩
                      have := HO2.out.owner hg'
                      rw [← hr]; show g' < g + 1; omega)
                    have HRO : Hid (∀ q ∈ L, q.hi ≤ r.lo) := Lib.hid fun q hq => by
                      have := (HO2.out.ok q hq).2.2.1
                      rw [← hr]; show q.hi ≤ g + 1; omega
                    have hgw : g < wr.heap.size := hglq
                    have HOY : Hid (OwnTy (wr.alloc (.cells #[.string nm, .int .i64 (kindP Q0), .int .i64 x'.bytes, .slice fa x'.fields.length fc, .slice ma x'.members.length mc] 48)) G (.slice av i cap) L) := Lib.hid (OwnTy.frame HO2.out (by simp; omega) fun c _ c2 => (Go.Deep.blk_alloc_lt _ _ _ (by omega)).trans ((HRq.out.block c (by omega) (by omega)).trans (HBk.out c (by omega))))
                    have HZY := Lib.hid ((Go.Deep.blk_alloc_lt wr (.cells #[.string nm, .int .i64 (kindP Q0), .int .i64 x'.bytes, .slice fa x'.fields.length fc, .slice ma x'.members.length mc] 48) (w.heap.size + 1) (by omega)).trans HZq.out)
                    have HBY : Hid (Below G w2 (wr.alloc (.cells #[.string nm, .int .i64 (kindP Q0), .int .i64 x'.bytes, .slice fa x'.fields.length fc, .slice ma x'.members.length mc] 48))) := Lib.hid ((((HB3.out.mono (by omega)).trans (HRk.out.toBelow (by omega) (by rw [HS3.out]; omega))).trans (HRq.out.toBelow (by omega) (by omega))).alloc (by omega) _)
                    have hGs : G ≤ (wr.alloc (.cells #[.string nm, .int .i64 (kindP Q0), .int .i64 x'.bytes, .slice fa x'.fields.length fc, .slice ma x'.members.length mc] 48)).heap.size := by simp; omega
                    clear hFX hTX hOK hr hOT hOM
                    go_wp2_with (at_builtin; refine app_type rfl _ _ rfl G (.slice av i cap) L rfl HOY.out wr.heap.size 1 rfl r HCY.out HRY.out HRO.out (by omega) hGs ?_; rw [hLl]; intro a6 c6 w6 hown6 hb6; have hz6 := (hb6.block (w.heap.size + 1) (by omega)).trans HZY.out; have ⟨z6, y6⟩ := keep1 hz6)
                    go_roundw
                    case rel => exact ⟨i + 1, a6, c6, L ++ [r], by omega, by go_num, by rw [List.length_append, hLl]; rfl, heap_setCell_same w6 (w.heap.size + 1) 0 _ _ _ hz6, Lib.hid (OwnTy.frame hown6 (by simp) fun c c1 _ => Go.Deep.blk_setCell_other _ ⟨w.heap.size + 1, 0, none⟩ _ c (by show c ≠ w.heap.size + 1; omega)), Lib.hid (by rw [List.map_append, HM.out, List.take_add_one, HSX.out, Option.toList_some, ← HRX.out]; rfl), Lib.hid (fun q hq => (List.mem_append.1 hq).elim (HQW.out q) (fun h => (by rw [List.mem_singleton] at h; rw [h]; exact HRW.out))), Lib.hid ((HR2.out.below (by omega) (HBY.out.trans hb6)).set _)⟩
                    case measure => simp [intOf]; omega
                  · have hkind : (q = 1 ∧ (kindP Q0 = q ↔ Q0 = leafW)) ∨ (q = 2 ∧ (kindP Q0 = q ↔ Q0 = objW)) ∨ (q = 3 ∧ (kindP Q0 = q ↔ Q0 = oneW)) := by
                      have h123 : q = 1 ∨ q = 2 ∨ q = 3 := by omega
                      rcases h123 with rfl | rfl | rfl
                      · exact .inl ⟨rfl, kindP_leaf Q0⟩
                      · exact .inr (.inl ⟨rfl, kindP_obj Q0⟩)
                      · exact .inr (.inr ⟨rfl, kindP_one Q0⟩)
                    have HG5 : Hid ((wr.alloc (.cells #[.string ⟨#[]⟩, .string ⟨#[108, 101, 97, 102]⟩, .string ⟨#[111, 98, 106]⟩, .string ⟨#[111, 110, 101]⟩] 9)).drew.heap[g]? = _) := Lib.hid ((Go.Deep.blk_alloc_lt wr (.cells #[.string ⟨#[]⟩, .string ⟨#[108, 101, 97, 102]⟩, .string ⟨#[111, 98, 106]⟩, .string ⟨#[111, 110, 101]⟩] 9) g hglq).trans HGq.out)
                    have HB5 : Hid (Below wr.heap.size wr (wr.alloc (.cells #[.string ⟨#[]⟩, .string ⟨#[108, 101, 97, 102]⟩, .string ⟨#[111, 98, 106]⟩, .string ⟨#[111, 110, 101]⟩] 9)).drew) := Lib.hid (((Below.refl wr.heap.size wr).alloc (Nat.le_refl _) _).drew)
                    have hfa : ∀ W : World, (Instr.fieldAt 48 (.pointer (some ⟨g, 0, none⟩)) 1).run Tryz.prog W = .ok (.pointer (some ⟨g, 1, none⟩)) W := fun _ => rfl
                    have hu0 := HKT.out
                    rcases hkind with ⟨rfl, hk⟩ | ⟨rfl, hk⟩ | ⟨rfl, hk⟩
                    · by_cases hm : Q0 = leafW
                      · have HKA := Lib.hid (kindAt_yes (hk.2 hm))
                        have e1 : ((ubR Q0).toList == [108, 101, 97, 102]) = true := by rw [hu0, hm]; rfl
                        have e2 : ([108, 101, 97, 102] == (ubR Q0).toList) = true := by rw [hu0, hm]; rfl
                        clear hu0 hm hk
                        generalize ubR Q0 = u0 at *
                        go_wp2_with fail
                        go_region
                        have ⟨⟨f0, f1, f2, f3, f4⟩, v0, v1, v2, v3, v4⟩ := keep5 HG5.out
                        generalize (wr.alloc (.cells #[.string ⟨#[]⟩, .string ⟨#[108, 101, 97, 102]⟩, .string ⟨#[111, 98, 106]⟩, .string ⟨#[111, 110, 101]⟩] 9)).drew = W5 at *
                        go_wp2_with fail
                        go_roundw
                        case rel => exact ⟨2, by omega, by omega, by go_num, by rw [HKA.out]; exact heap_setCell_same W5 g 1 _ _ _ HG5.out, Lib.hid ((HRq.out.below HRq.out.size HB5.out).set _)⟩
                        case measure => simp [intOf]
                      · have HKA := Lib.hid (kindAt_no (fun e => hm (hk.1 e)))
                        have e1 : ((ubR Q0).toList == [108, 101, 97, 102]) = false := by rw [hu0]; exact beq_eq_false_iff_ne.2 hm
                        have e2 : ([108, 101, 97, 102] == (ubR Q0).toList) = false := by rw [hu0]; exact beq_eq_false_iff_ne.2 (fun e => hm e.symm)
                        clear hu0 hm hk
                        generalize ubR Q0 = u0 at *
                        go_wp2_with fail
                        go_region
                        go_wp2_with fail
                        go_roundw
                        case rel => exact ⟨2, by omega, by omega, by go_num, by rw [HKA.out]; exact HG5.out, Lib.hid (HRq.out.below HRq.out.size HB5.out)⟩
                        case measure => simp [intOf]
                    · by_cases hm : Q0 = objW
                      · have HKA := Lib.hid (kindAt_yes (hk.2 hm))
                        have e1 : ((ubR Q0).toList == [111, 98, 106]) = true := by rw [hu0, hm]; rfl
                        have e2 : ([111, 98, 106] == (ubR Q0).toList) = true := by rw [hu0, hm]; rfl
                        clear hu0 hm hk
                        generalize ubR Q0 = u0 at *
                        go_wp2_with fail
                        go_region
                        have ⟨⟨f0, f1, f2, f3, f4⟩, v0, v1, v2, v3, v4⟩ := keep5 HG5.out
                        generalize (wr.alloc (.cells #[.string ⟨#[]⟩, .string ⟨#[108, 101, 97, 102]⟩, .string ⟨#[111, 98, 106]⟩, .string ⟨#[111, 110, 101]⟩] 9)).drew = W5 at *
                        go_wp2_with fail
                        go_roundw
                        case rel => exact ⟨3, by omega, by omega, by go_num, by rw [HKA.out]; exact heap_setCell_same W5 g 1 _ _ _ HG5.out, Lib.hid ((HRq.out.below HRq.out.size HB5.out).set _)⟩
                        case measure => simp [intOf]
                      · have HKA := Lib.hid (kindAt_no (fun e => hm (hk.1 e)))
                        have e1 : ((ubR Q0).toList == [111, 98, 106]) = false := by rw [hu0]; exact beq_eq_false_iff_ne.2 hm
                        have e2 : ([111, 98, 106] == (ubR Q0).toList) = false := by rw [hu0]; exact beq_eq_false_iff_ne.2 (fun e => hm e.symm)
                        clear hu0 hm hk
                        generalize ubR Q0 = u0 at *
                        go_wp2_with fail
                        go_region
                        go_wp2_with fail
                        go_roundw
                        case rel => exact ⟨3, by omega, by omega, by go_num, by rw [HKA.out]; exact HG5.out, Lib.hid (HRq.out.below HRq.out.size HB5.out)⟩
                        case measure => simp [intOf]
                    · by_cases hm : Q0 = oneW
                      · have HKA := Lib.hid (kindAt_yes (hk.2 hm))
                        have e1 : ((ubR Q0).toList == [111, 110, 101]) = true := by rw [hu0, hm]; rfl
                        have e2 : ([111, 110, 101] == (ubR Q0).toList) = true := by rw [hu0, hm]; rfl
                        clear hu0 hm hk
                        generalize ubR Q0 = u0 at *
                        go_wp2_with fail
                        go_region
                        have ⟨⟨f0, f1, f2, f3, f4⟩, v0, v1, v2, v3, v4⟩ := keep5 HG5.out
                        generalize (wr.alloc (.cells #[.string ⟨#[]⟩, .string ⟨#[108, 101, 97, 102]⟩, .string ⟨#[111, 98, 106]⟩, .string ⟨#[111, 110, 101]⟩] 9)).drew = W5 at *
                        go_wp2_with fail
                        go_roundw
                        case rel => exact ⟨4, by omega, by omega, by go_num, by rw [HKA.out]; exact heap_setCell_same W5 g 1 _ _ _ HG5.out, Lib.hid ((HRq.out.below HRq.out.size HB5.out).set _)⟩
                        case measure => simp [intOf]
                      · have HKA := Lib.hid (kindAt_no (fun e => hm (hk.1 e)))
                        have e1 : ((ubR Q0).toList == [111, 110, 101]) = false := by rw [hu0]; exact beq_eq_false_iff_ne.2 hm
                        have e2 : ([111, 110, 101] == (ubR Q0).toList) = false := by rw [hu0]; exact beq_eq_false_iff_ne.2 (fun e => hm e.symm)
                        clear hu0 hm hk
                        generalize ubR Q0 = u0 at *
                        go_wp2_with fail
                        go_region
                        go_wp2_with fail
                        go_roundw
                        case rel => exact ⟨4, by omega, by omega, by go_num, by rw [HKA.out]; exact HG5.out, Lib.hid (HRq.out.below HRq.out.size HB5.out)⟩
                        case measure => simp [intOf]
      · obtain rfl : i = n := by omega
        have HSP : Hid (L.map RowT.x = sp) := Lib.hid (by rw [HM.out, ← HSn.out, List.take_length])
        have hpc : (pl : Int) - 1 ≤ (i : Int) ∨ ((i : Int) < (pl : Int) - 1 ∧ (12 : Int) < (i : Int)) := by omega
        have hw1 : IntKind.i64.wrap ((pl : Int) - 1) = (pl : Int) - 1 := IntWalk.i64_in _ (by omega)
        have ⟨z0, y0⟩ := keep1 hz
        have HZ := Lib.hid hz
        clear hz hlt
        rcases hpc with hpc | ⟨hpc, hpd⟩
        case' inl => go_wp2_with fail
        case' inr => go_wp2_with fail
        all_goals
          have HMS : Hid (∀ (i : Nat) (x : TypeP), sp[i]? = some x → ∃ gb cap' c cc lo hi, Value.slice av L.length cap = .slice (some ⟨gb, 0, none⟩) L.length cap' ∧ G ≤ gb ∧ G ≤ lo ∧ gb < wr.heap.size ∧ hi ≤ wr.heap.size ∧ wr.cell? ⟨gb, i * 5 + 4, none⟩ = some (.slice c x.members.length cc) ∧ OwnMem wr lo hi c cc x.members) := Lib.hid (fun j x hx => by
            obtain ⟨gb, cap', c, cc, lo, hi', e1, e2, e3, e4, e5, e6, e7, e8, _⟩ := OwnTy.mems HO.out HQW.out (by rw [HSP.out]; exact hx)
            exact ⟨gb, cap', c, cc, lo, hi', by rw [← e1, hLl], e2, e3, lt_of_cell e7, e5, e7, e8⟩)
          obtain ⟨a9, c9, he, hc9, hx9⟩ := HO.out.typesX (by omega) hsz
          obtain ⟨rfl, rfl⟩ : av = a9 ∧ cap = c9 := by cases he; exact ⟨rfl, rfl⟩
          have hls : L.length = sp.length := by rw [← HSP.out, List.length_map]
          rw [HSP.out, hls] at hx9
          rw [hls] at hc9
          have hsp : SchemaX wr G wr.heap.size (.agg #[.slice av i cap]) sp := ⟨av, cap, by rw [HSn.out], hx9, hc9⟩
          have CT := Lib.hid (specSchemaText wr G wr.heap.size _ sp hsp.at_ (Nat.le_refl _))
          have HX9 := Lib.hid hx9
          have HC9 := Lib.hid (show i ≤ cap by rw [← HSn.out]; exact hc9)
          clear he hc9 hx9 hsp hls
          have HFS : Hid (outS t = if schT sp = t ∧ t.size ≠ 0 then (sp, 0) else ([], 3)) := HF
          have HTL : Hid (t.toList = [] ↔ t.size = 0) := Lib.hid (by rw [Lib.toList_data, ← List.length_eq_zero_iff, Array.length_toList]; exact Iff.rfl)
          have HTE : Hid ((schT sp).toList = t.toList ↔ schT sp = t) := Lib.hid ⟨fun e => ByteArray.ext (Array.toList_inj.1 (by rw [Lib.toList_data, Lib.toList_data] at e; exact e)), fun e => by rw [e]⟩
          refine CT.out.mono ?_
          rintro e w3 ⟨rfl, hb3⟩
          have HB3x := Lib.hid hb3
          have hzz := (hb3.block (w.heap.size + 1) (lt_of_get HZ.out)).trans HZ.out
          have hkr := (HBL.out w.heap.size (by omega) (by omega)).trans HK0.out
          have hkk := (hb3.block w.heap.size (lt_of_get hkr)).trans hkr
          have HK3 := Lib.hid hkk
          have ⟨z3, y3⟩ := keep1 hzz
          have ⟨⟨k0, k1⟩, f0, f1⟩ := keep2 hkk
          have HBW := Lib.hid ((HB1.out.trans (HR.out.toBelow (by omega) (by omega))).trans (hb3.mono (by omega)))
          have HX3 := Lib.hid (HX9.out.below typeLiesX (Nat.le_refl _) hb3)
          have hsz3 : wr.heap.size ≤ w3.heap.size := hb3.size
          clear hb3 hzz hkr hkk z0 y0
          generalize schT sp = ST at *
          by_cases q1 : ST = t
          · have e1 : (ST.toList == t.toList) = true := by rw [q1]; exact beq_self_eq_true _
            by_cases q2 : t.size = 0
            · have HFv : Hid (outS t = ([], 3)) := Lib.hid (by rw [HFS.out, if_neg (fun h => h.2 q2)])
              have e2 : (t.toList == []) = true := by rw [HTL.out.2 q2]; rfl
              clear q1 q2
              go_wp2_with fail
              change bodyPost _ _ _ _ _ (putL w3 w.heap.size 0 [.slice none 0 0, .int .i64 3])
              obtain ⟨hr, _, _⟩ := putL_cells (g := w.heap.size) (o := 0) (l := [.slice none 0 0, .int .i64 3]) HK3.out (by simp)
              have HBF := putL_below (g := w.heap.size) (B := w.heap.size) (Nat.le_refl _) [.slice none 0 0, .int .i64 3] 0 HBW.out
              have hsz9 := putL_size [.slice none 0 0, .int .i64 3] w3 w.heap.size 0
              have HTZ := HX3.out.block (w' := putL w3 w.heap.size 0 [.slice none 0 0, .int .i64 3]) typeLiesX fun q q1 q2 => putL_other _ _ _ _ q (by omega)
              generalize putL w3 w.heap.size 0 [.slice none 0 0, .int .i64 3] = wz at *
              have ⟨x0, x1⟩ := row2z hr
              exact bodyPost_ret (v := .agg #[.slice none 0 0, .int .i64 3]) (by simp [results, Tryz.results21, go_sem, x0, x1]) rfl ⟨⟨⟨none, 0, by rw [HFv.out]; rfl, by rw [HFv.out]; exact Nat.le_refl _, by rw [HFv.out]; exact RowsX.nil (by omega)⟩, MemsS.none (by rw [HFv.out])⟩, HBF⟩
            · have HFv : Hid (outS t = (sp, 0)) := Lib.hid (by rw [HFS.out, if_pos ⟨q1, q2⟩])
              have e2 : (t.toList == []) = false := beq_eq_false_iff_ne.2 fun h => q2 (HTL.out.1 h)
              clear q1 q2
              go_wp2_with fail
              change bodyPost _ _ _ _ _ (putL w3 w.heap.size 0 [.slice av i cap, .int .i64 0])
              obtain ⟨hr, _, _⟩ := putL_cells (g := w.heap.size) (o := 0) (l := [.slice av i cap, .int .i64 0]) HK3.out (by simp)
              have HBF := putL_below (g := w.heap.size) (B := w.heap.size) (Nat.le_refl _) [.slice av i cap, .int .i64 0] 0 HBW.out
              have hsz9 := putL_size [.slice av i cap, .int .i64 0] w3 w.heap.size 0
              have HTZ := HX3.out.block (w' := putL w3 w.heap.size 0 [.slice av i cap, .int .i64 0]) typeLiesX fun q q1 q2 => putL_other _ _ _ _ q (by omega)
              have HMM : Hid (MemsS w (putL w3 w.heap.size 0 [.slice av i cap, .int .i64 0]) t (.returned (.agg #[.slice av i cap, .int .i64 0]))) := Lib.hid (fun j x hx => by
                rw [HFv.out] at hx
                obtain ⟨gb, cap', c, cc, lo, hi', e1, e2, e3, e4, e5, e6, e7⟩ := HMS.out j x hx
                have hkeep : ∀ q, G ≤ q → q < wr.heap.size → (putL w3 w.heap.size 0 [.slice av i cap, .int .i64 0]).heap[q]? = wr.heap[q]? := fun q q1 q2 => (putL_other _ _ _ _ q (by omega)).trans (HB3x.out.block q q2)
                refine ⟨gb, cap', c, cc, lo, ?_, by omega, by omega, (World.cell?_of_block (w := wr) (hkeep gb e2 e4)).trans e6, (e7.block fun q q1 q2 => hkeep q (by omega) (by omega)).1⟩
                rw [hLl] at e1
                rw [HFv.out, e1, ← HSn.out])
              generalize putL w3 w.heap.size 0 [.slice av i cap, .int .i64 0] = wz at *
              have ⟨x0, x1⟩ := row2z hr
              exact bodyPost_ret (v := .agg #[.slice av i cap, .int .i64 0]) (by simp [results, Tryz.results21, go_sem, x0, x1]) rfl ⟨⟨⟨av, cap, by rw [HFv.out, ← HSn.out], by rw [HFv.out, HSn.out]; exact HC9.out, by rw [HFv.out]; exact HTZ.wide (by omega) (by omega)⟩, HMM.out⟩, HBF⟩
          · have HFv : Hid (outS t = ([], 3)) := Lib.hid (by rw [HFS.out, if_neg (fun h => q1 h.1)])
            have e1 : (ST.toList == t.toList) = false := beq_eq_false_iff_ne.2 fun h => q1 (HTE.out.1 h)
            clear q1
            go_wp2_with fail
            change bodyPost _ _ _ _ _ (putL w3 w.heap.size 0 [.slice none 0 0, .int .i64 3])
            obtain ⟨hr, _, _⟩ := putL_cells (g := w.heap.size) (o := 0) (l := [.slice none 0 0, .int .i64 3]) HK3.out (by simp)
            have HBF := putL_below (g := w.heap.size) (B := w.heap.size) (Nat.le_refl _) [.slice none 0 0, .int .i64 3] 0 HBW.out
            have hsz9 := putL_size [.slice none 0 0, .int .i64 3] w3 w.heap.size 0
            have HTZ := HX3.out.block (w' := putL w3 w.heap.size 0 [.slice none 0 0, .int .i64 3]) typeLiesX fun q q1 q2 => putL_other _ _ _ _ q (by omega)
            generalize putL w3 w.heap.size 0 [.slice none 0 0, .int .i64 3] = wz at *
            have ⟨x0, x1⟩ := row2z hr
            exact bodyPost_ret (v := .agg #[.slice none 0 0, .int .i64 3]) (by simp [results, Tryz.results21, go_sem, x0, x1]) rfl ⟨⟨⟨none, 0, by rw [HFv.out]; rfl, by rw [HFv.out]; exact Nat.le_refl _, by rw [HFv.out]; exact RowsX.nil (by omega)⟩, MemsS.none (by rw [HFv.out])⟩, HBF⟩
theorem specSchemaRead (t : ByteArray) (ht : OkS t) (w : World) :
    Calls Tryz.prog 21 #[.string t] w fun e w' => OutS w w' t e ∧ Below w.heap.size w w' := (specSchemaReadM t ht w).mono fun _ _ h => ⟨h.1.1, h.2⟩
end Go.Proofs.YtceabbbmgfeofaaGreatDoor.Rw
