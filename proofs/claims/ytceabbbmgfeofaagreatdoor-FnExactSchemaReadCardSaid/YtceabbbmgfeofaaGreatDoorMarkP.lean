/-
  Contracts: laws.heldTypeS, heldSchema, markSchemaOut, heldSchemaOut, eqSchemaOut; of what was there nothing is changed but by the marks. Conditions: in memory; marks of at most 9000000.
-/
import Derived.Test.YtceabbbmgfeofaaGreatDoorRows
import Derived.Test.YtceabbbmgfeofaaGreatDoorMarkO
import Derived.Test.YtceabbbmgfeofaaGreatDoorEqS
import Derived.Test.YtceabbbmgfeofaaGreatDoorFieldP
namespace Go.Proofs.YtceabbbmgfeofaaGreatDoor.Rw
open Go.RowKit Words
set_option linter.unusedVariables false
set_option maxRecDepth 100000

set_option maxHeartbeats 4000000 in
theorem heldTypeS (w : World) (A B : Nat) (a : Option Addr) (len cap : Nat) (l : List TypeP) (k : Nat) (hs : TypesAt w A B a len (typesMark l k)) (hB : B ≤ w.heap.size) (h1 : 1 ≤ k) (hk : k + typesNum l ≤ 9000000) :
    Calls Tryz.prog 116 #[.slice a len cap, .int .i64 k] w fun e w' => e = .returned (.int .i64 ((k + typesNum l : Nat) : Int)) ∧ Below w.heap.size w w' := by
  have hll : l.length = len := by rw [← hs.1, typesMark_len]
  have hlen := hs.2.1
  have HS := Lib.hid hs
  clear hs
  go_enter Tryz.func116, Tryz.ntmps116
  go_wp2_with fail
  go_loopw [1, 5] (fun v i wr => ∃ (i' kk : Nat), i' ≤ len ∧ kk ≤ 9000000 ∧ 1 ≤ kk ∧ Hid (kk = k + (typesNum l - typesNum (l.drop i'))) ∧ v = .int .i64 kk ∧ i = .int .i64 i' ∧ Below w.heap.size w wr) (fun _ i _ => len - (intOf i).toNat)
  case atStart => exact ⟨0, k, by omega, by omega, h1, Lib.hid (by rw [List.drop_zero]; omega), rfl, rfl, Below.refl _ _⟩
  case round =>
    obtain ⟨i, kk, hi, hk9, hk1, hkk, rfl, rfl, hb⟩ := hrel
    have HB := Lib.hid hb
    by_cases hlt : i < len
    · have hli : (i : Int) < (len : Int) := by omega
      obtain ⟨x, hx⟩ : ∃ x, l[i]? = some x := ⟨l[i], List.getElem?_eq_getElem (by omega)⟩
      have hdn := sumOf_drop (f := typeNum) hx
      have hle := sumOf_le typeNum i l
      have hnx : typeNum x = 3 + 6 * x.fields.length + x.members.length := rfl
      have hkn : kk + typeNum x = k + (typesNum l - typesNum (l.drop (i + 1))) := by have := hkk.out; unfold typesNum at *; omega
      have hkx : kk + typeNum x ≤ 9000000 := by have := hkk.out; unfold typesNum at *; omega
      obtain ⟨y, b, off, hd, rfl, hAb, hbb, hok, a1, ca1, cm, ccm, hc, h2, h3⟩ := (HS.out.below typeLies (Nat.le_refl _) (hb.mono hB)).at hlt
      have hy := typesMark_at i l k hx
      rw [← hkk.out] at hy
      obtain rfl : y = typeMark x kk := by rw [hy] at hd; exact (Option.some.inj hd).symm
      have hfl : (fieldsMark x.fields (kk + 3)).length = x.fields.length := fieldsMark_len _ _
      have hml : (textsMark x.members (kk + 3 + 6 * x.fields.length)).length = x.members.length := textsMark_len _ _
      have hc' : RowN wr b (off + i * 5) [.string (mkT kk), .int .i64 ((kk : Int) + 1), .int .i64 ((kk : Int) + 1 + 1), .slice a1 x.fields.length ca1, .slice cm x.members.length ccm] := by
        have := hc; unfold TypeP.cells typeMark at this; simp only [hfl, hml] at this; exact this
      obtain ⟨c0, c1, c2, c3, c4⟩ := row5 hc'
      have h2' : FieldsAt wr A B a1 x.fields.length (fieldsMark x.fields (kk + 3)) := by have := h2.1; unfold typeMark at this; simp only [hfl] at this; exact this
      have h3' : TextsAt wr A B cm x.members.length (textsMark x.members (kk + 3 + 6 * x.fields.length)) := by have := h3.1; unfold typeMark at this; simp only [hml] at this; exact this
      have CM : Hid (∀ w, Calls Tryz.prog 160 #[.int .i64 kk] w fun e w' => e = .returned (.string (mkT kk)) ∧ Below w.heap.size w w') := Lib.hid fun w => markText kk hk1 (by omega) w
      have CF : Hid (∀ w', Below wr.heap.size wr w' → Calls Tryz.prog 163 #[.slice a1 x.fields.length ca1, .int .i64 ((kk : Int) + 1 + 1 + 1)] w' fun e w'' => e = .returned (.int .i64 ((kk + 3 + 6 * x.fields.length : Nat) : Int)) ∧ Below w'.heap.size w' w'') := Lib.hid fun w' g => by
        have := heldFieldS w' A B a1 x.fields.length ca1 x.fields (kk + 3) (h2'.below fieldLies (Nat.le_trans hB HB.out.size) g) (Nat.le_trans hB (Nat.le_trans HB.out.size g.size)) (by omega) (by omega)
        rwa [show ((kk + 3 : Nat) : Int) = (kk : Int) + 1 + 1 + 1 by omega] at this
      have CT : Hid (∀ w', Below wr.heap.size wr w' → Calls Tryz.prog 164 #[.slice cm x.members.length ccm, .int .i64 ((kk + 3 + 6 * x.fields.length : Nat) : Int)] w' fun e w'' => e = .returned (.int .i64 ((kk + 3 + 6 * x.fields.length + x.members.length : Nat) : Int)) ∧ Below w'.heap.size w' w'') := Lib.hid fun w' g =>
        heldStringS w' A B cm x.members.length ccm x.members (kk + 3 + 6 * x.fields.length) (h3'.below textLies (Nat.le_trans hB HB.out.size) g) (Nat.le_trans hB (Nat.le_trans HB.out.size g.size)) (by omega) (by omega)
      obtain ⟨k2, hk2⟩ : ∃ k2 : Nat, kk + 3 + 6 * x.fields.length = k2 := ⟨_, rfl⟩
      obtain ⟨k3, hk3⟩ : ∃ k3 : Nat, k2 + x.members.length = k3 := ⟨_, rfl⟩
      rw [hk2] at CF CT
      rw [hk3] at CT
      obtain ⟨K2, hK2⟩ : ∃ K2 : Int, (k2 : Int) = K2 := ⟨_, rfl⟩
      obtain ⟨K3, hK3⟩ : ∃ K3 : Int, (k3 : Int) = K3 := ⟨_, rfl⟩
      have HK3 := Lib.hid hK3
      rw [hK2] at CF CT
      rw [hK3] at CT
      have hbw : b < wr.heap.size := by have := HB.out.size; omega
      have x0 : wr.drew.cell? ⟨b, off + i * 5, none⟩ = some (.string (mkT kk)) := c0
      have HC1 : Hid (wr.cell? ⟨b, off + i * 5 + 1, none⟩ = some (.int .i64 ((kk : Int) + 1))) := Lib.hid c1
      have HC2 : Hid (wr.cell? ⟨b, off + i * 5 + 2, none⟩ = some (.int .i64 ((kk : Int) + 1 + 1))) := Lib.hid c2
      have HC3 : Hid (wr.cell? ⟨b, off + i * 5 + 3, none⟩ = some (.slice a1 x.fields.length ca1)) := Lib.hid c3
      have HC4 : Hid (wr.cell? ⟨b, off + i * 5 + 4, none⟩ = some (.slice cm x.members.length ccm)) := Lib.hid c4
      have hbd : b < wr.drew.heap.size := hbw
      have HBd := Lib.hid HB.out.drew
      have hkk5 : (kk : Int) + 1 + 1 + 1 ≤ 9000000 := by omega
      have hk2n : (0 : Int) ≤ K2 := by omega
      have hk3n : (0 : Int) ≤ K3 := by omega
      have HKN : Hid (k3 = k + (typesNum l - typesNum (l.drop (i + 1)))) := Lib.hid (by omega)
      have hk39 : k3 ≤ 9000000 := by omega
      have hk31 : 1 ≤ k3 := by omega
      clear hd hb hlt hok hc hc' c1 c2 c3 c4 h2 h3 h2' h3' hy hx hfl hml hdn hle hnx hkn hkx hk2 hk3 hK2 hK3
      go_wp2_with fail
      go_region_held3 (fun w' => w'.cell? ⟨b, off + i * 5, none⟩ = some (.string (mkT kk))) (go_keep)
        (first | (go_at_call 160; refine (CM.out _).mono ?_; rintro e w2 ⟨rfl, hb2⟩; have d0 := kcell hb2 hbd x0))
      all_goals
        have HW2 := Lib.hid ((Below.refl wr.heap.size wr).drew.trans hb2)
        have HB2 := Lib.hid (HBd.out.trans (hb2.mono HBd.out.size))
        have d1 := kcell HW2.out hbw HC1.out
        have d2 := kcell HW2.out hbw HC2.out
        have d3 := kcell HW2.out hbw HC3.out
        clear hb2 c0 x0 d0
        go_wp2_with fail
        refine (CF.out _ HW2.out).mono ?_
        rintro e w3 ⟨rfl, hb3⟩
        have HW3 := Lib.hid (HW2.out.trans (hb3.mono HW2.out.size))
        have HB3 := Lib.hid (HB2.out.trans (hb3.mono HB2.out.size))
        have e4 := kcell HW3.out hbw HC4.out
        clear hb3 d1 d2 d3
        have HH9 := Lib.hid (And.intro hk39 hk31)
        have HHL := Lib.hid hll
        clear hkk5 hk31 hk39 hk9 hk1 hll hAb hbb hk h1
        go_wp2_with fail
        refine (CT.out _ HW3.out).mono ?_
        rintro e w4 ⟨rfl, hb4⟩
        have HB4 := Lib.hid (HB3.out.trans (hb4.mono HB3.out.size))
        clear hb4 e4
        go_wp2_with fail
        go_roundw
        case rel => exact ⟨i + 1, k3, by omega, HH9.out.1, HH9.out.2, HKN, by rw [HK3.out], by go_num, HB4.out⟩
        case measure => simp [intOf]; omega
    · obtain rfl : i = len := by omega
      have hfin : Hid (kk = k + typesNum l) := Lib.hid (by have := hkk.out; rw [← hll, List.drop_length] at this; simpa [typesNum, sumOf] using this)
      clear hlt hb
      go_wp2_with fail
      go_ret
      exact ⟨ret_i (by rw [hfin.out]), HB.out⟩

theorem heldSchema (w : World) (A B : Nat) (v : Value) (s : List TypeP) (k : Nat) (hs : SchemaAt w A B v (typesMark s k)) (hB : B ≤ w.heap.size) (h1 : 1 ≤ k) (hk : k + typesNum s ≤ 9000000) :
    Calls Tryz.prog 66 #[v, .int .i64 k] w fun e w' => e = .returned (.int .i64 ((k + typesNum s : Nat) : Int)) ∧ Below w.heap.size w w' := by
  obtain ⟨a, ca, rfl, h2, hc⟩ := hs
  rw [typesMark_len] at h2 hc ⊢
  have H2 := Lib.hid h2
  have HA : Hid (∀ o, Below w.heap.size w (w.alloc o)) := Lib.hid fun o => (Below.refl _ _).alloc (Nat.le_refl _) o
  have C : Hid (∀ o, Calls Tryz.prog 116 #[.slice a s.length ca, .int .i64 k] (w.alloc o) fun e w' => e = .returned (.int .i64 ((k + typesNum s : Nat) : Int)) ∧ Below (w.alloc o).heap.size (w.alloc o) w') := Lib.hid fun o => heldTypeS _ A B a _ ca s k (H2.out.below typeLies hB (HA.out o)) (Nat.le_trans hB (HA.out o).size) h1 hk
  obtain ⟨k2, hk2⟩ : ∃ k2 : Nat, k + typesNum s = k2 := ⟨_, rfl⟩
  rw [hk2] at C ⊢
  have hk2n : (0 : Int) ≤ (k2 : Int) := by omega
  clear h2 hk2
  go_enter Tryz.func66, Tryz.ntmps66
  go_wp2_with fail
  refine (C.out _).mono ?_
  rintro e w1 ⟨rfl, hb1⟩
  have HB1 := Lib.hid ((HA.out _).trans (hb1.mono (HA.out _).size))
  clear hb1
  go_wp2_with fail
  go_ret
  exact ⟨rfl, HB1.out⟩
/-- A schema that was told, with its code, marked and looked at. -/
theorem markSchemaOut (w : World) (A B : Nat) (a : Option Addr) (ca : Nat) (c : Int) (s : List TypeP) (k : Nat) (hs : TypesX w A B a s.length s) (hc : s.length ≤ ca) (hB : B ≤ w.heap.size) (h1 : 1 ≤ k) (hk : k + typesNum s ≤ 9000000) :
    Calls Tryz.prog 24 #[.agg #[.slice a s.length ca, .int .i64 c], .int .i64 k] w fun e w' => e = .returned (.int .i64 ((k + typesNum s : Nat) : Int)) ∧ TypesX w' A B a s.length (typesMark s k) ∧ Within A B w w' := by
  have HS := Lib.hid hs
  have HA : Hid (∀ o, Below w.heap.size w (w.alloc o)) := Lib.hid fun o => (Below.refl _ _).alloc (Nat.le_refl _) o
  have C : Hid (∀ o, Calls Tryz.prog 65 #[.agg #[.slice a s.length ca], .int .i64 k] (w.alloc o) fun e w' => e = .returned (.int .i64 ((k + typesNum s : Nat) : Int)) ∧ SchemaX w' A B (.agg #[.slice a s.length ca]) (typesMark s k) ∧ Within A B (w.alloc o) w') := Lib.hid fun o =>
    markSchema _ A B _ s k ⟨a, ca, rfl, HS.out.below typeLiesX hB (HA.out o), hc⟩ (Nat.le_trans hB (HA.out o).size) h1 hk
  clear hs
  go_enter Tryz.func24, Tryz.ntmps24
  go_wp2_with fail
  refine (C.out _).mono ?_
  rintro e w1 ⟨rfl, hs1, hw1⟩
  have HX : Hid (TypesX w1 A B a s.length (typesMark s k)) := Lib.hid (by
    obtain ⟨a', ca', hv, hx, _⟩ := hs1
    rw [typesMark_len] at hv hx
    simp at hv; obtain ⟨rfl, rfl⟩ := hv
    exact hx)
  have HW := Lib.hid ((Within.of_below (A := A) (B := B) (HA.out _)).trans hw1)
  clear hs1 hw1
  go_wp2_with fail
  go_ret
  exact ⟨rfl, HX.out, HW.out⟩
theorem heldSchemaOut (w : World) (A B : Nat) (a : Option Addr) (ca : Nat) (c : Int) (s : List TypeP) (k : Nat) (hs : TypesAt w A B a s.length (typesMark s k)) (hc : s.length ≤ ca) (hB : B ≤ w.heap.size) (h1 : 1 ≤ k) (hk : k + typesNum s ≤ 9000000) :
    Calls Tryz.prog 25 #[.agg #[.slice a s.length ca, .int .i64 c], .int .i64 k] w fun e w' => e = .returned (.int .i64 ((k + typesNum s : Nat) : Int)) ∧ Below w.heap.size w w' := by
  have HS := Lib.hid hs
  have HA : Hid (∀ o, Below w.heap.size w (w.alloc o)) := Lib.hid fun o => (Below.refl _ _).alloc (Nat.le_refl _) o
  have C : Hid (∀ o, Calls Tryz.prog 66 #[.agg #[.slice a s.length ca], .int .i64 k] (w.alloc o) fun e w' => e = .returned (.int .i64 ((k + typesNum s : Nat) : Int)) ∧ Below (w.alloc o).heap.size (w.alloc o) w') := Lib.hid fun o =>
    heldSchema _ A B _ s k ⟨a, ca, by rw [typesMark_len], by rw [typesMark_len]; exact HS.out.below typeLies hB (HA.out o), by rw [typesMark_len]; exact hc⟩ (Nat.le_trans hB (HA.out o).size) h1 hk
  obtain ⟨k2, hk2⟩ : ∃ k2 : Nat, k + typesNum s = k2 := ⟨_, rfl⟩
  rw [hk2] at C ⊢
  have hk2n : (0 : Int) ≤ (k2 : Int) := by omega
  clear hs hk2
  go_enter Tryz.func25, Tryz.ntmps25
  go_wp2_with fail
  refine (C.out _).mono ?_
  rintro e w1 ⟨rfl, hb1⟩
  have HB1 := Lib.hid ((HA.out _).trans (hb1.mono (HA.out _).size))
  clear hb1
  go_wp2_with fail
  go_ret
  exact ⟨rfl, HB1.out⟩
theorem eqSchemaOut (w : World) (A B : Nat) (a a' : Option Addr) (ca ca' : Nat) (c : Int) (s : List TypeP) (hs : TypesAt w A B a s.length s) (hc : s.length ≤ ca) (hs' : TypesAt w A B a' s.length s) (hc' : s.length ≤ ca') (hB : B ≤ w.heap.size) :
    Calls Tryz.prog 23 #[.agg #[.slice a s.length ca, .int .i64 c], .agg #[.slice a' s.length ca', .int .i64 c]] w fun e w' => e = .returned (.bool true) ∧ Below w.heap.size w w' := by
  have HS := Lib.hid hs
  have HS' := Lib.hid hs'
  have HA : Hid (∀ o1 o2, Below w.heap.size w ((w.alloc o1).alloc o2)) := Lib.hid fun o1 o2 => ((Below.refl _ _).alloc (Nat.le_refl _) o1).alloc (by simp) o2
  have C : Hid (∀ o1 o2, Calls Tryz.prog 31 #[.agg #[.slice a s.length ca], .agg #[.slice a' s.length ca']] ((w.alloc o1).alloc o2) fun e w' => e = .returned (.bool true) ∧ Below ((w.alloc o1).alloc o2).heap.size ((w.alloc o1).alloc o2) w') := Lib.hid fun o1 o2 =>
    eqSchema _ A B _ _ s ⟨a, ca, rfl, HS.out.below typeLies hB (HA.out o1 o2), hc⟩ ⟨a', ca', rfl, HS'.out.below typeLies hB (HA.out o1 o2), hc'⟩ (Nat.le_trans hB (HA.out o1 o2).size)
  clear hs hs'
  go_enter Tryz.func23, Tryz.ntmps23
  go_wp2_with fail
  refine (C.out _ _).mono ?_
  rintro e w1 ⟨rfl, hb1⟩
  have HB1 := Lib.hid ((HA.out _ _).trans (hb1.mono (HA.out _ _).size))
  have hk := kept2z hb1
  have ⟨⟨y0, y1⟩, _⟩ := keep2 hk.1
  have ⟨⟨z0, z1⟩, _⟩ := keep2 hk.2
  clear hb1 hk
  go_wp2_with fail
  go_ret
  exact ⟨rfl, HB1.out⟩
end Go.Proofs.YtceabbbmgfeofaaGreatDoor.Rw
