/-
  Contracts: impl.placeOf (with slices.IndexFunc and its closure), slices.Index over texts, impl.fieldRight; of what was there nothing is changed. Conditions: in memory; a map of kinds.
-/
import Derived.Test.YtceabbbmgfeofaaGreatDoorRows
import Derived.Test.YtceabbbmgfeofaaGreatDoorKind
namespace Go.Proofs.YtceabbbmgfeofaaGreatDoor.Rw
open Go.RowKit Words Go.Maps
set_option linter.unusedVariables false
set_option maxRecDepth 100000

theorem implPlace1 (w : World) (x : FieldP) (hx : x.ok) (nm : ByteArray) (hn : OkS nm) (p : Nat) (hp : w.cell? ⟨p, 0, none⟩ = some (.string nm)) :
    Calls Tryz.prog 265 #[.agg x.cells.toArray, .pointer (some ⟨p, 0, none⟩)] w fun e w' => e = .returned (.bool (decide (x.name = nm))) ∧ Below w.heap.size w w' := by
  obtain ⟨xn, tp, ls, mu, sz, cp⟩ := x
  obtain ⟨hk, hk2, _⟩ := hx
  unfold OkS at hk hn
  simp only [FieldP.cells] at hk ⊢
  have hlt := lt_of_cell hp
  have HA : Hid (∀ o, Below w.heap.size w (w.alloc o)) := Lib.hid fun o => (Below.refl _ _).alloc (Nat.le_refl _) o
  have hp2 : ∀ o, (w.alloc o).cell? ⟨p, 0, none⟩ = some (.string nm) := fun o => ((HA.out o).cell (p := ⟨p, 0, none⟩) hlt).trans hp
  by_cases hx : xn = nm
  · have hf := Lib.hid (show decide (xn = nm) = true from decide_eq_true hx)
    subst hx
    go_enter Tryz.func265, Tryz.ntmps265
    go_wp2_with fail
    go_ret
    exact ⟨ret_bool hf.out.symm, HA.out _⟩
  · have hf := Lib.hid (show decide (xn = nm) = false from decide_eq_false hx)
    have hn1 := toList_ne hx
    have hn2 := toList_beq hx
    go_enter Tryz.func265, Tryz.ntmps265
    go_wp2_with fail
    go_ret
    exact ⟨ret_bool (by first | exact hf.out.symm | rfl), HA.out _⟩

theorem implIndexFunc (w : World) (A B : Nat) (a : Option Addr) (len cap : Nat) (l : List FieldP) (nm : ByteArray) (hn : OkS nm) (hs : FieldsAt w A B a len l) (hB : B ≤ w.heap.size) (p : Nat) (hp : w.cell? ⟨p, 0, none⟩ = some (.string nm)) :
    Calls Tryz.prog 264 #[.slice a len cap, .func (.func 265) #[] #[.pointer (some ⟨p, 0, none⟩)]] w fun e w' => e = .returned (.int .i64 (findF nm l 0)) ∧ Below w.heap.size w w' := by
  have hlen := hs.2.1
  have HS := Lib.hid hs
  have hplt := lt_of_cell hp
  have HN := Lib.hid hn
  obtain ⟨hll, _⟩ := hs
  subst hll
  go_enter Tryz.func264, Tryz.ntmps264
  go_wp2_with fail
  go_loopw [8] (fun i wr => ∃ (i' : Nat), i' ≤ l.length ∧ Hid (findF nm l 0 = findF nm (l.drop i') i') ∧ i = .int .i64 i' ∧ Hid (wr.cell? ⟨p, 0, none⟩ = some (.string nm)) ∧ Below w.heap.size w wr) (fun i _ => l.length - (intOf i).toNat)
  case atStart => exact ⟨0, by omega, Lib.hid (by rw [List.drop_zero]), rfl, Lib.hid hp, Below.refl _ _⟩
  case round =>
    obtain ⟨i, hi, hm, rfl, hpc, hb⟩ := hrel
    have HB := Lib.hid hb
    by_cases hlt : i < l.length
    · have hli : (i : Int) < (l.length : Int) := by omega
      obtain ⟨x, b, off, hd, rfl, hA, hbb, hok, hc⟩ := (HS.out.below fieldLies (Nat.le_refl _) (hb.mono hB)).at hlt
      obtain ⟨c0, c1, c2, c3, c4, c5⟩ := row6 hc
      have CC : Hid (Calls Tryz.prog 265 #[.agg #[.string x.name, .string x.typ, .bool x.list, .bool x.must, .int .i64 x.size, .int .i64 x.cap], .pointer (some ⟨p, 0, none⟩)] wr fun e w' => e = .returned (.bool (decide (x.name = nm))) ∧ Below wr.heap.size wr w') := Lib.hid (implPlace1 wr x hok nm HN.out p hpc.out)
      by_cases hx : x.name = nm
      · have hf := Lib.hid (hm.out.trans (findF_hit hd hx))
        have hde : decide (x.name = nm) = true := decide_eq_true hx
        rw [hde] at CC
        clear hlt hd hb hok hc hx hde
        go_wp2_with fail
        refine CC.out.mono ?_
        rintro e w1 ⟨rfl, hb1⟩
        have HB1 := Lib.hid (HB.out.trans (hb1.mono HB.out.size))
        clear hb1
        go_wp2_with fail
        go_ret
        exact ⟨ret_i hf.out.symm, HB1.out⟩
      · have hrel := Lib.hid (hm.out.trans (findF_miss hd hx))
        have hde : decide (x.name = nm) = false := decide_eq_false hx
        rw [hde] at CC
        clear hlt hd hb hok hc hx hde
        go_wp2_with fail
        refine CC.out.mono ?_
        rintro e w1 ⟨rfl, hb1⟩
        have HB1 := Lib.hid (HB.out.trans (hb1.mono HB.out.size))
        have hp1 := Lib.hid ((hb1.cell (p := ⟨p, 0, none⟩) (lt_of_cell hpc.out)).trans hpc.out)
        clear hb1
        go_wp2_with fail
        go_roundw
        case rel => exact ⟨i + 1, by omega, hrel, by go_num, hp1, HB1.out⟩
        case measure => simp [intOf]; omega
    · obtain rfl : i = l.length := by omega
      have hf : Hid (findF nm l 0 = -1) := Lib.hid (by rw [hm.out, List.drop_length]; rfl)
      clear hlt hb
      go_wp2_with fail
      go_ret
      exact ⟨ret_i hf.out.symm, HB.out⟩

theorem implPlace (w : World) (A B : Nat) (a : Option Addr) (len cap : Nat) (l : List FieldP) (nm : ByteArray) (hn : OkS nm) (hs : FieldsAt w A B a len l) (hB : B ≤ w.heap.size) :
    Calls Tryz.prog 260 #[.slice a len cap, .string nm] w fun e w' => e = .returned (.int .i64 (findF nm l 0)) ∧ Below w.heap.size w w' := by
  have HS := Lib.hid hs
  have HN := Lib.hid hn
  have HA : Hid (∀ o, Below w.heap.size w (w.alloc o)) := Lib.hid fun o => (Below.refl _ _).alloc (Nat.le_refl _) o
  clear hs hn
  go_enter Tryz.func260, Tryz.ntmps260
  go_wp2_with fail
  refine (implIndexFunc _ A B a len cap l nm HN.out (HS.out.below fieldLies hB (HA.out _)) (Nat.le_trans hB (HA.out _).size) w.heap.size (by simp)).mono ?_
  rintro e w1 ⟨rfl, hb1⟩
  have HB1 := Lib.hid ((HA.out _).trans (hb1.mono (HA.out _).size))
  clear hb1
  go_wp2_with fail
  go_ret
  exact ⟨rfl, HB1.out⟩

/-- Whether a field is right for the program. -/
noncomputable def frB (s : List TypeP) (x : FieldP) : Bool := (!freshB x.typ s && wordB x.name) && sizedB x
theorem implFieldRight (w : World) (A B : Nat) (x : FieldP) (hx : x.ok) (b n : Nat) (D : DataW Value) (s : List TypeP) (hD : KD w A B s D) (ho : OwnK w b n D) (hB : B ≤ w.heap.size) :
    Calls Tryz.prog 262 #[.agg x.cells.toArray, .map (some b)] w fun e w' => e = .returned (.bool (frB s x)) ∧ Below w.heap.size w w' := by
  have HA : Hid (∀ o, Below w.heap.size w (w.alloc o)) := Lib.hid fun o => (Below.refl _ _).alloc (Nat.le_refl _) o
  have HL : Hid (∀ o, ∃ v, (Instr.lookup 88 (.map (some b)) (.string x.typ) true).run Tryz.prog (w.alloc o) = .ok (.tuple #[v, .bool (!freshB x.typ s)]) (w.alloc o) ∧ (freshB x.typ s = true → v = .nilIface) ∧ (freshB x.typ s = false → KindV (w.alloc o) A B v (typeIn x.typ s))) := Lib.hid fun o => (hD.below hB (HA.out o)).look_ok (ho.alloc o) x.typ hx.2.1
  have C1 : Hid (∀ w, Calls Tryz.prog 178 #[.string x.name] w fun e w' => e = .returned (.bool (wordB x.name)) ∧ w = w') := Lib.hid fun w => implWordRight _ (by unfold maxLen; exact hx.1) w
  have C2 : Hid (∀ w, Calls Tryz.prog 266 #[.agg x.cells.toArray] w fun e w' => e = .returned (.bool (sizedB x)) ∧ Below w.heap.size w w') := Lib.hid fun w => implList w x hx
  have hfr := Lib.hid (show frB s x = ((!freshB x.typ s && wordB x.name) && sizedB x) from rfl)
  obtain ⟨xn, tp, ls, mu, sz, cp⟩ := x
  obtain ⟨hk, hk2, ⟨hs1, hs2⟩, hc1, hc2⟩ := hx
  unfold OkS at hk hk2
  simp only [FieldP.cells] at hk hk2 hs1 hs2 hc1 hc2 HL C1 C2 ⊢
  obtain ⟨v, hrun, hv1, hv2⟩ := HL.out (.cells #[.string xn, .string tp, .bool ls, .bool mu, .int .i64 sz, .int .i64 cp] 50)
  obtain ⟨p1, hp1⟩ : ∃ p, freshB tp s = p := ⟨_, rfl⟩
  obtain ⟨p2, hp2⟩ : ∃ p, wordB xn = p := ⟨_, rfl⟩
  obtain ⟨p3, hp3⟩ : ∃ p, sizedB ⟨xn, tp, ls, mu, sz, cp⟩ = p := ⟨_, rfl⟩
  simp only [hp1, hp2, hp3] at hfr hrun C1 C2 hv1 hv2
  clear hD ho HL hp1 hp2 hp3
  cases p1
  · obtain ⟨_, ka, kca, kc, kcc, hve, _⟩ := hv2 rfl
    clear hv1 hv2
    subst hve
    generalize kindT (typeIn tp s).kind = T0 at *
    generalize (typeIn tp s).cells ka kca kc kcc = K0 at *
    cases p2
    · go_enter Tryz.func262, Tryz.ntmps262
      go_wp2_with (first
        | (go_at_call 178; refine (C1.out _).mono ?_; rintro e w' ⟨rfl, rfl⟩)
        | (go_at_call 266; refine (C2.out _).mono ?_; rintro e w1 ⟨rfl, hb1⟩))
      go_ret
      exact ⟨ret_bool hfr.out.symm, HA.out _⟩
    · go_enter Tryz.func262, Tryz.ntmps262
      go_wp2_with (first
        | (go_at_call 178; refine (C1.out _).mono ?_; rintro e w' ⟨rfl, rfl⟩)
        | (go_at_call 266; refine (C2.out _).mono ?_; rintro e w1 ⟨rfl, hb1⟩))
      go_ret
      exact ⟨ret_bool hfr.out.symm, (HA.out _).trans (hb1.mono (HA.out _).size)⟩
  · obtain rfl := hv1 rfl
    clear hv1 hv2
    go_enter Tryz.func262, Tryz.ntmps262
    go_wp2_with fail
    go_ret
    exact ⟨ret_bool hfr.out.symm, HA.out _⟩
end Go.Proofs.YtceabbbmgfeofaaGreatDoor.Rw
