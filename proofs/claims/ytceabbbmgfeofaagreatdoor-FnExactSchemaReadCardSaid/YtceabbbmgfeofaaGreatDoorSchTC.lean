/-
  Contract: spec.SchemaText answers the text of a right schema, else the empty text; of what was there nothing is changed. Conditions: in memory.
-/
import Derived.Test.YtceabbbmgfeofaaGreatDoorRows
import Derived.Test.YtceabbbmgfeofaaGreatDoorSchTB
import Derived.Test.YtceabbbmgfeofaaGreatDoorBytes
import Derived.Test.YtceabbbmgfeofaaGreatDoorOwnRw
import Derived.Lib.AppendStr
namespace Go.Proofs.YtceabbbmgfeofaaGreatDoor.Rw
open Go.RowKit Words Decs Texts Bytes
set_option linter.unusedVariables false
set_option maxRecDepth 100000

theorem app_string {w : World} {ops : Array Oper} {rest : List Oper} {o : Oper} {a : Act} {Q : Exit → Act → World → Prop} (hgd : o.guard = none) (s x : Operand)
    (ho : o.op = .call { callee := .builtin .append, args := #[s, x], argTypes := #[22, 9] })
    (base : Nat) (v : Value) (l : List UInt8) (hs : a.eval s = v) (hown : OwnB w base v l) (y : ByteArray) (hx : a.eval x = .string y)
    (hsize : l.length + y.size ≤ 140737488351232) (hbase : base ≤ w.heap.size)
    (h : ∀ a' n' c' w', OwnB w' base (.slice a' n' c') (l ++ y.data.toList) → Below base w w' → wpList Tryz.prog ops Q rest (a.put o.dst (.slice a' n' c')) w') : wpList Tryz.prog ops Q (o :: rest) a w := by
  obtain ⟨i0, hi, hz0, hz1, hz2⟩ := info_parts info5
  refine Lib.wpList_append_own_string w hgd s x 22 9 ho base 5 i0 Tryz.underlying22 Tryz.underlying9 hi hz0 hz1 hz2 v l.length (Lib.byteCells l) hs hown y hx (by unfold maxLen; omega) (by omega) hbase fun v' w' hown' hgrow _ => ?_
  obtain ⟨a', c', rfl⟩ : ∃ a' c', v' = .slice a' (l.length + y.size) c' := by
    obtain ⟨_, ⟨rfl, h0⟩ | ⟨g, cap, cur, rfl, _⟩⟩ := hown'
    · exact ⟨none, 0, by rw [h0]⟩
    · exact ⟨_, _, rfl⟩
  refine h a' _ c' w' ?_ ((Below.refl base w).grown hgrow hbase (fun k hk => (World.ownsRow.lt hown k hk).1))
  unfold OwnB
  rw [List.length_append, Lib.byteCells_append, Array.length_toList]
  exact hown'
theorem line_size {s : List TypeP} {x : TypeP} (h : LineOk s x) : (lineT x).size ≤ 280 := by
  have h1 := (type_small h.nm).2
  have h2 := dec_size h.bytes.1 h.bytes.2
  have hf : ∀ l : List FieldP, (∀ f ∈ l, FieldOk s f) → (fieldsT l).size ≤ 25 * l.length := by
    intro l
    induction l with
    | nil => intro _; simp [fieldsT]
    | cons f l ih =>
      intro hl
      have e1 := field_size (hl f (by simp))
      have e2 := ih fun g hg => hl g (by simp [hg])
      simp only [fieldsT, ByteArray.size_append, List.length_cons]; omega
  have hm : ∀ l : List ByteArray, (∀ m ∈ l, m.size ≤ 8) → (memsT l).size ≤ 9 * l.length := by
    intro l
    induction l with
    | nil => intro _; simp [memsT]
    | cons m l ih =>
      intro hl
      have e1 := hl m (by simp)
      have e2 := ih fun g hg => hl g (by simp [hg])
      simp only [memsT, ByteArray.size_append, List.length_cons, cB_size, List.length_nil]; omega
  have e1 := hf x.fields h.each
  have e2 := hm x.members h.eachM
  have e3 := h.few
  have e4 := h.fewM
  have e5 : (kindW x.kind).size ≤ 5 := by unfold kindW; split <;> (try split) <;> simp [cB_size]
  have e6 : (if x.kind = 1 then cB [32] ++ decB x.bytes else ByteArray.empty).size ≤ 4 := by split <;> simp [ByteArray.size_append, cB_size]; omega
  unfold lineT headT
  simp only [ByteArray.size_append, cB_size, List.length_cons, List.length_nil]
  omega
theorem part_fewM {s : List TypeP} {x : TypeP} (h : partB s x = true) : x.members.length ≤ 5 := by
  by_cases hk : x.kind = 3
  · unfold partB oneTB at h
    rw [if_neg (by omega), if_neg (by omega), if_pos hk] at h
    simp only [Bool.and_eq_true, decide_eq_true_eq] at h
    exact h.2.2
  · rw [part_members h hk]; simp
theorem membersAll_iff (s : List TypeP) (l : List ByteArray) : ∀ (r : List ByteArray) (i : Nat), membersAll s l r i = true ↔ ∀ (j : Nat) (x : ByteArray), r[j]? = some x → memberB s l (i + j) x = true
  | [], i => by simp [membersAll]
  | y :: r, i => by
    rw [membersAll, Bool.and_eq_true, membersAll_iff s l r (i + 1)]
    constructor
    · rintro ⟨h1, h2⟩ j x hx
      cases j with
      | zero => cases hx; simpa using h1
      | succ j => have := h2 j x (by simpa using hx); rwa [show i + (j + 1) = i + 1 + j by omega]
    · intro h
      exact ⟨by simpa using h 0 y rfl, fun j x hx => by have := h (j + 1) x (by simpa using hx); rwa [show i + 1 + j = i + (j + 1) by omega]⟩
theorem part_member {s : List TypeP} {x : TypeP} (h : partB s x = true) {m : ByteArray} (hm : m ∈ x.members) : (typeIn m s).kind = 2 := by
  by_cases hk : x.kind = 3
  · unfold partB oneTB at h
    rw [if_neg (by omega), if_neg (by omega), if_pos hk] at h
    simp only [Bool.and_eq_true] at h
    obtain ⟨i, hi⟩ := List.mem_iff_getElem?.1 hm
    have := (membersAll_iff s x.members x.members 0).1 h.1 i m hi
    unfold memberB at this
    simp only [Bool.and_eq_true, beq_iff_eq] at this
    exact this.1
  · rw [part_members h hk] at hm; cases hm
theorem member_type {s : List TypeP} (h : schemaB s = true) {x : TypeP} (hx : partB s x = true) {m : ByteArray} (hm : m ∈ x.members) : typeB m = true := by
  have hk := part_member hx hm
  have hf : freshB m s = false := by
    cases hf : freshB m s with
    | true => rw [typeIn_zero hf] at hk; simp [zeroType] at hk
    | false => rfl
  obtain ⟨h1, _, h2⟩ := right_at h hf
  rw [h2] at h1; exact h1
theorem line_ok {s : List TypeP} (h : schemaB s = true) {i : Nat} {x : TypeP} (hx : s[i]? = some x) : LineOk s x := by
  obtain ⟨⟨h1, h2⟩, _⟩ := (schemaB_parts h).2.2 i x hx
  have hk := partB_kind h2
  refine ⟨h1, by unfold isKind at hk; simp at hk; omega, ?_, part_few h2, fun f hf => typeIn_named h h2 hf, part_fewM h2, fun m hm => (type_small (member_type h h2 hm)).2⟩
  by_cases hk1 : x.kind = 1
  · unfold partB leafB at h2
    rw [if_pos hk1] at h2
    simp only [Bool.and_eq_true, decide_eq_true_eq] at h2
    exact h2.1.1
  · have := part_bytes h2 hk1
    omega

set_option maxHeartbeats 1000000 in
theorem specSchemaText (w : World) (A B : Nat) (v : Value) (s : List TypeP) (hv : SchemaAt w A B v s) (hB : B ≤ w.heap.size) :
    Calls Tryz.prog 61 #[v] w fun e w' => e = .returned (.string (schT s)) ∧ Below w.heap.size w w' := by
  have C := Lib.hid (fun o1 => specSchemaRight (w.alloc o1) A B v s (hv.below (C := w.heap.size) hB ((Below.refl _ _).alloc (Nat.le_refl _) o1)) (Nat.le_trans hB (by simp)))
  have HA : Hid (∀ o1, Below w.heap.size w (w.alloc o1)) := Lib.hid fun o1 => (Below.refl _ _).alloc (Nat.le_refl _) o1
  obtain ⟨a, ca, rfl, hd, _⟩ := hv
  have HS := Lib.hid hd
  have hlen := hd.2.1
  clear hd
  have hf0 := Lib.hid (show schT s = if schemaB s = true then linesT s else ByteArray.empty from rfl)
  have hsb0 : Hid (schemaB s = true → s.length ≤ 12 ∧ ∀ (i : Nat) (x : TypeP), s[i]? = some x → LineOk s x) := Lib.hid fun h => ⟨(schemaB_parts h).1.2, fun i x hx => line_ok h hx⟩
  generalize schT s = ST at *
  go_enter Tryz.func61, Tryz.ntmps61
  go_wp2_with fail
  refine (C.out _).mono ?_
  rintro e w1 ⟨rfl, hb1⟩
  have HB1 := Lib.hid ((HA.out _).trans (hb1.mono (HA.out _).size))
  have hk1 := (hb1.block w.heap.size (by simp)).trans (heap_alloc_new w _)
  have ⟨k0, _⟩ := keep1 hk1
  have hl1 := lt_of_get hk1
  clear hb1
  cases hsb : schemaB s with
  | false =>
    have HFI : Hid ((⟨#[]⟩ : ByteArray) = ST) := Lib.hid (by rw [hf0.out, hsb]; rfl)
    clear hsb
    go_wp2_with fail
    go_ret
    exact ⟨ret_s HFI.out, HB1.out⟩
  | true =>
    have HFY : Hid (ST = linesT s) := Lib.hid (by rw [hf0.out, if_pos hsb])
    have HOK := Lib.hid (hsb0.out hsb)
    have h12 := HOK.out.1
    have hk2 : (w1.alloc (.cells #[] 5)).heap[w.heap.size]? = _ := (Go.Deep.blk_alloc_lt _ _ _ hl1).trans hk1
    have HB2 := Lib.hid (HB1.out.alloc HB1.out.size (.cells #[] 5))
    have HO2 := Lib.hid (OwnB.made w1 w.heap.size HB1.out.size)
    have HO3 : Hid (OwnB (w1.alloc (.cells #[] 5)) (w.heap.size + 1) (.slice (some ⟨w1.heap.size, 0, none⟩) 0 0) []) := Lib.hid (OwnB.made w1 (w.heap.size + 1) hl1)
    clear hsb HO2
    go_wp2_with fail
    go_loopw [3, 4] (fun v i wr => ∃ (i' : Nat) (av : Option Addr) (n c : Nat) (l : List UInt8), i' ≤ s.length ∧ v = .slice av n c ∧ i = .int .i64 i' ∧ Hid ((⟨l.toArray⟩ : ByteArray) ++ linesT (s.drop i') = ST) ∧ l.length ≤ 280 * i' ∧ wr.heap[w.heap.size]? = some (.cells #[.slice a s.length ca] 25 (0, 0)) ∧ Hid (OwnB wr (w.heap.size + 1) (.slice av n c) l) ∧ Below w.heap.size w wr) (fun _ i _ => s.length - (intOf i).toNat)
    case atStart => exact ⟨0, _, 0, 0, [], by omega, rfl, rfl, Lib.hid (by rw [HFY.out, List.drop_zero]; exact ByteArray.empty_append), by simp, hk2, HO3, HB2.out⟩
    case round =>
      obtain ⟨i, av, n, c, l, hi, rfl, rfl, hT, hls, hk3, HO, hb⟩ := hrel
      have HB := Lib.hid hb
      clear k0 hk2 hk1
      have ⟨k0, _⟩ := keep1 hk3
      have hl3 := lt_of_get hk3
      by_cases hlt : i < s.length
      · have hli : (i : Int) < (s.length : Int) := by omega
        obtain ⟨x, b, off, hd, rfl, hAb, hbb, hok, a1, ca1, cm, ccm, hc, h2, h3⟩ := (HS.out.below typeLies (Nat.le_refl _) (hb.mono hB)).at hlt
        obtain ⟨d0, d1, d2, d3, d4⟩ := row5 hc
        have hlo := HOK.out.2 i x hd
        have hsz := line_size hlo
        have CL : Hid (Calls Tryz.prog 110 #[.agg (x.cells a1 ca1 cm ccm).toArray] wr fun e w' => e = .returned (.string (lineT x)) ∧ Below wr.heap.size wr w') := Lib.hid (specLine wr A B x a1 ca1 cm ccm ⟨a1, ca1, cm, ccm, rfl, hok, h2, h3⟩ (Nat.le_trans hB HB.out.size) s hlo)
        have hst := Lib.hid (linesT_drop hd)
        simp only [TypeP.cells] at CL
        generalize lineT x = LT at *
        clear hd hb hok hc h2 h3 hlo hlt
        go_wp2_with (first
          | (go_at_call 110; refine CL.out.mono ?_; rintro e w2 ⟨rfl, hb2⟩; have hk4 := (hb2.block w.heap.size hl3).trans hk3; have HO4 : Hid (OwnB w2 (w.heap.size + 1) (.slice av n c) l) := Lib.hid (owns_below (B := 0) HO.out fun q _ hq => hb2.block q hq); have HB4 := Lib.hid (HB.out.trans (hb2.mono HB.out.size)); have hz4 : w.heap.size + 1 ≤ w2.heap.size := lt_of_get hk4; clear hb2)
          | (at_builtin; refine app_string rfl _ _ rfl (w.heap.size + 1) (.slice av n c) l rfl HO4.out LT rfl (by omega) hz4 ?_; intro a5 n5 c5 w5 hown5 hb5))
        have hk5 := (hb5.block w.heap.size (by omega)).trans hk4
        have HB5 := Lib.hid (HB4.out.trans (hb5.mono (by omega)))
        have HO5 := Lib.hid hown5
        have hT5 : Hid ((⟨(l ++ LT.data.toList).toArray⟩ : ByteArray) ++ linesT (s.drop (i + 1)) = ST) := Lib.hid (by
          rw [← hT.out, hst.out, ← ByteArray.append_assoc]
          congr 1)
        have hl5 : (l ++ LT.data.toList).length ≤ 280 * (i + 1) := by
          have : LT.data.toList.length = LT.size := by rw [Array.length_toList]; rfl
          rw [List.length_append]; omega
        clear hown5 hb5
        go_roundw
        case rel => exact ⟨i + 1, a5, n5, c5, _, by omega, rfl, by go_num, hT5, hl5, hk5, HO5, HB5.out⟩
        case measure => simp [intOf]; omega
      · obtain rfl : i = s.length := by omega
        have hcv := HO.out.string
        have hfin : Hid ((⟨l.toArray⟩ : ByteArray) = ST) := Lib.hid (by
          have := hT.out
          rw [List.drop_length] at this
          simpa [linesT] using this)
        clear hlt hb
        go_wp2_with fail
        go_ret
        exact ⟨ret_s hfin.out, HB.out⟩
end Go.Proofs.YtceabbbmgfeofaaGreatDoor.Rw
