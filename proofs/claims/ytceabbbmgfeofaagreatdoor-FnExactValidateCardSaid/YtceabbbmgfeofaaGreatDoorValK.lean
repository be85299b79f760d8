/-
  Contracts: checker.sel, checker.block tell what is wrong first of Sels, for a type; of what was there nothing is changed. Conditions: in memory; a map of the kinds of a right schema; Sels of the three kinds.
-/
import Derived.Test.YtceabbbmgfeofaaGreatDoorRows
import Derived.Test.YtceabbbmgfeofaaGreatDoorValI
import Derived.Test.YtceabbbmgfeofaaGreatDoorValN
import Derived.Test.YtceabbbmgfeofaaGreatDoorValO
namespace Go.Proofs.YtceabbbmgfeofaaGreatDoor.Selss
open Go.RowKit Words Go.Maps
set_option linter.unusedVariables false
set_option maxRecDepth 100000
theorem asLfObj (v : Value) (W : World) : (Instr.typeAssert (.iface 91 v) 94 234 true).run Tryz.prog W = .ok (.tuple #[.agg #[.string ⟨#[]⟩, .int .i64 0, .int .i64 0, .slice none 0 0, .slice none 0 0], .bool false]) W := by kernel_rfl
theorem asLfLeaf (v : Value) (W : World) : (Instr.typeAssert (.iface 234 v) 94 234 true).run Tryz.prog W = .ok (.tuple #[v, .bool true]) W := by kernel_rfl
theorem asLfOne (v : Value) (W : World) : (Instr.typeAssert (.iface 235 v) 94 234 true).run Tryz.prog W = .ok (.tuple #[.agg #[.string ⟨#[]⟩, .int .i64 0, .int .i64 0, .slice none 0 0, .slice none 0 0], .bool false]) W := by kernel_rfl
theorem asLfNil (W : World) : (Instr.typeAssert .nilIface 94 234 true).run Tryz.prog W = .ok (.tuple #[.agg #[.string ⟨#[]⟩, .int .i64 0, .int .i64 0, .slice none 0 0, .slice none 0 0], .bool false]) W := by kernel_rfl
/-- What a look-up tells, asked whether it is a leaf. -/
theorem Chk.leaf {w : World} {B : Nat} {s : List Rw.TypeP} {fr : List FragP} {b n : Nat} {D : DataW Value} {fa : Option Addr} (h : Chk w B s fr b n D fa) (nm : ByteArray) (hn : OkS nm) :
    ∃ v, (Instr.lookup 88 (.map (some b)) (.string nm) false).run Tryz.prog w = .ok v w ∧ ∃ (tn : ByteArray) (tk tb : Int) (sa : Option Addr) (sl sc : Nat) (ma : Option Addr) (ml mc : Nat),
      ∀ W, (Instr.typeAssert v 94 234 true).run Tryz.prog W = .ok (.tuple #[.agg #[.string tn, .int .i64 tk, .int .i64 tb, .slice sa sl sc, .slice ma ml mc], .bool ((Rw.typeIn nm s).kind == 1)]) W := by
  obtain ⟨lv, hrun, h1, h2⟩ := h.kd.look h.own nm hn
  refine ⟨lv, hrun, ?_⟩
  cases hf : Rw.freshB nm s with
  | true =>
    obtain rfl := h1 hf
    exact ⟨_, _, _, _, _, _, _, _, _, fun W => by rw [asLfNil, Rw.typeIn_zero hf]; rfl⟩
  | false =>
    obtain ⟨hk, a, ca, c, cc, rfl, _⟩ := h2 hf
    rcases hk with hk | hk | hk
    · exact ⟨_, _, _, _, _, _, _, _, _, fun W => by rw [hk, show Rw.kindT 1 = 234 from rfl, asLfLeaf]; rfl⟩
    · exact ⟨_, _, _, _, _, _, _, _, _, fun W => by rw [hk, show Rw.kindT 2 = 91 from rfl, asLfObj]; rfl⟩
    · exact ⟨_, _, _, _, _, _, _, _, _, fun W => by rw [hk, show Rw.kindT 3 = 235 from rfl, asLfOne]; rfl⟩
theorem field_fine {s : List Rw.TypeP} (hs : Rw.schemaB s = true) {t : ByteArray} {f : Rw.FieldP} (hf : f ∈ (Rw.typeIn t s).fields) : f.ok ∧ f.tiny := by
  cases hfr : Rw.freshB t s with
  | true => rw [Rw.typeIn_zero hfr] at hf; simp [Rw.zeroType] at hf
  | false =>
    obtain ⟨h1, h2, h3⟩ := Rw.part_field (Rw.right_at hs hfr).2.1 hf
    have hw := Rw.word_small h1
    have ht : f.typ.size ≤ 8 := by
      cases hf2 : Rw.freshB f.typ s with
      | true => rw [Rw.typeIn_zero hf2] at h2; cases h2
      | false =>
        obtain ⟨a1, _, a2⟩ := Rw.right_at hs hf2
        have := (Rw.type_small a1).2
        rw [a2] at this; exact this
    refine ⟨⟨by unfold Rw.OkS; omega, by unfold Rw.OkS; omega, ?_⟩, by omega, by omega⟩
    unfold Rw.sizedB at h3
    unfold Rw.OkI
    split at h3
    · simp at h3; omega
    · simp at h3; omega
theorem field_fine0 {s : List Rw.TypeP} (hs : Rw.schemaB s = true) (t nm : ByteArray) : (Rw.fieldIn nm (Rw.typeIn t s).fields).ok := by
  rcases Rw.fieldIn_cases nm (Rw.typeIn t s).fields with h | ⟨h, _⟩
  · rw [h]; exact Rw.zeroField_ok
  · exact (field_fine hs h).1
/-- What is told of a field: its type, or what is wrong. -/
def FieldOut (r : WrP) (typ : ByteArray) (e : Ending) : Prop := (r = none ∧ e = .returned (.tuple #[.string typ, .nilIface])) ∨ (∃ (l : ErrW.Leaf) (x : ByteArray × Int), e = .returned (.tuple #[.string ⟨#[]⟩, .iface l.typ l.pay]) ∧ r = some x ∧ LeafFor x l)
theorem FieldOut.none (typ t : ByteArray) : FieldOut (some (t, 6)) typ (.returned (.tuple #[.string ⟨#[]⟩, .iface 136 (.string t)])) := .inr ⟨.none t, _, rfl, rfl, .inl ⟨rfl, rfl⟩⟩
theorem FieldOut.range (typ t : ByteArray) : FieldOut (some (t, 8)) typ (.returned (.tuple #[.string ⟨#[]⟩, .iface 138 (.string t)])) := .inr ⟨.range t, _, rfl, rfl, .inr (.inr (.inl ⟨rfl, rfl⟩))⟩
theorem FieldOut.state (typ t : ByteArray) : FieldOut (some (t, 10)) typ (.returned (.tuple #[.string ⟨#[]⟩, .iface 139 (.string t)])) := .inr ⟨.state t, _, rfl, rfl, .inr (.inr (.inr ⟨rfl, rfl⟩))⟩
theorem blk2 {w : World} {g : Nat} {o : Obj} (h : w.heap[g]? = some o) (o1 o2 : Obj) : (w.alloc o1).heap[g]? = some o ∧ ((w.alloc o1).alloc o2).heap[g]? = some o := by
  have hl := Rw.lt_of_get h
  have h1 := (Go.Deep.blk_alloc_lt w o1 g hl).trans h
  exact ⟨h1, (Go.Deep.blk_alloc_lt _ o2 g (Rw.lt_of_get h1)).trans h1⟩
set_option maxHeartbeats 4000000 in
theorem implVField (w : World) (B : Nat) (s : List Rw.TypeP) (fr : List FragP) (b n' : Nat) (D : DataW Value) (fa : Option Addr) (fc : Nat) (k : Int) (key nm : ByteArray) (n : Int) (u : Sels) (ua : Option Addr) (ucap : Nat) (t : ByteArray)
    (hs : Rw.schemaB s = true) (ht : compB s t = true) (htk : OkS t) (hok : OkI k ∧ OkS key ∧ OkS nm ∧ OkI n) (hul : u.len ≤ 9223372036854775807) (hc : Chk w B s fr b n' D fa) (hB : B ≤ w.heap.size) :
    Calls Tryz.prog 176 #[.agg #[.map (some b), .slice fa fr.length fc], .agg #[.int .i64 k, .string key, .string nm, .int .i64 n, .slice ua u.len ucap], .string t] w fun e w' =>
      FieldOut (fieldW s key nm n u (Rw.fieldIn nm (Rw.typeIn t s).fields)) (Rw.fieldIn nm (Rw.typeIn t s).fields).typ e ∧ Below w.heap.size w w' := by
  have HA : Hid (∀ o1 o2, Below w.heap.size w ((w.alloc o1).alloc o2)) := Lib.hid fun o1 o2 => ((Below.refl _ _).alloc (Nat.le_refl _) o1).alloc (by simp) o2
  have HC := Lib.hid hc
  have HC0 : Hid (∀ o1 o2, Chk ((w.alloc o1).alloc o2) B s fr b n' D fa) := Lib.hid fun o1 o2 => hc.next hB (HA.out o1 o2)
  have hfr := comp_there ht
  have hpt := (Rw.right_at hs hfr).2.1
  obtain ⟨lv, hrun, _, h2⟩ := (HC0.out (.cells #[.map (some b), .slice fa fr.length fc] 150) (.cells #[.int .i64 k, .string key, .string nm, .int .i64 n, .slice ua u.len ucap] 114)).kd.look (HC0.out _ _).own t htk
  obtain ⟨hk3, ka, kca, kc, kcc, rfl, hkt⟩ := h2 hfr
  have hfine : ∀ f ∈ (Rw.typeIn t s).fields, f.tiny := fun f hf => (field_fine hs hf).2
  have hfo := field_fine0 hs t nm
  have hcap := cap_ge hs t nm
  have hthere := @field_there s hs t nm
  have hk2 : (Rw.typeIn t s).kind = 2 ∨ (Rw.typeIn t s).kind = 3 := by
    rcases hk3 with h | h
    · unfold compB at ht; rw [h] at ht; cases ht
    · exact h
  have CF : Hid (((Rw.typeIn t s).kind = 2 → Calls Tryz.prog 256 #[.agg ((Rw.typeIn t s).cells ka kca kc kcc).toArray, .string nm] ((w.alloc (.cells #[.map (some b), .slice fa fr.length fc] 150)).alloc (.cells #[.int .i64 k, .string key, .string nm, .int .i64 n, .slice ua u.len ucap] 114)) fun e w'' => e = .returned (.agg (Rw.fieldIn nm (Rw.typeIn t s).fields).cells.toArray) ∧ Below ((w.alloc (.cells #[.map (some b), .slice fa fr.length fc] 150)).alloc (.cells #[.int .i64 k, .string key, .string nm, .int .i64 n, .slice ua u.len ucap] 114)).heap.size ((w.alloc (.cells #[.map (some b), .slice fa fr.length fc] 150)).alloc (.cells #[.int .i64 k, .string key, .string nm, .int .i64 n, .slice ua u.len ucap] 114)) w'') ∧
      ((Rw.typeIn t s).kind = 3 → Calls Tryz.prog 283 #[.agg ((Rw.typeIn t s).cells ka kca kc kcc).toArray, .string nm] ((w.alloc (.cells #[.map (some b), .slice fa fr.length fc] 150)).alloc (.cells #[.int .i64 k, .string key, .string nm, .int .i64 n, .slice ua u.len ucap] 114)) fun e w'' => e = .returned (.agg (Rw.fieldIn nm (Rw.typeIn t s).fields).cells.toArray) ∧ Below ((w.alloc (.cells #[.map (some b), .slice fa fr.length fc] 150)).alloc (.cells #[.int .i64 k, .string key, .string nm, .int .i64 n, .slice ua u.len ucap] 114)).heap.size ((w.alloc (.cells #[.map (some b), .slice fa fr.length fc] 150)).alloc (.cells #[.int .i64 k, .string key, .string nm, .int .i64 n, .slice ua u.len ucap] 114)) w'')) := Lib.hid (by
    refine ⟨fun h => Rw.fieldM2 _ 0 B _ ka kca kc kcc nm hok.2.2.1 hkt (Nat.le_trans hB (HA.out _ _).size) hfine, fun h => ?_⟩
    rw [Rw.part_fields hpt (by omega)]
    exact Rw.fieldM3 _ .nilIface _ ka kca kc kcc nm)
  have m2 := Rw.mField2
  have m3 := Rw.mField3
  obtain ⟨f, hf⟩ : ∃ f, Rw.fieldIn nm (Rw.typeIn t s).fields = f := ⟨_, rfl⟩
  rw [hf] at CF hfo hcap hthere ⊢
  obtain ⟨yv, hyv⟩ : ∃ yv, Value.agg ((Rw.typeIn t s).cells ka kca kc kcc).toArray = yv := ⟨_, rfl⟩
  rw [hyv] at hrun CF
  generalize (Rw.typeIn t s).kind = kk at *
  clear hyv hkt h2 hk3 hfr hpt hfine hf ht hc htk
  have HFO := Lib.hid hfo
  have CR : Hid (∀ w', Calls Tryz.prog 195 #[.agg f.cells.toArray, .int .i64 n] w' fun e w'' => e = .returned (.bool (!firstBad f n)) ∧ Below w'.heap.size w' w'') := Lib.hid fun w' => implFirstRight w' f n HFO.out hok.2.2.2 hcap
  have hft : OkS f.typ := HFO.out.2.1
  have HFT := Lib.hid hft
  have HTH := Lib.hid hthere
  have HW : Hid ((f.name = ⟨#[]⟩ → fieldW s key nm n u f = some (nm, 6)) ∧ (f.name ≠ ⟨#[]⟩ → firstBad f n = true → fieldW s key nm n u f = some (key, 8)) ∧ (f.name ≠ ⟨#[]⟩ → firstBad f n = false → ((Rw.typeIn f.typ s).kind == 1) = decide (0 < u.len) → fieldW s key nm n u f = some (key, 10)) ∧ (f.name ≠ ⟨#[]⟩ → firstBad f n = false → ¬ ((Rw.typeIn f.typ s).kind == 1) = decide (0 < u.len) → fieldW s key nm n u f = none)) :=
    Lib.hid ⟨fieldW_none, fieldW_range, fieldW_state, fieldW_yes⟩
  clear hthere hfo hft hcap
  obtain ⟨fb, hfb⟩ : ∃ p, firstBad f n = p := ⟨_, rfl⟩
  rw [hfb] at CR HW
  clear hfb
  generalize fieldW s key nm n u f = fw at *
  obtain ⟨fn, ft, fl, fm, fs, fcp⟩ := f
  simp only [Rw.FieldP.cells] at CF CR HW HFT HTH ⊢
  rcases hk2 with rfl | rfl
  case' inl =>
    rw [show Rw.kindT 2 = 91 from rfl] at hrun
    have C := Lib.hid (CF.out.1 rfl)
    clear CF
    go_enter Tryz.func176, Tryz.ntmps176
    go_wp2_with fail
    refine C.out.mono ?_
  case' inr =>
    rw [show Rw.kindT 3 = 235 from rfl] at hrun
    have C := Lib.hid (CF.out.2 rfl)
    clear CF
    go_enter Tryz.func176, Tryz.ntmps176
    go_wp2_with fail
    refine C.out.mono ?_
  all_goals
  rintro e w1 ⟨rfl, hb1⟩
  have HB1 := Lib.hid ((HA.out _ _).trans (hb1.mono (HA.out _ _).size))
  obtain ⟨hk1, hs1⟩ := Rw.kept2z hb1
  have ⟨k0, k1⟩ := blk2 hk1 (.cells #[.string fn, .string ft, .bool fl, .bool fm, .int .i64 fs, .int .i64 fcp] 50) (.cells #[.string fn, .string ft, .bool fl, .bool fm, .int .i64 fs, .int .i64 fcp] 50)
  have HK1 := Lib.hid hk1
  have HS1 := Lib.hid hs1
  have HC1 := Lib.hid (HC.out.next hB (HB1.out.alloc HB1.out.size (.cells #[.string fn, .string ft, .bool fl, .bool fm, .int .i64 fs, .int .i64 fcp] 50)))
  obtain ⟨lv2, hrun2, tn, tk, tb, sa, sl, sc, ma, ml, mc, has⟩ := HC1.out.leaf ft HFT.out
  obtain ⟨lf, hlf⟩ : ∃ p, ((Rw.typeIn ft s).kind == 1) = p := ⟨_, rfl⟩
  rw [hlf] at has HW
  clear hlf hb1 hk1 hs1 k0 k1
  have hk1 := (blk2 HK1.out (.cells #[.string fn, .string ft, .bool fl, .bool fm, .int .i64 fs, .int .i64 fcp] 50) (.cells #[.string tn, .int .i64 tk, .int .i64 tb, .slice sa sl sc, .slice ma ml mc] 234))
  have hs1 := (blk2 HS1.out (.cells #[.string fn, .string ft, .bool fl, .bool fm, .int .i64 fs, .int .i64 fcp] 50) (.cells #[.string tn, .int .i64 tk, .int .i64 tb, .slice sa sl sc, .slice ma ml mc] 234))
  have hz1 := Rw.lt_of_get HS1.out
  have ⟨⟨a0, a1⟩, _⟩ := Rw.keep2 hk1.1
  have ⟨⟨b0, b1⟩, _⟩ := Rw.keep2 hk1.2
  have ⟨⟨c0, c1, c2, c3, c4⟩, _⟩ := Rw.keep5 hs1.2
  have HBL : Hid (∀ o1 o2, Below w.heap.size w ((w1.alloc o1).alloc o2)) := Lib.hid fun o1 o2 => (HB1.out.alloc HB1.out.size o1).alloc (by have := HB1.out.size; simp; omega) o2
  have HS2 := Lib.hid hs1.2
  have HF2 : Hid (((w1.alloc (.cells #[.string fn, .string ft, .bool fl, .bool fm, .int .i64 fs, .int .i64 fcp] 50)).alloc (.cells #[.string tn, .int .i64 tk, .int .i64 tb, .slice sa sl sc, .slice ma ml mc] 234)).heap[w1.heap.size]? = some (.cells #[.string fn, .string ft, .bool fl, .bool fm, .int .i64 fs, .int .i64 fcp] 50 (0, 0))) := Lib.hid (by rw [Go.Deep.blk_alloc_lt _ _ _ (by simp)]; exact heap_alloc_new w1 _)
  clear hk1 hs1
  by_cases hfn : fn = ⟨#[]⟩
  · have hfw := HW.out.1 hfn
    subst hfn
    subst hfw
    go_wp2_with fail
    go_region
    all_goals
      go_wp2_with fail
      go_ret2
      exact ⟨FieldOut.none _ _, (HBL.out _ _).drew⟩
  · have hne := emptyNo hfn
    have hne2 := beq_eq_false_iff_ne.2 (show fn.toList ≠ [] from fun h => by rw [h] at hne; cases hne)
    have HFN := Lib.hid hfn
    clear hfn
    go_wp2_with fail
    refine (CR.out _).mono ?_
    rintro e w3 ⟨rfl, hb3⟩
    have HB3 := Lib.hid ((HBL.out _ _).trans (hb3.mono (HBL.out _ _).size))
    have hs3 := (hb3.block (w.heap.size + 1) (Rw.lt_of_get HS2.out)).trans HS2.out
    have hf3 := (hb3.block w1.heap.size (Rw.lt_of_get HF2.out)).trans HF2.out
    clear hb3 c0 c1 c2 c3 c4 a0 a1 b0 b1
    have ⟨⟨c0, c1, c2, c3, c4⟩, _⟩ := Rw.keep5 hs3
    have ⟨⟨x0, x1, x2, x3, x4, x5⟩, _⟩ := Rw.keep6 hf3
    clear hs3 hf3
    cases fb
    · by_cases hu : 0 < u.len
      · have hu2 : (0 : Int) < (u.len : Int) := by omega
        have hu3 : decide (0 < u.len) = true := by simp; omega
        cases lf
        · have hfw := HW.out.2.2.2 HFN.out rfl (by rw [hu3]; simp)
          subst hfw
          clear hu3 HW
          go_wp2_with fail
          go_ret2
          exact ⟨.inl ⟨rfl, rfl⟩, HB3.out⟩
        · have hfw := HW.out.2.2.1 HFN.out rfl (by rw [hu3])
          subst hfw
          clear hu3 HW
          go_wp2_with fail
          go_region
          all_goals
            go_wp2_with fail
            go_ret2
            exact ⟨FieldOut.state _ _, HB3.out.drew⟩
      · have hu2 : ¬ (0 : Int) < (u.len : Int) := by omega
        have hu3 : decide (0 < u.len) = false := by simp; omega
        cases lf
        · have hfw := HW.out.2.2.1 HFN.out rfl (by rw [hu3])
          subst hfw
          clear hu3 HW
          go_wp2_with fail
          go_region
          all_goals
            go_wp2_with fail
            go_ret2
            exact ⟨FieldOut.state _ _, HB3.out.drew⟩
        · have hfw := HW.out.2.2.2 HFN.out rfl (by rw [hu3]; simp)
          subst hfw
          clear hu3 HW
          go_wp2_with fail
          go_ret2
          exact ⟨.inl ⟨rfl, rfl⟩, HB3.out⟩
    · have hfw := HW.out.2.1 HFN.out rfl
      subst hfw
      clear HW
      go_wp2_with fail
      go_region
      all_goals
        go_wp2_with fail
        go_ret2
        exact ⟨FieldOut.range _ _, HB3.out.drew⟩
def blockW (s : List Rw.TypeP) (fr : List FragP) (l : Sels) (t : ByteArray) : WrP := if compB s t = true then selsW s fr l t else some (t, 6)
theorem blockW_yes {s : List Rw.TypeP} {fr : List FragP} {l : Sels} {t : ByteArray} (h : compB s t = true) : blockW s fr l t = selsW s fr l t := if_pos h
theorem blockW_no {s : List Rw.TypeP} {fr : List FragP} {l : Sels} {t : ByteArray} (h : compB s t = false) : blockW s fr l t = some (t, 6) := by unfold blockW; rw [if_neg (by rw [h]; simp)]
theorem neqV (T : TypeId) (v : Value) (W : World) : (binOp .neq 79 (.iface T v) .nilIface).run Tryz.prog W = .ok (.bool true) W := by rfl
theorem val_iface (e : ErrW.ErrP) : ∃ T v, e.val = .iface T v := by cases e <;> exact ⟨_, _, rfl⟩
theorem vout_cases {r : WrP} {v : Value} (h : VOut r v) : (r = none ∧ v = .nilIface) ∨ (∃ (e : ErrW.ErrP) (x : ByteArray × Int) (T : TypeId) (p : Value), v = .iface T p ∧ e.val = .iface T p ∧ r = some x ∧ LeafFor x e.last) := by
  rcases h with h | ⟨e, x, rfl, h1, h2⟩
  · exact .inl h
  · obtain ⟨T, p, hv⟩ := val_iface e
    exact .inr ⟨e, x, T, p, hv, hv, h1, h2⟩
theorem findN_isSome (nm : ByteArray) (l : List FragP) : (findN nm l 0 < 0 ∧ (fragIn nm l).isSome = false) ∨ (¬ findN nm l 0 < 0 ∧ (fragIn nm l).isSome = true) := by
  rcases (findN_lt (nm := nm) (l := l) (k := 0)).2 with h | h
  · exact .inl ⟨by omega, by rw [findN_none h]; rfl⟩
  · right
    refine ⟨by omega, ?_⟩
    have hl := (findN_lt (nm := nm) (l := l) (k := 0)).1
    obtain ⟨i, hi⟩ : ∃ i : Nat, findN nm l 0 = (i : Int) := ⟨(findN nm l 0).toNat, by omega⟩
    have hil : i < l.length := by omega
    rw [findN_some (k := 0) (i := i) (x := l[i]) (by rw [hi, Nat.zero_add]) (List.getElem?_eq_getElem hil)]; rfl
/-- What block tells of the Sels u, whatever the type. -/
def BlockOk (w : World) (s : List Rw.TypeP) (fr : List FragP) (b : Nat) (fa : Option Addr) (fc : Nat) (u : Sels) (ua : Option Addr) (ucap : Nat) : Prop := ∀ (w' : World) (i t : ByteArray), OkS t → Below w.heap.size w w' →
  Calls Tryz.prog 83 #[.agg #[.map (some b), .slice fa fr.length fc], .string i, .slice ua u.len ucap, .string t] w' fun e w'' => (∃ v, e = .returned v ∧ VOut (blockW s fr u t) v) ∧ Below w'.heap.size w' w''
set_option maxHeartbeats 4000000 in
theorem implVSel (w : World) (B : Nat) (s : List Rw.TypeP) (fr : List FragP) (b n' : Nat) (D : DataW Value) (fa : Option Addr) (fc : Nat) (k : Int) (key nm : ByteArray) (n : Int) (u : Sels) (ua : Option Addr) (ucap : Nat) (t : ByteArray)
    (hs : Rw.schemaB s = true) (ht : compB s t = true) (htk : OkS t) (hk : k = 1 ∨ k = 2 ∨ k = 3) (hok : OkI k ∧ OkS key ∧ OkS nm ∧ OkI n) (hul : u.len ≤ 9223372036854775807) (hc : Chk w B s fr b n' D fa) (hB : B ≤ w.heap.size) (hb : BlockOk w s fr b fa fc u ua ucap) :
    Calls Tryz.prog 135 #[.agg #[.map (some b), .slice fa fr.length fc], .agg #[.int .i64 k, .string key, .string nm, .int .i64 n, .slice ua u.len ucap], .string t] w fun e w' =>
      (∃ v, e = .returned v ∧ VOut (selW s fr k key nm n u t) v) ∧ Below w.heap.size w w' := by
  have HA : Hid (∀ o1 o2, Below w.heap.size w ((w.alloc o1).alloc o2)) := Lib.hid fun o1 o2 => ((Below.refl _ _).alloc (Nat.le_refl _) o1).alloc (by simp) o2
  have HBK := Lib.hid hb
  have HNM := Lib.hid hok.2.2.1
  rcases hk with rfl | rfl | rfl
  · have CF : Hid (∀ o1 o2, Calls Tryz.prog 176 #[.agg #[.map (some b), .slice fa fr.length fc], .agg #[.int .i64 1, .string key, .string nm, .int .i64 n, .slice ua u.len ucap], .string t] ((w.alloc o1).alloc o2) fun e w' =>
      FieldOut (fieldW s key nm n u (Rw.fieldIn nm (Rw.typeIn t s).fields)) (Rw.fieldIn nm (Rw.typeIn t s).fields).typ e ∧ Below ((w.alloc o1).alloc o2).heap.size ((w.alloc o1).alloc o2) w') := Lib.hid fun o1 o2 =>
        implVField _ B s fr b n' D fa fc 1 key nm n u ua ucap t hs ht htk hok hul (hc.next hB (HA.out o1 o2)) (Nat.le_trans hB (HA.out o1 o2).size)
    have HSW := Lib.hid (selW_one s fr key nm n u t)
    have hth := @field_there s hs t nm
    have hcm := fun (h0 : ((Rw.typeIn (Rw.fieldIn nm (Rw.typeIn t s).fields).typ s).kind == 0) = false) (h1 : ((Rw.typeIn (Rw.fieldIn nm (Rw.typeIn t s).fields).typ s).kind == 1) = false) => comp_of hs h0 h1
    have hfo := (field_fine0 hs t nm).2.1
    generalize Rw.fieldIn nm (Rw.typeIn t s).fields = f at *
    have HFT := Lib.hid hfo
    have HYES : Hid (fieldW s key nm n u f = none → 0 < u.len → compB s f.typ = true) := Lib.hid fun h hu => by
      unfold fieldW at h
      split at h
      · cases h
      · rename_i hne
        split at h
        · cases h
        · split at h
          · cases h
          · rename_i h3
            refine hcm (hth hne) ?_
            cases hq : ((Rw.typeIn f.typ s).kind == 1) with
            | false => rfl
            | true => rw [hq] at h3; exact absurd (by simp; omega) h3
    generalize fieldW s key nm n u f = fw at *
    clear hth hcm hfo hc hb hs ht htk hok
    go_enter Tryz.func135, Tryz.ntmps135
    go_wp2_with fail
    refine (CF.out _ _).mono ?_
    rintro e w1 ⟨ho, hb1⟩
    have HB1 := Lib.hid ((HA.out _ _).trans (hb1.mono (HA.out _ _).size))
    obtain ⟨hk1, hs1⟩ := Rw.kept2z hb1
    have ⟨⟨a0, a1⟩, _⟩ := Rw.keep2 hk1
    have ⟨⟨c0, c1, c2, c3, c4⟩, _⟩ := Rw.keep5 hs1
    clear hb1 hk1 hs1
    rcases ho with ⟨rfl, rfl⟩ | ⟨l, x, rfl, rfl, hl⟩
    · by_cases hu : 0 < u.len
      · have hu2 : (0 : Int) < (u.len : Int) := by omega
        have hu3 : ((u.len : Int) == 0) = false := by rw [beq_eq_false_iff_ne]; omega
        have CB := Lib.hid (HBK.out w1 nm f.typ HFT.out HB1.out)
        have HRES : Hid (blockW s fr u f.typ = selW s fr 1 key nm n u t) := Lib.hid (by rw [blockW_yes (HYES.out rfl hu), HSW.out]; rfl)
        generalize blockW s fr u f.typ = bw at *
        generalize f.typ = ft at *
        clear hu
        go_wp2_with fail
        refine CB.out.mono ?_
        rintro e w2 ⟨⟨v2, rfl, hv2⟩, hb2⟩
        have HV2 := Lib.hid hv2
        have HB2 := Lib.hid (HB1.out.trans (hb2.mono HB1.out.size))
        clear hb2 hv2
        go_wp2_with fail
        go_ret
        exact ⟨⟨_, rfl, by rw [← HRES.out]; exact HV2.out⟩, HB2.out⟩
      · obtain rfl : u = .nil := by cases u with | nil => rfl | cons _ _ _ _ _ _ => simp [Sels.len] at hu
        have HRES : Hid (selW s fr 1 key nm n .nil t = none) := Lib.hid (by rw [HSW.out]; rfl)
        simp only [Sels.len] at c4
        generalize f.typ = ft at *
        clear hu
        go_wp2_with fail
        go_ret
        exact ⟨⟨_, rfl, by rw [HRES.out]; exact VOut.nil⟩, HB1.out⟩
    · have HRES : Hid (VOut (selW s fr 1 key nm n u t) (.iface l.typ l.pay)) := Lib.hid (by rw [HSW.out]; exact .inr ⟨.leaf l, x, rfl, rfl, hl⟩)
      have y1 := neqV
      generalize l.typ = T at *
      generalize l.pay = p at *
      generalize f.typ = ft at *
      clear hl
      go_wp2_with fail
      go_ret
      exact ⟨⟨_, rfl, HRES.out⟩, HB1.out⟩
  · have CB : Hid (∀ o1 o2, Calls Tryz.prog 83 #[.agg #[.map (some b), .slice fa fr.length fc], .string nm, .slice ua u.len ucap, .string nm] ((w.alloc o1).alloc o2) fun e w'' => (∃ v, e = .returned v ∧ VOut (blockW s fr u nm) v) ∧ Below ((w.alloc o1).alloc o2).heap.size ((w.alloc o1).alloc o2) w'') := Lib.hid fun o1 o2 => HBK.out _ nm nm HNM.out (HA.out o1 o2)
    have HRES : Hid (blockW s fr u nm = selW s fr 2 key nm n u t) := Lib.hid (selW_on s fr key nm n u t).symm
    generalize blockW s fr u nm = bw at *
    clear hc hb hs ht htk hok
    go_enter Tryz.func135, Tryz.ntmps135
    go_wp2_with fail
    refine (CB.out _ _).mono ?_
    rintro e w2 ⟨⟨v2, rfl, hv2⟩, hb2⟩
    have HV2 := Lib.hid hv2
    have HB2 := Lib.hid ((HA.out _ _).trans (hb2.mono (HA.out _ _).size))
    clear hb2 hv2
    go_wp2_with fail
    go_ret
    exact ⟨⟨_, rfl, by rw [← HRES.out]; exact HV2.out⟩, HB2.out⟩
  · have CN : Hid (∀ o1 o2, Calls Tryz.prog 138 #[.slice fa fr.length fc, .string nm] ((w.alloc o1).alloc o2) fun e w' => (∃ v, e = .returned (.tuple #[v, .bool (fragIn nm fr).isSome]) ∧ FragV w' 0 B v (fragOr nm fr)) ∧ Below ((w.alloc o1).alloc o2).heap.size ((w.alloc o1).alloc o2) w') := Lib.hid fun o1 o2 =>
      implFragNamed _ 0 B fa fc fr nm HNM.out (hc.frg.below hB (HA.out o1 o2)) (Nat.le_trans hB (HA.out o1 o2).size)
    have hsp := selW_spread (s := s) (fr := fr) (k := 3) key nm n u t (by omega) (by omega)
    have hcs := findN_isSome nm fr
    have HRES : Hid (((fragIn nm fr).isSome = false ∧ selW s fr 3 key nm n u t = some (nm, 6)) ∨ ((fragIn nm fr).isSome = true ∧ selW s fr 3 key nm n u t = none)) := Lib.hid (by
      rcases hcs with ⟨h1, h2⟩ | ⟨h1, h2⟩
      · exact .inl ⟨h2, by rw [hsp, if_pos h1]⟩
      · exact .inr ⟨h2, by rw [hsp, if_neg h1]⟩)
    generalize (fragIn nm fr).isSome = p at *
    clear hc hb hs ht htk hok hsp hcs
    go_enter Tryz.func135, Tryz.ntmps135
    go_wp2_with fail
    refine (CN.out _ _).mono ?_
    rintro e w1 ⟨⟨v, rfl, xa, xcap, rfl, _, _⟩, hb1⟩
    have HB1 := Lib.hid ((HA.out _ _).trans (hb1.mono (HA.out _ _).size))
    generalize fragOr nm fr = x at *
    obtain ⟨hk1, hs1⟩ := Rw.kept2z hb1
    have hs2 := (blk2 hs1 (.cells #[.string x.name, .string x.on, .slice xa x.sels.len xcap] 86) (.cells #[.string x.name, .string x.on, .slice xa x.sels.len xcap] 86)).1
    have ⟨⟨c0, c1, c2, c3, c4⟩, _⟩ := Rw.keep5 hs2
    have HBA : Hid (∀ o, Below w.heap.size w (w1.alloc o)) := Lib.hid fun o => HB1.out.alloc HB1.out.size o
    clear hb1 hk1 hs1 hs2
    rcases HRES.out with ⟨rfl, hr⟩ | ⟨rfl, hr⟩
    · have HR := Lib.hid hr
      clear hr HRES
      go_wp2_with fail
      go_ret
      exact ⟨⟨_, rfl, by rw [HR.out]; exact VOut.none _⟩, HBA.out _⟩
    · have HR := Lib.hid hr
      clear hr HRES
      go_wp2_with fail
      go_ret
      exact ⟨⟨_, rfl, by rw [HR.out]; exact VOut.nil⟩, HBA.out _⟩
set_option maxHeartbeats 4000000 in
theorem implVBlock (s : List Rw.TypeP) (fr : List FragP) (hs : Rw.schemaB s = true) (b n' : Nat) (D : DataW Value) (fa : Option Addr) (fc : Nat) : ∀ (m : Nat) (l : Sels), l.all < m → GoodV l → ∀ (w : World) (B : Nat) (a : Option Addr) (cap : Nat) (i t : ByteArray), OkS t → SelsAt w 0 B a l.len l → Chk w B s fr b n' D fa → B ≤ w.heap.size →
    Calls Tryz.prog 83 #[.agg #[.map (some b), .slice fa fr.length fc], .string i, .slice a l.len cap, .string t] w fun e w' => (∃ v, e = .returned v ∧ VOut (blockW s fr l t) v) ∧ Below w.heap.size w w' := by
  intro m
  induction m with
  | zero => intro l h; omega
  | succ m ih =>
    intro l hall hg w B a cap ins t htk hl hc hB
    have HA : Hid (∀ o1, Below w.heap.size w (w.alloc o1)) := Lib.hid fun o1 => (Below.refl _ _).alloc (Nat.le_refl _) o1
    have CO : Hid (∀ o, Calls Tryz.prog 134 #[.agg #[.map (some b), .slice fa fr.length fc], .string t] (w.alloc o) fun e w' => e = .returned (.bool (compB s t)) ∧ Below (w.alloc o).heap.size (w.alloc o) w') := Lib.hid fun o => implObjects _ B s fr b n' D fa fc t htk (hc.next hB (HA.out o)) (Nat.le_trans hB (HA.out o).size)
    have hll := hl.2.1
    have HL := Lib.hid hl
    have HC := Lib.hid hc
    have HG := Lib.hid hg
    have HT := Lib.hid htk
    have IH := Lib.hid ih
    have HALL := Lib.hid hall
    have HBY := Lib.hid (fun h => blockW_yes (s := s) (fr := fr) (l := l) (t := t) h)
    have HBN := Lib.hid (fun h => blockW_no (s := s) (fr := fr) (l := l) (t := t) h)
    obtain ⟨cb, hcb⟩ : ∃ p, compB s t = p := ⟨_, rfl⟩
    have HCB := Lib.hid hcb
    rw [hcb] at CO HBY HBN
    generalize blockW s fr l t = bw at *
    clear hl hc hg htk ih hall hcb
    cases cb
    · have hf := Lib.hid (HBN.out rfl)
      go_enter Tryz.func83, Tryz.ntmps83
      go_wp2_with fail
      refine (CO.out _).mono ?_
      rintro e w1 ⟨rfl, hb1⟩
      have HB1 := Lib.hid ((HA.out _).trans (hb1.mono (HA.out _).size))
      clear hb1
      go_wp2_with fail
      go_ret
      exact ⟨⟨_, rfl, by rw [hf.out]; exact VOut.none _⟩, HB1.out⟩
    · have hf := Lib.hid (HBY.out rfl)
      go_enter Tryz.func83, Tryz.ntmps83
      go_wp2_with fail
      refine (CO.out _).mono ?_
      rintro e w1 ⟨rfl, hb1⟩
      have HB1 := Lib.hid ((HA.out _).trans (hb1.mono (HA.out _).size))
      have hk1 := (hb1.block w.heap.size (by simp)).trans (heap_alloc_new w (.cells #[.map (some b), .slice fa fr.length fc] 150))
      clear hb1
      go_wp2_with fail
      go_loopw [20] (fun i wr => ∃ (i' : Nat), i' ≤ l.len ∧ Hid (bw = selsW s fr (l.drop i') t) ∧ i = .int .i64 i' ∧ wr.heap[w.heap.size]? = some (.cells #[.map (some b), .slice fa fr.length fc] 150 (0, 0)) ∧ Below w.heap.size w wr) (fun i _ => l.len - (intOf i).toNat)
      case atStart => exact ⟨0, by omega, Lib.hid (by rw [hf.out]; rfl), rfl, hk1, HB1.out⟩
      case round =>
        obtain ⟨i, hi, hm, rfl, hkr, hb⟩ := hrel
        have HB := Lib.hid hb
        have HKR := Lib.hid hkr
        have hzr := Rw.lt_of_get hkr
        clear hk1 HB1
        by_cases hlt : i < l.len
        · have hli : (i : Int) < (l.len : Int) := by omega
          obtain ⟨k, key, nm, n, u, r, sb, off, ua, ucap, hd, rfl, hbb, hok, ⟨q0, q1, q2, q3, q4⟩, hu⟩ := (HL.out.below hB hb).at hlt
          have HU := Lib.hid hu
          have HD := Lib.hid hd
          have HOK := Lib.hid hok
          obtain ⟨⟨hk3, _, _⟩, hgu⟩ := HG.out.at hd
          have hua : u.all < m := by have h1 := Sels.drop_all i l; rw [hd] at h1; simp only [Sels.all] at h1; have := HALL.out; omega
          have HBA : Hid (∀ o, Below w.heap.size w (wr.alloc o)) := Lib.hid fun o => HB.out.alloc HB.out.size o
          have CS : Hid (∀ o, Calls Tryz.prog 135 #[.agg #[.map (some b), .slice fa fr.length fc], .agg #[.int .i64 k, .string key, .string nm, .int .i64 n, .slice ua u.len ucap], .string t] (wr.alloc o) fun e w' => (∃ v, e = .returned v ∧ VOut (selW s fr k key nm n u t) v) ∧ Below (wr.alloc o).heap.size (wr.alloc o) w') := Lib.hid fun o =>
            implVSel _ B s fr b n' D fa fc k key nm n u ua ucap t hs HCB.out HT.out hk3 hok hu.2.1 (HC.out.next hB (HBA.out o)) (Nat.le_trans hB (HBA.out o).size) fun w' i2 t2 ht2 hb2 =>
              IH.out u hua hgu w' B ua ucap i2 t2 ht2 (hu.below (C := wr.heap.size) (Nat.le_trans hB HB.out.size) (((Below.refl _ _).alloc (Nat.le_refl _) o).trans (hb2.mono (by simp)))) (HC.out.next hB ((HBA.out o).trans (hb2.mono (HBA.out o).size))) (Nat.le_trans hB (Nat.le_trans (HBA.out o).size hb2.size))
          have HST := Lib.hid (selsW_drop s fr t hd)
          have hka := (blk2 hkr (.cells #[.int .i64 k, .string key, .string nm, .int .i64 n, .slice ua u.len ucap] 114) (.cells #[.int .i64 k, .string key, .string nm, .int .i64 n, .slice ua u.len ucap] 114)).1
          have HKA := Lib.hid hka
          have ⟨⟨a0, a1⟩, _⟩ := Rw.keep2 hka
          clear hd hok hu hk3 hgu hua hlt hb hkr hka
          generalize selW s fr k key nm n u t = sw at *
          go_wp2_with fail
          refine (CS.out _).mono ?_
          rintro e w3 ⟨⟨v3, rfl, hv3⟩, hb3⟩
          have HB3 := Lib.hid ((HBA.out _).trans (hb3.mono (HBA.out _).size))
          have HK3 := Lib.hid ((hb3.block w.heap.size (by simp; omega)).trans HKA.out)
          clear hb3
          rcases vout_cases hv3 with ⟨rfl, rfl⟩ | ⟨e, x, T, p, rfl, he, rfl, hlf⟩
          · have hrel := Lib.hid (hm.out.trans HST.out)
            clear hv3
            go_wp2_with fail
            go_roundw
            case rel => exact ⟨i + 1, by omega, Lib.hid (by rw [hrel.out]; rfl), by go_num, HK3.out, HB3.out⟩
            case measure => simp [intOf]; omega
          · have hf2 := Lib.hid (hm.out.trans HST.out)
            have HV : Hid (VOut bw (.iface 160 (.agg #[.string ins, .iface T p]))) := Lib.hid (by rw [← he]; exact VOut.stand ins (by rw [hf2.out]; rfl) hlf)
            have y1 := neqV
            clear hv3 he hlf
            go_wp2_with fail
            go_ret
            exact ⟨⟨_, rfl, HV.out⟩, HB3.out⟩
        · obtain rfl : i = l.len := by omega
          have hf2 : Hid (bw = none) := Lib.hid (by rw [hm.out, Sels.drop_end (Nat.le_refl _)]; rfl)
          clear hlt hb hkr
          go_wp2_with fail
          go_ret
          exact ⟨⟨_, rfl, by rw [hf2.out]; exact VOut.nil⟩, HB.out⟩
end Go.Proofs.YtceabbbmgfeofaaGreatDoor.Selss
