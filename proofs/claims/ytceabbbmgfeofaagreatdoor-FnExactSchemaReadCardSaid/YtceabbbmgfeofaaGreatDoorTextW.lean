/-
  Contract: impl.SchemaText answers the text of a right schema; of what was there nothing is changed. Conditions: in memory; the library's table of powers of ten reads as the program lays it.
-/
import Derived.Test.YtceabbbmgfeofaaGreatDoorRows
import Derived.Test.YtceabbbmgfeofaaGreatDoorWordsU
import Derived.Test.YtceabbbmgfeofaaGreatDoorKindF
namespace Go.Proofs.YtceabbbmgfeofaaGreatDoor.Rw
open Go.RowKit Words Decs Splits Go.Maps
set_option linter.unusedVariables false
set_option maxRecDepth 100000

theorem mWords1 (v : Value) (W : World) : (method 475 234 v "loop.example/g00836/impl.words").run Tryz.prog W = .ok (282, v) W := by kernel_rfl
theorem mWords2 (v : Value) (W : World) : (method 475 91 v "loop.example/g00836/impl.words").run Tryz.prog W = .ok (259, v) W := by kernel_rfl
theorem mWords3 (v : Value) (W : World) : (method 475 235 v "loop.example/g00836/impl.words").run Tryz.prog W = .ok (287, v) W := by kernel_rfl
theorem line_cB (x : TypeP) : lineT x = ubR (kw x.kind ++ blanks (restT x)) ++ ⟨#[10]⟩ := bL_inj (by rw [line_blanks, bL_append, bL_ub]; rfl)
theorem type_there {s : List TypeP} (h : schemaB s = true) {i : Nat} {x : TypeP} (hx : s[i]? = some x) : freshB x.name s = false ∧ typeIn x.name s = x := by
  have hf := ((schemaB_parts h).2.2 i x hx).2
  refine ⟨?_, typeIn_fresh hx hf⟩
  cases hfr : freshB x.name s with
  | false => rfl
  | true =>
    have e := typeIn_fresh hx hf
    rw [typeIn_zero hfr] at e
    have hk := partB_kind ((schemaB_parts h).2.2 i x hx).1.2
    rw [← e] at hk
    cases hk

set_option maxHeartbeats 8000000 in
theorem implSchemaText (w : World) (B : Nat) (v : Value) (s : List TypeP) (hv : SchemaAt w 0 B v s) (hB : B ≤ w.heap.size) (C : Nat) (hp : Decs.Pow C w) (hC : C ≤ w.heap.size) :
    Calls Tryz.prog 64 #[v] w fun e w' => e = .returned (.string (schT s)) ∧ Below w.heap.size w w' := by
  have CK := Lib.hid (fun o => implKindsOf (w.alloc o) 0 B v s (hv.below (C := w.heap.size) hB ((Below.refl _ _).alloc (Nat.le_refl _) o)) (Nat.le_trans hB (by simp)))
  have HA : Hid (∀ o, Below w.heap.size w (w.alloc o)) := Lib.hid fun o => (Below.refl _ _).alloc (Nat.le_refl _) o
  have HP := Lib.hid hp
  obtain ⟨a, ca, rfl, hd, _⟩ := hv
  have HS := Lib.hid hd
  have hlen := hd.2.1
  have hf0 := Lib.hid (show schT s = if schemaB s = true then linesT s else ByteArray.empty from rfl)
  have HSL : Hid (schemaB s = true → s.length ≤ 12 ∧ ∀ (i : Nat) (x : TypeP), s[i]? = some x → LineOk s x ∧ partB s x = true ∧ freshB x.name s = false ∧ typeIn x.name s = x) := Lib.hid fun h => ⟨(schemaB_parts h).1.2, fun i x hx => ⟨line_ok h hx, ((schemaB_parts h).2.2 i x hx).1.2, type_there h hx⟩⟩
  generalize schT s = ST at *
  clear hd hp
  go_enter Tryz.func64, Tryz.ntmps64
  go_wp2_with fail
  refine (CK.out _).mono ?_
  rintro e w1 ⟨ho, hb1⟩
  have HB1 := Lib.hid ((HA.out _).trans (hb1.mono (HA.out _).size))
  have hk1 := (hb1.block w.heap.size (by simp)).trans (heap_alloc_new w _)
  have ⟨k0, _⟩ := keep1 hk1
  clear hb1 hk1
  rcases ho with ⟨hk, b, n, D, rfl, hD, hO⟩ | ⟨hk, rfl⟩
  · rw [kindsB_eq] at hk
    have HFY : Hid (ST = linesT s) := Lib.hid (by rw [hf0.out, if_pos hk])
    have HOK := Lib.hid (HSL.out hk)
    have h12 := HOK.out.1
    have hbl := hO.lt
    have HD := Lib.hid hD
    have HO := Lib.hid hO
    clear hk hD hO
    go_wp2_with fail
    go_loopw [5, 18] (fun v i wr => ∃ (i' : Nat) (acc : ByteArray), i' ≤ s.length ∧ v = .string acc ∧ i = .int .i64 i' ∧ Hid (acc ++ linesT (s.drop i') = ST) ∧ acc.size ≤ 280 * i' ∧ Hid (Below w1.heap.size w1 wr) ∧ Below w.heap.size w wr) (fun _ i _ => s.length - (intOf i).toNat)
    case atStart => exact ⟨0, ⟨#[]⟩, by omega, rfl, rfl, Lib.hid (by rw [HFY.out, List.drop_zero]; show ByteArray.empty ++ linesT s = linesT s; simp), Nat.le_refl 0, Lib.hid (Below.refl _ _), HB1.out⟩
    case round =>
      obtain ⟨i, acc, hi, rfl, rfl, hT, hls, HW, hb⟩ := hrel
      have HB := Lib.hid hb
      clear k0
      by_cases hlt : i < s.length
      · have hli : (i : Int) < (s.length : Int) := by omega
        obtain ⟨x, tb, off, hd, rfl, hAb, hbb, hok, a1, ca1, cm, ccm, hc, h2, h3⟩ := (HS.out.below typeLies hB hb).at hlt
        obtain ⟨d0, d1, d2, d3, d4⟩ := row5 hc
        obtain ⟨hlo, hpt, hfr, hti⟩ := HOK.out.2 i x hd
        have hst := Lib.hid (linesT_drop hd)
        have hsz := line_size hlo
        have HLB := Lib.hid (line_cB x)
        have HBA : Hid (∀ o, Below w.heap.size w (wr.alloc o)) := Lib.hid fun o => HB.out.alloc HB.out.size o
        have HWA : Hid (∀ o, Below w1.heap.size w1 (wr.alloc o)) := Lib.hid fun o => HW.out.alloc HW.out.size o
        obtain ⟨lv, hrun, _, hk2⟩ := (HD.out.below (Nat.le_trans hB HB1.out.size) (HWA.out (.cells #[.string x.name, .int .i64 x.kind, .int .i64 x.bytes, .slice a1 x.fields.length ca1, .slice cm x.members.length ccm] 48))).look (World.ownsMap.same HO.out ((HWA.out (.cells #[.string x.name, .int .i64 x.kind, .int .i64 x.bytes, .slice a1 x.fields.length ca1, .slice cm x.members.length ccm] 48)).block b hbl)) x.name hok.1
        have hkv := hk2 hfr
        rw [hti] at hkv
        obtain ⟨hk3, ka, kca, kc, kcc, rfl, hkt⟩ := hkv
        have HKT := Lib.hid hkt
        have hjl := lwords_join hlo
        have hjn := lwords_len x
        have hfew := hlo.few
        have hfewM := hlo.fewM
        have hsz2 : (ubR (kw x.kind ++ blanks (restT x))).size ≤ 279 := by have := congrArg ByteArray.size HLB.out; rw [ByteArray.size_append] at this; have e1 : (⟨#[10]⟩ : ByteArray).size = 1 := rfl; omega
        have CJ : Hid (∀ (w' : World) (a' : Option Addr) (cap' : Nat), TextsAt w' 0 w'.heap.size a' (lwords x).length (lwords x) → (lwords x).length ≤ cap' → Calls Tryz.prog 114 #[.slice a' (lwords x).length cap', .string ⟨#[32]⟩] w' fun e w'' => e = .returned (.string (ubR (kw x.kind ++ blanks (restT x)))) ∧ Below w'.heap.size w' w'') := Lib.hid fun w' a' cap' h1 h2 => by
          have := joinC w' (.returned .nilIface) (lwords x) a' cap' h1 h2 (by unfold lwords; simp) (by omega) (by rw [hjl]; rw [ubR_size] at hsz2; omega)
          rw [hjl] at this; exact this
        have CR : Hid ((x.kind = 1 → ∀ w', w' = wr.alloc (.cells #[.string x.name, .int .i64 x.kind, .int .i64 x.bytes, .slice a1 x.fields.length ca1, .slice cm x.members.length ccm] 48) → Calls Tryz.prog 282 #[.agg (x.cells ka kca kc kcc).toArray] w' fun e w'' => WordsOut w'' (lwords x) e ∧ Below w'.heap.size w' w'') ∧
            (x.kind = 2 → ∀ w', w' = wr.alloc (.cells #[.string x.name, .int .i64 x.kind, .int .i64 x.bytes, .slice a1 x.fields.length ca1, .slice cm x.members.length ccm] 48) → Calls Tryz.prog 259 #[.agg (x.cells ka kca kc kcc).toArray] w' fun e w'' => WordsOut w'' (lwords x) e ∧ Below w'.heap.size w' w'') ∧
            (x.kind = 3 → ∀ w', w' = wr.alloc (.cells #[.string x.name, .int .i64 x.kind, .int .i64 x.bytes, .slice a1 x.fields.length ca1, .slice cm x.members.length ccm] 48) → Calls Tryz.prog 287 #[.agg (x.cells ka kca kc kcc).toArray] w' fun e w'' => WordsOut w'' (lwords x) e ∧ Below w'.heap.size w' w'')) := Lib.hid (by
          have hpw := HP.out.over hC (HBA.out (.cells #[.string x.name, .int .i64 x.kind, .int .i64 x.bytes, .slice a1 x.fields.length ca1, .slice cm x.members.length ccm] 48))
          have hbs := (HBA.out (.cells #[.string x.name, .int .i64 x.kind, .int .i64 x.bytes, .slice a1 x.fields.length ca1, .slice cm x.members.length ccm] 48)).size
          refine ⟨fun h w' e => ?_, fun h w' e => ?_, fun h w' e => ?_⟩
          · subst e; exact wordsM1 _ x ka kca kc kcc hok h (part_fields hpt (by omega)) (part_members hpt (by omega)) C hpw (Nat.le_trans hC hbs)
          · subst e; exact wordsM2 _ 0 B s x ka kca kc kcc hkt (Nat.le_trans hB hbs) h (part_members hpt (by omega)) hlo C hpw (Nat.le_trans hC hbs)
          · subst e; exact wordsM3 _ 0 B x ka kca kc kcc hkt (Nat.le_trans hB hbs) h (part_fields hpt (by omega)) (fun m hm => by have := hlo.eachM m hm; unfold OkS; omega) hfewM)
        obtain ⟨LW, hLW⟩ : ∃ l, lwords x = l := ⟨_, rfl⟩
        rw [hLW] at CJ CR
        generalize hcells : Value.agg (x.cells ka kca kc kcc).toArray = yv at *
        obtain ⟨jn, hjn2⟩ : ∃ l, ubR (kw x.kind ++ blanks (restT x)) = l := ⟨_, rfl⟩
        rw [hjn2] at CJ HLB hsz2
        have m1 := mWords1
        have m2 := mWords2
        have m3 := mWords3
        have hacc1 : ¬ (9223372036854775807 : Nat) < jn.size + 1 := by omega
        have hacc2 : ¬ (9223372036854775807 : Nat) < acc.size + (jn.size + 1) := by omega
        clear hLW hcells hjn2 hkt hk2 hd hb hok hc h2 h3 hlo hpt hfr hti hlt hjl hjn hfew hfewM HKT
        rcases hk3 with hk3 | hk3 | hk3
        case' inl =>
          rw [show kindT x.kind = 234 by rw [hk3]; rfl] at hrun
          have CW := Lib.hid (CR.out.1 hk3 _ rfl)
          clear hk3
          go_wp2_with fail
          refine CW.out.mono ?_
        case' inr.inl =>
          rw [show kindT x.kind = 91 by rw [hk3]; rfl] at hrun
          have CW := Lib.hid (CR.out.2.1 hk3 _ rfl)
          clear hk3
          go_wp2_with fail
          refine CW.out.mono ?_
        case' inr.inr =>
          rw [show kindT x.kind = 235 by rw [hk3]; rfl] at hrun
          have CW := Lib.hid (CR.out.2.2 hk3 _ rfl)
          clear hk3
          go_wp2_with fail
          refine CW.out.mono ?_
        all_goals
          rintro e w2 ⟨⟨wa, wcap, rfl, hwc, hwt⟩, hb2⟩
          have HB2 := Lib.hid ((HBA.out _).trans (hb2.mono (HBA.out _).size))
          have HW2 := Lib.hid ((HWA.out _).trans (hb2.mono (HWA.out _).size))
          have CJ2 := Lib.hid (CJ.out w2 wa wcap hwt hwc)
          clear hb2 hwc hwt CR CW hrun
          go_wp2_with fail
          refine CJ2.out.mono ?_
          rintro e w3 ⟨rfl, hb3⟩
          have HB3 := Lib.hid (HB2.out.trans (hb3.mono HB2.out.size))
          have HW3 := Lib.hid (HW2.out.trans (hb3.mono HW2.out.size))
          clear hb3
          have hT3 : Hid ((acc ++ (jn ++ ⟨#[10]⟩)) ++ linesT (s.drop (i + 1)) = ST) := Lib.hid (by rw [← hT.out, hst.out, HLB.out, ByteArray.append_assoc])
          go_wp2_with fail
          go_roundw
          case rel => exact ⟨i + 1, acc ++ (jn ++ ⟨#[10]⟩), by omega, rfl, by go_num, hT3, by rw [ByteArray.size_append, ByteArray.size_append]; have e1 : (⟨#[10]⟩ : ByteArray).size = 1 := rfl; omega, HW3, HB3.out⟩
          case measure => simp [intOf]; omega
      · obtain rfl : i = s.length := by omega
        have hfin : Hid (acc = ST) := Lib.hid (by
          have := hT.out
          rw [List.drop_length] at this
          simpa [linesT] using this)
        clear hlt hb
        go_wp2_with fail
        go_ret
        exact ⟨ret_s hfin.out, HB.out⟩
  · rw [kindsB_eq] at hk
    have HFI : Hid ((⟨#[]⟩ : ByteArray) = ST) := Lib.hid (by rw [hf0.out, hk]; rfl)
    clear hk
    go_wp2_with fail
    go_ret
    exact ⟨ret_s HFI.out, HB1.out⟩
end Go.Proofs.YtceabbbmgfeofaaGreatDoor.Rw
