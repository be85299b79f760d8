/-
  Contracts: the kinds' members; of what was there nothing is changed. Conditions: in memory, texts of at most 2^20 bytes.
-/
/-
  Contracts: impl.MembersOf, spec.l04Members, MembersOf; of what was there nothing is changed. Conditions: in memory, texts of at most 2^20 bytes.
-/
import Derived.Test.YtcogbmcnljlnaaaRows
import Derived.Test.YtcogbmcnljlnaaaKindJ
import Derived.Test.YtcogbmcnljlnaaaOwnRw
import Derived.Deep.RegionWith
namespace Go.Proofs.Ytcogbmcnljlnaaa.Rw
open Go.RowKit Words Go.Maps
set_option linter.unusedVariables false
set_option maxRecDepth 100000

/-- Texts in new memory, as a slice. -/
def TextsNew (w w' : World) (l : List ByteArray) (e : Ending) : Prop := ∃ a cap, e = .returned (.slice a l.length cap) ∧ l.length ≤ cap ∧ TextsX w' w.heap.size w'.heap.size a l.length l

theorem membersM1 (w : World) (x : TypeP) (a : Option Addr) (ca : Nat) (c : Option Addr) (cc : Nat) :
    Calls Try.prog 100 #[.agg (x.cells a ca c cc).toArray] w fun e w' => TextsNew w w' [] e ∧ Below w.heap.size w w' := by
  have HA : Hid (∀ o, Below w.heap.size w (w.alloc o)) := Lib.hid fun o => (Below.refl _ _).alloc (Nat.le_refl _) o
  simp only [TypeP.cells]
  go_enter Try.func100, Try.ntmps100
  go_wp2_with fail
  go_ret
  exact ⟨⟨none, 0, rfl, Nat.le_refl _, RowsX.nil (by simp)⟩, HA.out _⟩
theorem membersM2 (w : World) (x : TypeP) (a : Option Addr) (ca : Nat) (c : Option Addr) (cc : Nat) (hk : OkS x.name) (ht : x.name.size ≤ 1048576) :
    Calls Try.prog 107 #[.agg (x.cells a ca c cc).toArray] w fun e w' => TextsNew w w' [x.name] e ∧ Below w.heap.size w w' := by
  have HA : Hid (∀ o, Below w.heap.size w (w.alloc o)) := Lib.hid fun o => (Below.refl _ _).alloc (Nat.le_refl _) o
  have C1 : Hid (∀ w, Calls Try.prog 104 #[.string x.name] w fun e w' => e = .returned (.string x.name) ∧ Below w.heap.size w w') := Lib.hid fun w => Clones.clone _ w (by omega)
  have HK := Lib.hid hk
  obtain ⟨nm, kd, by_, fs, ms⟩ := x
  simp only [TypeP.cells] at C1 HK ⊢
  clear hk
  go_enter Try.func107, Try.ntmps107
  go_wp2_with fail
  refine (C1.out _).mono ?_
  rintro e w1 ⟨rfl, hb1⟩
  have HB1 := Lib.hid ((HA.out _).trans (hb1.mono (HA.out _).size))
  clear hb1
  go_wp2_with fail
  go_ret
  have hn := heap_alloc_new w1 (.cells #[.string nm] 9)
  have hl : w1.heap.size < (w1.alloc (.cells #[.string nm] 9)).heap.size := by simp
  exact ⟨⟨_, 1, rfl, Nat.le_refl _, rfl, by simp, Nat.le_trans HB1.out.size (Nat.le_of_lt hl), .inr ⟨w1.heap.size, 0, rfl, HB1.out.size, hl, LieRX.flat ⟨_, _, hn⟩ hl (Nat.le_trans HB1.out.size (Nat.le_of_lt hl)) fun j y hj => by
    have e : j = 0 := by have := (List.getElem?_eq_some_iff.1 hj).1; simp at this; exact this
    subst e; cases hj
    exact ⟨HK.out, by simp⟩⟩⟩, HB1.out.alloc HB1.out.size _⟩

set_option maxHeartbeats 1000000 in
theorem membersM3 (w : World) (A B : Nat) (x : TypeP) (a : Option Addr) (ca : Nat) (c : Option Addr) (cc : Nat) (hx : TypeAt w A B (.agg (x.cells a ca c cc).toArray) x) (hB : B ≤ w.heap.size) (hml : x.members.length ≤ 1048576) (ht : ∀ m ∈ x.members, m.size ≤ 1048576) :
    Calls Try.prog 118 #[.agg (x.cells a ca c cc).toArray] w fun e w' => TextsNew w w' x.members e ∧ Below w.heap.size w w' := by
  obtain ⟨a', ca', c', cc', hve, hk, ⟨h2, hca⟩, h3, hcc⟩ := hx
  obtain ⟨xn, kd, by_, fs, ms⟩ := x
  simp [TypeP.cells] at hve
  obtain ⟨⟨rfl, rfl⟩, rfl, rfl⟩ := hve
  simp only [TypeP.cells] at h2 h3 hca hcc ht hml ⊢
  have HM := Lib.hid h3
  have HT := Lib.hid ht
  have HOK : Hid (∀ m ∈ ms, OkS m) := Lib.hid (rows_all h3 fun _ _ _ h => h.1)
  have HA : Hid (∀ o, Below w.heap.size w (w.alloc o)) := Lib.hid fun o => (Below.refl _ _).alloc (Nat.le_refl _) o
  clear h2 h3 ht
  go_enter Try.func118, Try.ntmps118
  go_wp2_with fail
  go_loopw [3, 9] (fun v i wr => ∃ (i' : Nat) (av : Option Addr) (cap : Nat), i' ≤ ms.length ∧ i = .int .i64 i' ∧ v = .slice av i' cap ∧ Hid (OwnTs wr w.heap.size (.slice av i' cap) (ms.take i')) ∧ Below w.heap.size w wr) (fun _ i _ => ms.length - (intOf i).toNat)
  case atStart => exact ⟨0, none, 0, by omega, rfl, rfl, Lib.hid (by rw [List.take_zero]; exact OwnTs.nil _ _), HA.out _⟩
  case round =>
    obtain ⟨i, av, cap, hi, rfl, rfl, HO, hb⟩ := hrel
    have HB := Lib.hid hb
    by_cases hlt : i < ms.length
    · have hli : (i : Int) < (ms.length : Int) := by omega
      obtain ⟨m, b, off, hd, rfl, hAb, hbb, hok, hc⟩ := (HM.out.below textLies (Nat.le_refl _) (hb.mono hB)).at hlt
      rw [Nat.mul_one] at hc
      have hm := HT.out m (List.mem_iff_getElem?.2 ⟨i, hd⟩)
      have HD := Lib.hid hd
      have C1 : Hid (∀ w, Calls Try.prog 104 #[.string m] w fun e w' => e = .returned (.string m) ∧ Below w.heap.size w w') := Lib.hid fun w => Clones.clone _ w (by omega)
      have hlen : (ms.take i).length = i := by rw [List.length_take]; omega
      have HL := Lib.hid hlen
      clear hd hb hok hlt hlen
      go_wp2_with fail
      refine (C1.out _).mono ?_
      rintro e w1 ⟨rfl, hb1⟩
      have HB1 := Lib.hid (HB.out.trans (hb1.mono HB.out.size))
      have HO1 := Lib.hid (HO.out.below hb1)
      have HO2 : Hid (OwnTs (w1.alloc (.cells #[.string m] 9)) w.heap.size (.slice av i cap) (ms.take i)) := Lib.hid (HO1.out.below ((Below.refl _ _).alloc (Nat.le_refl _) _))
      have HB2 := Lib.hid (HB1.out.alloc HB1.out.size (.cells #[.string m] 9))
      clear hb1
      go_wp2_with (at_builtin; refine app_text rfl _ _ rfl w.heap.size (.slice av i cap) (ms.take i) rfl HO2.out w1.heap.size 1 rfl m (by simp) (by rw [HL.out]; omega) HB2.out.size ?_; rw [HL.out]; intro a3 cap3 w3 hown3 hb3)
      have HO3 : Hid (OwnTs w3 w.heap.size (.slice a3 (i + 1) cap3) (ms.take (i + 1))) := Lib.hid (by rw [List.take_add_one, HD.out]; exact hown3)
      have HB3 := Lib.hid (HB2.out.trans hb3)
      go_roundw
      case rel => exact ⟨i + 1, a3, cap3, by omega, by go_num, rfl, HO3, HB3.out⟩
      case measure => simp [intOf]; omega
    · obtain rfl : i = ms.length := by omega
      have hx := HO.out
      rw [List.take_length] at hx
      obtain ⟨a9, c9, he, h1, h2⟩ := hx.textsX HOK.out hml HB.out.size
      have HX := Lib.hid h2
      have HE := Lib.hid he
      have H1 := Lib.hid h1
      clear hlt hb hx he h1 h2
      go_wp2_with fail
      go_ret
      exact ⟨⟨a9, c9, by rw [HE.out]; rfl, H1.out, HX.out⟩, HB.out⟩
end Go.Proofs.Ytcogbmcnljlnaaa.Rw

namespace Go.Proofs.Ytcogbmcnljlnaaa.Rw
open Go.RowKit Words Go.Maps
set_option linter.unusedVariables false
set_option maxRecDepth 100000

/-- The objects that something of a type of a right schema may be; none else. -/
noncomputable def membersOfP (s : List TypeP) (t : ByteArray) : List ByteArray := if (schemaB s && !freshB t s) = true then (if (typeIn t s).kind = 2 then [t] else (typeIn t s).members) else []
theorem mMem1 (v : Value) (W : World) : (method 265 133 v "loop.example/g00836/impl.members").run Try.prog W = .ok (100, v) W := by kernel_rfl
theorem mMem2 (v : Value) (W : World) : (method 265 134 v "loop.example/g00836/impl.members").run Try.prog W = .ok (107, v) W := by kernel_rfl
theorem mMem3 (v : Value) (W : World) : (method 265 135 v "loop.example/g00836/impl.members").run Try.prog W = .ok (118, v) W := by kernel_rfl
theorem TextsNew.up {w w1 w' : World} {l : List ByteArray} {e : Ending} (h : TextsNew w1 w' l e) (hz : w.heap.size ≤ w1.heap.size) : TextsNew w w' l e := by
  obtain ⟨a, cap, h1, h2, h3⟩ := h
  exact ⟨a, cap, h1, h2, h3.wide hz (Nat.le_refl _)⟩

set_option maxHeartbeats 2000000 in
theorem implMembersOf (w : World) (A B : Nat) (v : Value) (s : List TypeP) (t : ByteArray) (htk : OkS t) (hv : SchemaAt w A B v s) (hB : B ≤ w.heap.size) (hw : schWt s ≤ 1048576) :
    Calls Try.prog 11 #[v, .string t] w fun e w' => TextsNew w w' (membersOfP s t) e ∧ Below w.heap.size w w' := by
  have C := Lib.hid (fun o1 => implKindNamed (w.alloc o1) A B v s t htk (hv.below (C := w.heap.size) hB ((Below.refl _ _).alloc (Nat.le_refl _) o1)) (Nat.le_trans hB (by simp)))
  have HA : Hid (∀ o1, Below w.heap.size w (w.alloc o1)) := Lib.hid fun o1 => (Below.refl _ _).alloc (Nat.le_refl _) o1
  have HSO := Lib.hid (schema_ok hv)
  obtain ⟨a, ca, rfl, _, _⟩ := hv
  clear htk
  go_enter Try.func11, Try.ntmps11
  go_wp2_with fail
  refine (C.out _).mono ?_
  rintro e w1 ⟨ho, hb1⟩
  have HB1 := Lib.hid ((HA.out _).trans (hb1.mono (HA.out _).size))
  clear hb1
  rcases ho with ⟨hk, lv, rfl, hkv⟩ | ⟨hk, rfl⟩
  · have hfd : membersOfP s t = if (typeIn t s).kind = 2 then [t] else (typeIn t s).members := by unfold membersOfP; rw [if_pos hk]
    have hsB : schemaB s = true := by simp only [Bool.and_eq_true] at hk; exact hk.1
    have hfr : freshB t s = false := by simp only [Bool.and_eq_true] at hk; simpa using hk.2
    obtain ⟨_, hpt, hnt⟩ := right_at hsB hfr
    obtain ⟨ht1, _, ht2, _, htm⟩ := tiny_at hw (typeIn_in hfr)
    obtain ⟨hyk, _, _⟩ := HSO.out _ (typeIn_in hfr)
    generalize typeIn t s = y at *
    obtain ⟨hk3, ka, kca, kc, kcc, rfl, hkt⟩ := hkv
    obtain ⟨fp, hfp⟩ : ∃ p, membersOfP s t = p := ⟨_, rfl⟩
    have CR : Hid ((y.kind = 1 → Calls Try.prog 100 #[.agg (y.cells ka kca kc kcc).toArray] w1 fun e w' => TextsNew w1 w' fp e ∧ Below w1.heap.size w1 w') ∧
        (y.kind = 2 → Calls Try.prog 107 #[.agg (y.cells ka kca kc kcc).toArray] w1 fun e w' => TextsNew w1 w' fp e ∧ Below w1.heap.size w1 w') ∧
        (y.kind = 3 → Calls Try.prog 118 #[.agg (y.cells ka kca kc kcc).toArray] w1 fun e w' => TextsNew w1 w' fp e ∧ Below w1.heap.size w1 w')) := Lib.hid (by
      refine ⟨fun h => ?_, fun h => ?_, fun h => ?_⟩
      · rw [← hfp, hfd, if_neg (by omega), part_members hpt (by omega)]; exact membersM1 w1 y ka kca kc kcc
      · rw [← hfp, hfd, if_pos h, ← hnt]; exact membersM2 w1 y ka kca kc kcc hyk.1 ht1
      · rw [← hfp, hfd, if_neg (by omega)]; exact membersM3 w1 A B y ka kca kc kcc hkt (Nat.le_trans hB HB1.out.size) ht2 htm)
    have HFP := Lib.hid hfp
    generalize hcells : Value.agg (y.cells ka kca kc kcc).toArray = yv at *
    clear hcells hfp hfd hk hkt hpt hfr hsB htm hyk ht1 ht2 hnt
    have m1 := mMem1
    have m2 := mMem2
    have m3 := mMem3
    rcases hk3 with hk3 | hk3 | hk3
    · have e : kindT y.kind = 133 := by rw [hk3]; rfl
      rw [e]
      have C := Lib.hid (CR.out.1 hk3)
      clear hk3 e
      go_wp2_with fail
      refine C.out.mono ?_
      rintro e w2 ⟨hr2, hb2⟩
      have HB2 := Lib.hid (HB1.out.trans (hb2.mono HB1.out.size))
      obtain ⟨a9, c9, rfl, hc9, hx9⟩ := hr2
      have HX9 := Lib.hid (hx9.wide (A' := w.heap.size) (B' := w2.heap.size) HB1.out.size (Nat.le_refl _))
      have HC9 := Lib.hid hc9
      clear hb2 hx9 hc9
      go_wp2_with fail
      go_ret
      exact ⟨⟨a9, c9, by rw [HFP.out]; rfl, by rw [HFP.out]; exact HC9.out, by rw [HFP.out]; exact HX9.out⟩, HB2.out⟩
    · have e : kindT y.kind = 134 := by rw [hk3]; rfl
      rw [e]
      have C := Lib.hid (CR.out.2.1 hk3)
      clear hk3 e
      go_wp2_with fail
      refine C.out.mono ?_
      rintro e w2 ⟨hr2, hb2⟩
      have HB2 := Lib.hid (HB1.out.trans (hb2.mono HB1.out.size))
      obtain ⟨a9, c9, rfl, hc9, hx9⟩ := hr2
      have HX9 := Lib.hid (hx9.wide (A' := w.heap.size) (B' := w2.heap.size) HB1.out.size (Nat.le_refl _))
      have HC9 := Lib.hid hc9
      clear hb2 hx9 hc9
      go_wp2_with fail
      go_ret
      exact ⟨⟨a9, c9, by rw [HFP.out]; rfl, by rw [HFP.out]; exact HC9.out, by rw [HFP.out]; exact HX9.out⟩, HB2.out⟩
    · have e : kindT y.kind = 135 := by rw [hk3]; rfl
      rw [e]
      have C := Lib.hid (CR.out.2.2 hk3)
      clear hk3 e
      go_wp2_with fail
      refine C.out.mono ?_
      rintro e w2 ⟨hr2, hb2⟩
      have HB2 := Lib.hid (HB1.out.trans (hb2.mono HB1.out.size))
      obtain ⟨a9, c9, rfl, hc9, hx9⟩ := hr2
      have HX9 := Lib.hid (hx9.wide (A' := w.heap.size) (B' := w2.heap.size) HB1.out.size (Nat.le_refl _))
      have HC9 := Lib.hid hc9
      clear hb2 hx9 hc9
      go_wp2_with fail
      go_ret
      exact ⟨⟨a9, c9, by rw [HFP.out]; rfl, by rw [HFP.out]; exact HC9.out, by rw [HFP.out]; exact HX9.out⟩, HB2.out⟩
  · have hfd : Hid (membersOfP s t = []) := Lib.hid (by unfold membersOfP; rw [if_neg (by rw [hk]; simp)])
    clear hk
    go_wp2_with fail
    go_ret
    exact ⟨by rw [hfd.out]; exact ⟨none, 0, rfl, Nat.le_refl _, RowsX.nil HB1.out.size⟩, HB1.out⟩

/-! ### the model's -/
theorem fresh_members {s : List TypeP} {t : ByteArray} (h : schemaB s = true) : membersOfP s t = if (typeIn t s).kind = 2 then [t] else (typeIn t s).members := by
  unfold membersOfP
  cases hf : freshB t s with
  | true => rw [typeIn_zero hf, h]; rfl
  | false => rw [h]; rfl
theorem membersOfP_big {s : List TypeP} {t : ByteArray} (ht : 8000 < t.size) : membersOfP s t = [] := by
  unfold membersOfP
  cases h : schemaB s with
  | false => rfl
  | true => rw [fresh_big h ht]; rfl
theorem membersOfP_no {s : List TypeP} (t : ByteArray) (h : schemaB s = false) : membersOfP s t = [] := by unfold membersOfP; rw [h]; rfl
end Go.Proofs.Ytcogbmcnljlnaaa.Rw
