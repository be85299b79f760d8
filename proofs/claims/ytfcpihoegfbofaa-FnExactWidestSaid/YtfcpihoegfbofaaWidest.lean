/-
  Contracts: spec.Widest, impl.Widest tell how wide a schema is; of what was there nothing is changed. Conditions: in memory.
-/
import Derived.Test.YtfcpihoegfbofaaRows
import Derived.Test.YtfcpihoegfbofaaOnes
namespace Go.Proofs.Ytfcpihoegfbofaa.Rw
open Go.RowKit Words Go.Maps
set_option linter.unusedVariables false
set_option maxRecDepth 100000

@[go_sem high] theorem run_max_three {P : Program} (w : World) (ts : Array TypeId) (t : TypeId) (k k' k'' : IntKind) (x y z : Int) :
    (Builtin.max_ ts t #[.int k x, .int k' y, .int k'' z]).run P w = .ok (.int k (max (max x y) z)) w := by
  have e : ∀ x y : Int, (if y > x then y else x) = max x y := fun x y => by
    rw [Int.max_def]
    split <;> split <;> omega
  simp [Builtin.max_, Builtin.max2, e]
theorem maxOf (a b : Int) (ha0 : -9223372036854775808 ≤ a) (ha1 : a ≤ 9223372036854775807) (hb0 : -9223372036854775808 ≤ b) (hb1 : b ≤ 9223372036854775807) (w : World) :
    Calls Try.prog 19 #[.int .i64 a, .int .i64 b] w fun e w' => e = .returned (.int .i64 (max a b)) ∧ w = w' := by
  by_cases h : b < a
  · have hf := Lib.hid (show a = max a b by omega)
    go_enter Try.func19, Try.ntmps19
    go_wp2_with fail
    go_ret
    exact ⟨ret_ib hf.out, rfl⟩
  · have h' : a ≤ b := by omega
    have hf := Lib.hid (show b = max a b by omega)
    clear h
    go_enter Try.func19, Try.ntmps19
    go_wp2_with fail
    go_ret
    exact ⟨ret_ib hf.out, rfl⟩

set_option maxHeartbeats 2000000 in
theorem specWidest (w : World) (A B : Nat) (v : Value) (s : List TypeP) (hv : SchemaAt w A B v s) (hB : B ≤ w.heap.size) :
    Calls Try.prog 10 #[v] w fun e w' => e = .returned (.int .i64 (widestB s)) ∧ Below w.heap.size w w' := by
  have CS := Lib.hid (fun o => specSchemaRight (w.alloc o) A B v s (hv.below (C := w.heap.size) hB ((Below.refl _ _).alloc (Nat.le_refl _) o)) (Nat.le_trans hB (by simp)))
  have hO := Lib.hid (show widestB s = if schemaB s = true then widT 0 s else -1 from rfl)
  obtain ⟨a, ca, rfl, hd, hcv⟩ := hv
  have hlen := hd.2.1
  have HS := Lib.hid hd
  have HA : Hid (∀ o1, Below w.heap.size w (w.alloc o1)) := Lib.hid fun o1 => (Below.refl _ _).alloc (Nat.le_refl _) o1
  clear hd
  generalize widestB s = out at *
  obtain ⟨p, hp⟩ : ∃ p, schemaB s = p := ⟨_, rfl⟩
  rw [hp] at CS hO
  clear hp
  go_enter Try.func10, Try.ntmps10
  go_wp2_with fail
  refine (CS.out _).mono ?_
  rintro e w1 ⟨rfl, hb1⟩
  have hk1 := (hb1.block w.heap.size (by simp)).trans (heap_alloc_new w (.cells #[.slice a s.length ca] 29))
  have HB1 := Lib.hid ((HA.out _).trans (hb1.mono (HA.out _).size))
  clear hb1
  cases p
  · have hf : Hid (out = -1) := Lib.hid (by rw [hO.out]; rfl)
    go_wp2_with fail
    go_ret
    exact ⟨ret_ib hf.out.symm, HB1.out⟩
  have hO' : Hid (out = widT 0 s) := Lib.hid (by rw [hO.out]; rfl)
  clear hO
  go_wp2_with fail
  go_loopw [3, 4] (fun n i wr => ∃ (i' : Nat) (m : Int), i' ≤ s.length ∧ (-9223372036854775808 ≤ m ∧ m ≤ 9223372036854775807) ∧ Hid (widT 0 s = widT m (s.drop i')) ∧ n = .int .i64 m ∧ i = .int .i64 i' ∧ wr.heap[w.heap.size]? = some (.cells #[.slice a s.length ca] 29 (0, 0)) ∧ Below w.heap.size w wr) (fun _ i _ => s.length - (intOf i).toNat)
  case atStart => exact ⟨0, 0, by omega, by omega, Lib.hid (by rw [List.drop_zero]), rfl, rfl, hk1, HB1.out⟩
  case round =>
    obtain ⟨i, m, hi, ⟨hm0, hm1⟩, hm, rfl, rfl, hk0, hb⟩ := hrel
    have HB := Lib.hid hb
    have ⟨j0, _⟩ := keep1 hk0
    by_cases hlt : i < s.length
    · have hli : (i : Int) < (s.length : Int) := by omega
      obtain ⟨x, b', off', hd, rfl, hA', hbb', hok, a1, ca1, cm, ccm, hc, ⟨h2, h2c⟩, h3⟩ := (HS.out.below typeLies (Nat.le_refl _) (hb.mono hB)).at hlt
      have hst := Lib.hid (widT_drop m hd)
      have hfl := h2.2.1
      have HR := Lib.hid (HS.out)
      clear hok hc h3 hb
      go_wp2_with fail
      go_loopw [3, 5] (fun n k wk => ∃ (k' : Nat) (q : Int), k' ≤ x.fields.length ∧ (-9223372036854775808 ≤ q ∧ q ≤ 9223372036854775807) ∧ Hid (widF m x.fields = widF q (x.fields.drop k')) ∧ n = .int .i64 q ∧ k = .int .i64 k' ∧ wk.heap[w.heap.size]? = some (.cells #[.slice (some ⟨b', off', none⟩) s.length ca] 29 (0, 0)) ∧ Below w.heap.size w wk) (fun _ k _ => x.fields.length - (intOf k).toNat)
      case atStart => exact ⟨0, m, by omega, by omega, Lib.hid (by rw [List.drop_zero]), rfl, rfl, hk0, HB.out⟩
      case round =>
        obtain ⟨k, q, hki, ⟨hq0, hq1⟩, hq, rfl, rfl, hk2, hbk⟩ := hrel
        have HBK := Lib.hid hbk
        have ⟨q0, _⟩ := keep1 hk2
        obtain ⟨x', b'', off'', hd', he', hA'', hbb'', hok, a1', ca1', cm', ccm', hc, ⟨g2, g2c⟩, g3⟩ := (HS.out.below typeLies (Nat.le_refl _) (hbk.mono hB)).at hlt
        cases he'
        obtain rfl : x' = x := by rw [hd] at hd'; cases hd'; rfl
        obtain ⟨d0, d1, d2, d3, d4⟩ := row5 hc
        by_cases hlk : k < x'.fields.length
        · have hlki : (k : Int) < (x'.fields.length : Int) := by omega
          obtain ⟨f, fb, fo, hf, rfl, hfA, hfb, hfok, hfc⟩ := g2.at hlk
          obtain ⟨f0, f1, f2, f3, f4, f5⟩ := row6 hfc
          have hstf := Lib.hid (widF_drop q hf)
          obtain ⟨_, _, ⟨z0, z1⟩, z2, z3⟩ := hfok
          have C1 := Lib.hid (fun w => maxOf f.size f.cap z0 z1 z2 z3 w)
          have hx0 : -9223372036854775808 ≤ max f.size f.cap := by omega
          have hx1 : max f.size f.cap ≤ 9223372036854775807 := by omega
          have hy0 : -9223372036854775808 ≤ max q (max f.size f.cap) := by omega
          have hy1 : max q (max f.size f.cap) ≤ 9223372036854775807 := by omega
          have C2 := Lib.hid (fun w => maxOf q (max f.size f.cap) hq0 hq1 hx0 hx1 w)
          obtain ⟨y, hy⟩ : ∃ y, max f.size f.cap = y := ⟨_, rfl⟩
          rw [hy] at C1 C2 hstf hy0 hy1
          obtain ⟨z, hz⟩ : ∃ z, max q y = z := ⟨_, rfl⟩
          rw [hz] at C2 hstf hy0 hy1
          have HBA : Hid (∀ o, Below w.heap.size w (wr.alloc o)) := Lib.hid fun o => HBK.out.alloc HBK.out.size o
          have hkA : ∀ o, (wr.alloc o).heap[w.heap.size]? = some (.cells #[.slice (some ⟨b', off', none⟩) s.length ca] 29 (0, 0)) := fun o => (Go.Deep.blk_alloc_lt wr o w.heap.size (lt_of_get hk2)).trans hk2
          have HKA := Lib.hid hkA
          have hrel := Lib.hid (hq.out.trans hstf.out)
          clear hy hz hd' hok hc g3 hf hfc hlk hbk hx0 hx1 hkA
          go_wp2_with (first
            | (go_at_call 19; with_reducible refine (C1.out _).mono ?_; rintro e w' ⟨rfl, rfl⟩)
            | (go_at_call 19; with_reducible refine (C2.out _).mono ?_; rintro e w' ⟨rfl, rfl⟩))
          go_roundw
          case rel => exact ⟨k + 1, z, by omega, ⟨hy0, hy1⟩, hrel, rfl, by go_num, HKA.out _, HBA.out _⟩
          case measure => simp [intOf]; omega
        · obtain rfl : k = x'.fields.length := by omega
          have hrel := Lib.hid (show widT 0 s = widT q (s.drop (i + 1)) by rw [hm.out, hst.out, hq.out, List.drop_length]; rfl)
          clear hd' hok hc g3 hlk hbk
          go_wp2_with fail
          go_roundw
          case rel => exact ⟨i + 1, q, by omega, ⟨hq0, hq1⟩, hrel, rfl, by go_num, hk2, HBK.out⟩
          case measure => simp [intOf]; omega
    · obtain rfl : i = s.length := by omega
      have hf : Hid (out = m) := Lib.hid (by rw [hO'.out, hm.out, List.drop_length]; rfl)
      clear hlt hb
      go_wp2_with fail
      go_ret
      exact ⟨ret_ib hf.out.symm, HB.out⟩

set_option maxHeartbeats 2000000 in
theorem implWidest (w : World) (A B : Nat) (v : Value) (s : List TypeP) (hv : SchemaAt w A B v s) (hB : B ≤ w.heap.size) :
    Calls Try.prog 11 #[v] w fun e w' => e = .returned (.int .i64 (widestB s)) ∧ Below w.heap.size w w' := by
  have CS := Lib.hid (fun o => implSchemaRight (w.alloc o) A B v s (hv.below (C := w.heap.size) hB ((Below.refl _ _).alloc (Nat.le_refl _) o)) (Nat.le_trans hB (by simp)))
  have hO := Lib.hid (show widestB s = if schemaB s = true then widT 0 s else -1 from rfl)
  obtain ⟨a, ca, rfl, hd, hcv⟩ := hv
  have hlen := hd.2.1
  have HS := Lib.hid hd
  have HA : Hid (∀ o1, Below w.heap.size w (w.alloc o1)) := Lib.hid fun o1 => (Below.refl _ _).alloc (Nat.le_refl _) o1
  clear hd
  generalize widestB s = out at *
  obtain ⟨p, hp⟩ : ∃ p, schemaB s = p := ⟨_, rfl⟩
  rw [hp] at CS hO
  clear hp
  go_enter Try.func11, Try.ntmps11
  go_wp2_with fail
  refine (CS.out _).mono ?_
  rintro e w1 ⟨rfl, hb1⟩
  have hk1 := (hb1.block w.heap.size (by simp)).trans (heap_alloc_new w (.cells #[.slice a s.length ca] 29))
  have HB1 := Lib.hid ((HA.out _).trans (hb1.mono (HA.out _).size))
  have ⟨j1, _⟩ := keep1 hk1
  clear hb1
  cases p
  · have hf : Hid (out = -1) := Lib.hid (by rw [hO.out]; rfl)
    go_wp2_with fail
    go_ret
    exact ⟨ret_ib hf.out.symm, HB1.out⟩
  have hO' : Hid (out = widT 0 s) := Lib.hid (by rw [hO.out]; rfl)
  clear hO
  go_wp2_with fail
  go_loopw [3, 14] (fun n i wr => ∃ (i' : Nat) (m : Int), i' ≤ s.length ∧ (-9223372036854775808 ≤ m ∧ m ≤ 9223372036854775807) ∧ Hid (widT 0 s = widT m (s.drop i')) ∧ n = .int .i64 m ∧ i = .int .i64 i' ∧ Below w.heap.size w wr) (fun _ i _ => s.length - (intOf i).toNat)
  case atStart => exact ⟨0, 0, by omega, by omega, Lib.hid (by rw [List.drop_zero]), rfl, rfl, HB1.out⟩
  case round =>
    obtain ⟨i, m, hi, ⟨hm0, hm1⟩, hm, rfl, rfl, hb⟩ := hrel
    have HB := Lib.hid hb
    by_cases hlt : i < s.length
    · have hli : (i : Int) < (s.length : Int) := by omega
      obtain ⟨x, b', off', hd, rfl, hA', hbb', hok, a1, ca1, cm, ccm, hc, ⟨h2, h2c⟩, h3⟩ := (HS.out.below typeLies (Nat.le_refl _) (hb.mono hB)).at hlt
      obtain ⟨d0, d1, d2, d3, d4⟩ := row5 hc
      have hst := Lib.hid (widT_drop m hd)
      have hfl := h2.2.1
      have HBA : Hid (∀ o, Below w.heap.size w (wr.alloc o)) := Lib.hid fun o => HB.out.alloc HB.out.size o
      have HF := Lib.hid h2
      have hBr : B ≤ wr.heap.size := Nat.le_trans hB HB.out.size
      clear hok hc h3 hb h2
      go_wp2_with fail
      obtain ⟨wo, hwo⟩ : ∃ wo, wo = wr := ⟨wr, rfl⟩
      subst hwo
      go_loopw [3, 21] (fun n k wk => ∃ (k' : Nat) (q : Int), k' ≤ x.fields.length ∧ (-9223372036854775808 ≤ q ∧ q ≤ 9223372036854775807) ∧ Hid (widF m x.fields = widF q (x.fields.drop k')) ∧ n = .int .i64 q ∧ k = .int .i64 k' ∧ Below wo.heap.size wo wk) (fun _ k _ => x.fields.length - (intOf k).toNat)
      case atStart => exact ⟨0, m, by omega, by omega, Lib.hid (by rw [List.drop_zero]), rfl, rfl, (Below.refl _ _).alloc (Nat.le_refl _) _⟩
      case round =>
        obtain ⟨k, q, hki, ⟨hq0, hq1⟩, hq, rfl, rfl, hbk⟩ := hrel
        have HBK := Lib.hid hbk
        by_cases hlk : k < x.fields.length
        · have hlki : (k : Int) < (x.fields.length : Int) := by omega
          obtain ⟨f, fb, fo, hf, rfl, hfA, hfb, hfok, hfc⟩ := (HF.out.below fieldLies hBr hbk).at hlk
          obtain ⟨f0, f1, f2, f3, f4, f5⟩ := row6 hfc
          have hstf := Lib.hid (widF_drop q hf)
          obtain ⟨_, _, ⟨z0, z1⟩, z2, z3⟩ := hfok
          have hy0 : -9223372036854775808 ≤ max q (max f.size f.cap) := by omega
          have hy1 : max q (max f.size f.cap) ≤ 9223372036854775807 := by omega
          have HBA2 : Hid (∀ o, Below wo.heap.size wo (wr.alloc o)) := Lib.hid fun o => HBK.out.alloc HBK.out.size o
          have hrel := Lib.hid (hq.out.trans hstf.out)
          obtain ⟨z, hz⟩ : ∃ z, max q (max f.size f.cap) = z := ⟨_, rfl⟩
          have HE := Lib.hid hz
          rw [hz] at hy0 hy1 hrel
          clear hz hstf
          clear hf hfc hlk hbk
          go_wp2_with fail
          go_roundw
          case rel => exact ⟨k + 1, z, by omega, ⟨hy0, hy1⟩, hrel, by rw [HE.out], by go_num, HBA2.out _⟩
          case measure => simp [intOf]; omega
        · obtain rfl : k = x.fields.length := by omega
          have hrel := Lib.hid (show widT 0 s = widT q (s.drop (i + 1)) by rw [hm.out, hst.out, hq.out, List.drop_length]; rfl)
          have HBF := Lib.hid (HB.out.trans (HBK.out.mono HB.out.size))
          clear hlk hbk
          go_wp2_with fail
          go_roundw
          case rel => exact ⟨i + 1, q, by omega, ⟨hq0, hq1⟩, hrel, rfl, by go_num, HBF.out⟩
          case measure => simp [intOf]; omega
    · obtain rfl : i = s.length := by omega
      have hf : Hid (out = m) := Lib.hid (by rw [hO'.out, hm.out, List.drop_length]; rfl)
      clear hlt hb
      go_wp2_with fail
      go_ret
      exact ⟨ret_ib hf.out.symm, HB.out⟩
end Go.Proofs.Ytfcpihoegfbofaa.Rw
