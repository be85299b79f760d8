/-
  Contracts: spec.l09Json writes a right node behind bytes of the call's own; spec.Json and spec.JsonLen answer its text and how long that is, of what is not right nothing; of what was there nothing is changed. Conditions: in memory.
-/
import Derived.Test.YtlncdkeooacebaaDoorRows
import Derived.Test.YtlncdkeooacebaaDoorJsP
import Derived.Test.YtlncdkeooacebaaDoorBytes
import Derived.Lib.AppendStr
namespace Go.Proofs.YtlncdkeooacebaaDoor.Rw
open Go.RowKit Words Texts Bytes
set_option linter.unusedVariables false
set_option maxRecDepth 100000

/-- What lies as nodes goes on lying so. -/
def KN (w w' : World) : Prop := ∀ (k : Nat) (c : Array Value) (fr : Nat × Nat), w.heap[k]? = some (.cells c 53 fr) → w'.heap[k]? = some (.cells c 53 fr)
theorem KN.refl (w : World) : KN w w := fun _ _ _ h => h
theorem KN.trans {a b c : World} (h : KN a b) (g : KN b c) : KN a c := fun k d fr e => g k d fr (h k d fr e)
theorem KN.below {a w w' : World} (h : KN a w) (g : Below w.heap.size w w') : KN a w' := fun k d fr e => by
  have := h k d fr e
  rw [g.block k (lt_of_get this)]; exact this
theorem KN.alloc {a w : World} (h : KN a w) (o : Obj) : KN a (w.alloc o) := h.below ((Below.refl _ _).alloc (Nat.le_refl _) o)
theorem KN.drew {a w : World} (h : KN a w) : KN a w.drew := h
theorem KN.grown {a w w' : World} {row : Option Nat} (h : KN a w) (hg : w.grownBy w' row) (hr : ∀ k, row = some k → ∃ c fr, w.heap[k]? = some (.cells c 5 fr)) : KN a w' := fun k d fr e => by
  have e1 := h k d fr e
  rw [hg.block k (lt_of_get e1) fun e2 => by
    obtain ⟨c, fr2, e3⟩ := hr k e2.symm
    rw [e1] at e3
    simp at e3]
  exact e1
theorem own_block {w : World} {base : Nat} {v : Value} {l : List UInt8} (h : OwnB w base v l) : ∀ k, v.ownBlock = some k → ∃ c fr, w.heap[k]? = some (.cells c 5 fr) := by
  intro k hk
  rcases h.2 with ⟨rfl, _⟩ | ⟨g, cap, cur, rfl, hb, hg, _⟩
  · simp [Value.ownBlock] at hk
  · simp [Value.ownBlock] at hk
    subst hk
    exact ⟨_, _, hg⟩
theorem app_strN {w : World} {ops : Array Oper} {rest : List Oper} {o : Oper} {a : Act} {Q : Exit → Act → World → Prop} (hgd : o.guard = none) (s x : Operand)
    (ho : o.op = .call { callee := .builtin .append, args := #[s, x], argTypes := #[22, 9] })
    (base : Nat) (v : Value) (l : List UInt8) (hs : a.eval s = v) (hown : OwnB w base v l) (y : ByteArray) (hx : a.eval x = .string y)
    (hsize : l.length + y.size ≤ 140737488351232) (hbase : base ≤ w.heap.size)
    (h : ∀ a' n' c' w', OwnB w' base (.slice a' n' c') (l ++ bl y) → Below base w w' → KN w w' → wpList Tryd.prog ops Q rest (a.put o.dst (.slice a' n' c')) w') : wpList Tryd.prog ops Q (o :: rest) a w := by
  obtain ⟨i0, hi, hz0, hz1, hz2⟩ := info_parts info5
  refine Lib.wpList_append_own_string w hgd s x 22 9 ho base 5 i0 Tryd.underlying22 Tryd.underlying9 hi hz0 hz1 hz2 v l.length (Lib.byteCells l) hs hown y hx (by unfold maxLen; omega) (by omega) hbase fun v' w' hown' hgrow _ => ?_
  obtain ⟨a', c', rfl⟩ : ∃ a' c', v' = .slice a' (l.length + y.size) c' := by
    obtain ⟨_, ⟨rfl, h0⟩ | ⟨g, cap, cur, rfl, _⟩⟩ := hown'
    · exact ⟨none, 0, by rw [h0]⟩
    · exact ⟨_, _, rfl⟩
  refine h a' _ c' w' ?_ ((Below.refl base w).grown hgrow hbase (fun k hk => (World.ownsRow.lt hown k hk).1)) ((KN.refl w).grown hgrow (own_block hown))
  unfold OwnB bl
  rw [List.length_append, Lib.byteCells_append, Array.length_toList]
  exact hown'
theorem app_byteN {w : World} {ops : Array Oper} {rest : List Oper} {o : Oper} {a : Act} {Q : Exit → Act → World → Prop} (hgd : o.guard = none) (s x : Operand)
    (ho : o.op = .call { callee := .builtin .append, args := #[s, x], argTypes := #[22, 22] })
    (base : Nat) (v : Value) (l : List UInt8) (hs : a.eval s = v) (hown : OwnB w base v l)
    (ad : Addr) (c : Nat) (hx : a.eval x = .slice (some ad) 1 c) (b : UInt8) (hc : w.cell? ad = some (.int .u8 (b.toNat : Int)))
    (hsize : l.length + 1 ≤ 140737488351232) (hbase : base ≤ w.heap.size)
    (h : ∀ a' n' c' w', OwnB w' base (.slice a' n' c') (l ++ [b]) → Below base w w' → KN w w' → wpList Tryd.prog ops Q rest (a.put o.dst (.slice a' n' c')) w') : wpList Tryd.prog ops Q (o :: rest) a w := by
  obtain ⟨i0, hi, hz0, hz1, hz2⟩ := info_parts info5
  refine wpList_append_own w hgd s x 22 ho base 5 i0 (.int .u8 0) 1 1 Tryd.underlying22 hi hz0 hz1 hz2 rfl (by decide) v l.length (Lib.byteCells l) hs hown ad 1 c [.int .u8 (b.toNat : Int)] hx rfl ?_ ?_ (by unfold maxLen; omega) (by omega) hbase ?_
  · intro j u hj
    match j, hj with
    | 0, hj => simp at hj; subst hj; simpa [Addr.add] using hc
  · intro u hu; simp at hu; subst hu; rfl
  · intro v' w' hown' hgrow _
    obtain ⟨a', c', rfl⟩ : ∃ a' c', v' = .slice a' (l.length + 1) c' := by
      obtain ⟨_, ⟨rfl, h0⟩ | ⟨g, cap, cur, rfl, _⟩⟩ := hown'
      · exact ⟨none, 0, by rw [h0]⟩
      · exact ⟨_, _, rfl⟩
    refine h a' _ c' w' ?_ ((Below.refl base w).grown hgrow hbase (fun k hk => (World.ownsRow.lt hown k hk).1)) ((KN.refl w).grown hgrow (own_block hown))
    have e : Lib.byteCells (l ++ [b]) = Lib.byteCells l ++ [.int .u8 (b.toNat : Int)] := by
      rw [Lib.byteCells_append]
      simp [Lib.byteCells]
    unfold OwnB
    rw [e]
    simpa using hown'

theorem one_at {W : World} {v u : Value} {T : TypeId} {k : Nat} (hk : k = W.heap.size) (hv : v = u) : (W.alloc (.cells #[v] T)).cell? ⟨k, 0, none⟩ = some u := by
  subst hk hv; exact one_new W v T
def JsOne (n : Nat) : Prop := ∀ (w : World) (A B : Nat) (v : Value) (x : NodeP) (d base : Nat) (bv : Value) (l : List UInt8), NodeV n w A B v x → B ≤ base → base ≤ w.heap.size → PartOk d x → OwnB w base bv l → l.length + (jsB n x).length ≤ 1000000000000 →
    Calls Tryd.prog 79 #[v, bv] w fun e w' => ∃ a' n' c', e = .returned (.slice a' n' c') ∧ OwnB w' base (.slice a' n' c') (l ++ jsB n x) ∧ Below base w w' ∧ KN w w'
theorem js_end {l a b c : List UInt8} (h : c = a ++ b) : l ++ a ++ b = l ++ c := by rw [h, List.append_assoc]
set_option maxHeartbeats 1000000 in
theorem jsOne_of (n : Nat) (HN : JsOne n) : JsOne (n + 1) := by
  intro w A B v x d base bv l hs hB hbase hpt hown hlen
  obtain ⟨a, ca, c, cc, rfl, hk, ⟨h2, hca⟩, h3, hcc⟩ := hs
  have hkd := part_kind hpt
  have HPT := Lib.hid hpt
  obtain ⟨xd, hxd⟩ : ∃ y, y = x := ⟨_, rfl⟩
  obtain ⟨kd, tx, ks, ns⟩ := x
  have HXD := Lib.hid hxd
  obtain ⟨⟨hk1, hk2⟩, hkt⟩ := hk
  unfold OkS at hkt
  simp only [NodeP.cells] at h2 h3 hk1 hk2 hkt hca hcc hkd ⊢
  have H2 := Lib.hid h2
  have H3 := Lib.hid h3
  have HNH := Lib.hid HN
  have HO := Lib.hid hown
  have HLEN := Lib.hid hlen
  have hll : l.length ≤ 1000000000000 := by omega
  clear h2 h3 HN hown hlen hpt hxd
  have HA : Hid (∀ o, Below base w (w.alloc o)) := Lib.hid fun o => (Below.refl _ _).alloc hbase o
  have HKN : Hid (∀ o, KN w (w.alloc o)) := Lib.hid fun o => (KN.refl _).alloc o
  have hz1 : ∀ o, base ≤ (w.alloc o).heap.size := fun o => Nat.le_trans hbase (by simp)
  rcases (show kd = 1 ∨ kd = 2 ∨ kd = 3 ∨ kd = 4 by omega) with rfl | rfl | rfl | rfl
  · have hf := Lib.hid (show l ++ bl ⟨#[110, 117, 108, 108]⟩ = l ++ jsB (n + 1) ⟨1, tx, ks, ns⟩ from rfl)
    go_enter Tryd.func79, Tryd.ntmps79
    go_wp2_with (at_builtin; refine app_strN rfl _ _ rfl base _ l rfl (HO.out.alloc _) _ rfl (by have := hll; simp [ByteArray.size]; omega) (hz1 _) ?_; intro a2 n2 c2 w2 ho2 hb2 hk2)
    go_ret
    exact ⟨_, _, _, rfl, hf.out ▸ ho2, (HA.out _).trans hb2, (HKN.out _).trans hk2⟩
  · have htx : tx.size ≤ 120 := by
      obtain ⟨e, _, g, _⟩ := part_pos HPT.out
      exact plainB_size ((base2 rfl).1 g.1).1
    have HSZ : Hid ((⟨#[34]⟩ ++ tx ++ ⟨#[34]⟩ : ByteArray).size ≤ 122) := Lib.hid (by rw [ByteArray.size_append, ByteArray.size_append]; show 1 + tx.size + 1 ≤ 122; omega)
    have hf := Lib.hid (show l ++ bl (⟨#[34]⟩ ++ tx ++ ⟨#[34]⟩) = l ++ jsB (n + 1) ⟨2, tx, ks, ns⟩ by
      rw [bl_app, bl_app]; simp [jsB, bl])
    go_enter Tryd.func79, Tryd.ntmps79
    go_wp2_with (at_builtin; refine app_strN rfl _ _ rfl base _ l rfl (HO.out.alloc _) _ rfl (by have := HSZ.out; omega) (hz1 _) ?_; intro a2 n2 c2 w2 ho2 hb2 hk2)
    go_ret
    exact ⟨_, _, _, rfl, hf.out ▸ ho2, (HA.out _).trans hb2, (HKN.out _).trans hk2⟩
  · have hjs : jsB (n + 1) ⟨3, tx, ks, ns⟩ = 91 :: (itB (jsB n) false ks ns ns.length ++ [93]) := rfl
    have HMX : Hid (∀ i, i ≤ ns.length → (l ++ 91 :: itB (jsB n) false ks ns i).length + 1 ≤ 1000000000000) := Lib.hid fun i hi => by
      have e1 := HLEN.out
      have e2 := it_mono (f := jsB n) (obj := false) (ks := ks) (ns := ns) hi
      rw [hjs] at e1
      simp only [List.length_append, List.length_cons, List.length_nil] at e1 ⊢; omega
    have HJS := Lib.hid hjs
    obtain ⟨e, he, hsh, hpk⟩ := part_pos HPT.out
    have HPK := Lib.hid hpk
    clear hjs he hsh hpk
    have hlen := H3.out.2.1
    have K0 : Hid (∀ o2, ((w.alloc (.cells #[.int .i64 3, .string tx, .slice a ks.length ca, .slice c ns.length cc] 53)).alloc o2).heap[w.heap.size]? = some (.cells #[.int .i64 3, .string tx, .slice a ks.length ca, .slice c ns.length cc] 53 (0, 0))) := Lib.hid fun o2 => (Go.Deep.blk_alloc_lt _ o2 _ (by simp)).trans (heap_alloc_new w _)
    have HAA : Hid (∀ o1 o2, Below base w ((w.alloc o1).alloc o2)) := Lib.hid fun o1 o2 => (HA.out o1).alloc (hz1 o1) o2
    have HKK : Hid (∀ o1 o2, KN w ((w.alloc o1).alloc o2)) := Lib.hid fun o1 o2 => (HKN.out o1).alloc o2
    have hz2 : ∀ o1 o2, base ≤ ((w.alloc o1).alloc o2).heap.size := fun o1 o2 => Nat.le_trans hbase (by simp; omega)
    go_enter Tryd.func79, Tryd.ntmps79
    go_wp2_with (at_builtin; refine app_byteN rfl _ _ rfl base _ l rfl ((HO.out.alloc _).alloc _) ⟨_, 0, none⟩ 1 rfl 91 (one_at (by simp) rfl) (by have := hll; omega) (hz2 _ _) ?_; intro a2 n2 c2 w2 ho2 hb2 hk2; have K2 := hk2 _ _ _ (K0.out _))
    have HB2 := Lib.hid ((HAA.out _ _).trans hb2)
    have HK2 := Lib.hid ((HKK.out _ _).trans hk2)
    have HO2 := Lib.hid ho2
    have hsz2 := Nat.le_trans hbase HB2.out.size
    clear ho2 hb2 hk2
    go_loopw [1, 6] (fun bv i wr => ∃ (i' : Nat) (a' : Option Addr) (n' c' : Nat), i' ≤ ns.length ∧ bv = .slice a' n' c' ∧ i = .int .i64 i' ∧ Hid (OwnB wr base (.slice a' n' c') (l ++ 91 :: itB (jsB n) false ks ns i')) ∧ wr.heap[w.heap.size]? = some (.cells #[.int .i64 3, .string tx, .slice a ks.length ca, .slice c ns.length cc] 53 (0, 0)) ∧ base ≤ wr.heap.size ∧ Below base w wr ∧ Hid (KN w wr)) (fun _ i _ => ns.length - (intOf i).toNat)
    case atStart => exact ⟨0, _, _, _, by omega, rfl, rfl, HO2, K2, hsz2, HB2.out, HK2⟩
    case round =>
      obtain ⟨i, a3, n3, c3, hi, rfl, rfl, HO3, K3, hsz3, hb3, HK3⟩ := hrel
      have HB3 := Lib.hid hb3
      have HKB := Lib.hid K3
      have ⟨⟨k0, k1, k2, k3⟩, _⟩ := keep4 K3
      have hMX := HMX.out i hi
      clear HB2 HK2 HO2 hsz2 hb3 K2 K3
      by_cases hlt : i < ns.length
      · have hli : (i : Int) < (ns.length : Int) := by omega
        have HAO : Hid (∀ o, Below base wr (wr.alloc o)) := Lib.hid fun o => (Below.refl _ _).alloc hsz3 o
        have HAK : Hid (∀ o, KN wr (wr.alloc o)) := Lib.hid fun o => (KN.refl _).alloc o
        have hzr : ∀ o, base ≤ (wr.alloc o).heap.size := fun o => Nat.le_trans hsz3 (by simp)
        have HKA : Hid (∀ o, (wr.alloc o).heap[w.heap.size]? = some (.cells #[.int .i64 3, .string tx, .slice a ks.length ca, .slice c ns.length cc] 53 (0, 0))) := Lib.hid fun o => (HAK.out o) _ _ _ HKB.out
        obtain ⟨x, b, off, hd, rfl, hA, hbb, hxl⟩ := (H3.out.below (nodeLies n) hB HB3.out).at hlt
        obtain ⟨a1, ca1, c1, cc1, hc, hv⟩ := hxl.val
        obtain ⟨d0, d1, d2, d3⟩ := nrow4 hc
        have hst := it_step (f := jsB n) (obj := false) (ks := ks) hd
        have hm1 := HMX.out (i + 1) (by omega)
        rw [hst] at hm1
        have HX : Hid (∀ W bv l', OwnB W base bv l' → Below base wr W → l'.length + (jsB n x).length ≤ 1000000000000 → Calls Tryd.prog 79 #[.agg #[.int .i64 x.kind, .string x.text, .slice a1 x.keys.length ca1, .slice c1 x.kids.length cc1], bv] W fun e w' => ∃ a' n' c', e = .returned (.slice a' n' c') ∧ OwnB w' base (.slice a' n' c') (l' ++ jsB n x) ∧ Below base W w' ∧ KN W w') := Lib.hid fun W bv l' g1 g2 g3 => HNH.out W A B _ x e base bv l' (hv.below hB g2) hB (Nat.le_trans hsz3 g2.size) (HPK.out x (List.mem_of_getElem? hd)) g1 g3
        have HST := Lib.hid hst
        have HM1 := Lib.hid hm1
        clear hd hc hxl hv hst hm1
        by_cases hi0 : i = 0
        · have hi1 : (i : Int) ≤ 0 := by omega
          have hse : sepB i = [] := by rw [hi0]; rfl
          clear hi0
          have HSE := Lib.hid hse
          rw [hse] at HST HM1
          have HM2 := HM1.out
          simp only [List.length_append, List.length_cons, List.length_nil] at HM2 hMX
          have HM3 := Lib.hid HM2
          clear hse HM2
          go_wp2_with fail
          refine (HX.out _ _ (l ++ 91 :: itB (jsB n) false ks ns i) HO3.out (Below.refl _ _) (by have := HM3.out; simp only [List.length_append, List.length_cons] at this ⊢; omega)).mono ?_
          rintro e w6 ⟨a6, n6, c6, rfl, ho6, hb6, hk6⟩
          have HB6 := Lib.hid (HB3.out.trans ((Below.refl _ _).trans hb6))
          have HK6 := Lib.hid (HK3.out.trans ((KN.refl _).trans hk6))
          have K6 := ((KN.refl _).trans hk6) _ _ _ HKB.out
          have HO6 : Hid (OwnB w6 base (.slice a6 n6 c6) (l ++ 91 :: itB (jsB n) false ks ns (i + 1))) := Lib.hid (by
            rw [HST.out]
            simpa [List.append_assoc, keyB] using ho6)
          have hz6 := Nat.le_trans hbase HB6.out.size
          clear ho6 hb6 hk6
          go_wp2_with fail
          go_roundw
          case rel => exact ⟨i + 1, _, _, _, by omega, rfl, by go_num, HO6, K6, hz6, HB6.out, HK6⟩
          case measure => simp [intOf]; omega
        · have hi1 : (0 : Int) < (i : Int) := by omega
          have hse : sepB i = [44] := by unfold sepB; rw [if_neg hi0]
          clear hi0
          have HSE := Lib.hid hse
          rw [hse] at HST HM1
          have HM2 := HM1.out
          simp only [List.length_append, List.length_cons, List.length_nil] at HM2 hMX
          have HM3 := Lib.hid HM2
          clear hse HM2
          go_wp2_with (first
            | (at_builtin; refine app_byteN rfl _ _ rfl base _ (l ++ 91 :: itB (jsB n) false ks ns i) rfl (HO3.out.alloc _) ⟨_, 0, none⟩ 1 rfl 44 (one_at (by simp) rfl) (by simp only [List.length_append, List.length_cons] at hMX ⊢; omega) (hzr _) ?_; intro a4 n4 c4 w4 ho4 hb4 hk4; have hb44 := (HAO.out _).trans hb4; have hk44 := (HAK.out _).trans hk4; have K4 := hk4 _ _ _ (HKA.out _); have ⟨⟨q0, q1, q2, q3⟩, _⟩ := keep4 K4; have hz4 := Nat.le_trans hsz3 hb44.size; have d04 := (hb44.cell (p := ⟨b, off + i * 4, none⟩) (by simp; omega)).trans d0; have d14 := (hb44.cell (p := ⟨b, off + i * 4 + 1, none⟩) (by simp; omega)).trans d1; have d24 := (hb44.cell (p := ⟨b, off + i * 4 + 2, none⟩) (by simp; omega)).trans d2; have d34 := (hb44.cell (p := ⟨b, off + i * 4 + 3, none⟩) (by simp; omega)).trans d3))
          refine (HX.out _ _ ((l ++ 91 :: itB (jsB n) false ks ns i) ++ [44]) ho4 hb44 (by have := HM3.out; simp only [List.length_append, List.length_cons, List.length_nil] at this ⊢; omega)).mono ?_
          rintro e w6 ⟨a6, n6, c6, rfl, ho6, hb6, hk6⟩
          have HB6 := Lib.hid (HB3.out.trans (hb44.trans hb6))
          have HK6 := Lib.hid (HK3.out.trans (hk44.trans hk6))
          have K6 := (hk44.trans hk6) _ _ _ HKB.out
          have HO6 : Hid (OwnB w6 base (.slice a6 n6 c6) (l ++ 91 :: itB (jsB n) false ks ns (i + 1))) := Lib.hid (by
            rw [HST.out]
            simpa [List.append_assoc, keyB] using ho6)
          have hz6 := Nat.le_trans hbase HB6.out.size
          clear ho6 hb6 hk6
          go_wp2_with fail
          go_roundw
          case rel => exact ⟨i + 1, _, _, _, by omega, rfl, by go_num, HO6, K6, hz6, HB6.out, HK6⟩
          case measure => simp [intOf]; omega
      · obtain rfl : i = ns.length := by omega
        have HAO : Hid (∀ o, Below base wr (wr.alloc o)) := Lib.hid fun o => (Below.refl _ _).alloc hsz3 o
        have HAK : Hid (∀ o, KN wr (wr.alloc o)) := Lib.hid fun o => (KN.refl _).alloc o
        have hzr : ∀ o, base ≤ (wr.alloc o).heap.size := fun o => Nat.le_trans hsz3 (by simp)
        have hf := Lib.hid (show (l ++ 91 :: itB (jsB n) false ks ns ns.length) ++ [93] = l ++ jsB (n + 1) ⟨3, tx, ks, ns⟩ by rw [HJS.out]; simp)
        clear hlt
        go_wp2_with (at_builtin; refine app_byteN rfl _ _ rfl base _ (l ++ 91 :: itB (jsB n) false ks ns ns.length) rfl (HO3.out.alloc _) ⟨_, 0, none⟩ 1 rfl 93 (one_at (by simp) rfl) (by omega) (hzr _) ?_; intro a4 n4 c4 w4 ho4 hb4 hk4)
        go_ret
        exact ⟨_, _, _, rfl, hf.out ▸ ho4, HB3.out.trans ((HAO.out _).trans hb4), HK3.out.trans ((HAK.out _).trans hk4)⟩
  · have hjs : jsB (n + 1) ⟨4, tx, ks, ns⟩ = 123 :: (itB (jsB n) true ks ns ns.length ++ [125]) := rfl
    have HMX : Hid (∀ i, i ≤ ns.length → (l ++ 123 :: itB (jsB n) true ks ns i).length + 1 ≤ 1000000000000) := Lib.hid fun i hi => by
      have e1 := HLEN.out
      have e2 := it_mono (f := jsB n) (obj := true) (ks := ks) (ns := ns) hi
      rw [hjs] at e1
      simp only [List.length_append, List.length_cons, List.length_nil] at e1 ⊢; omega
    have HJS := Lib.hid hjs
    obtain ⟨e, he, hsh, hpk⟩ := part_pos HPT.out
    have HPK := Lib.hid hpk
    have HKL : Hid (ks.length = ns.length) := Lib.hid ((base4 rfl).1 hsh.1).2
    have HKEY : Hid (∀ i (k : ByteArray), ks[i]? = some k → k.size ≤ 8) := Lib.hid fun i k hk => word_size (hsh.2 i k hk).1
    clear hjs he hsh hpk
    have hlen := H3.out.2.1
    have K0 : Hid (∀ o2, ((w.alloc (.cells #[.int .i64 4, .string tx, .slice a ks.length ca, .slice c ns.length cc] 53)).alloc o2).heap[w.heap.size]? = some (.cells #[.int .i64 4, .string tx, .slice a ks.length ca, .slice c ns.length cc] 53 (0, 0))) := Lib.hid fun o2 => (Go.Deep.blk_alloc_lt _ o2 _ (by simp)).trans (heap_alloc_new w _)
    have HAA : Hid (∀ o1 o2, Below base w ((w.alloc o1).alloc o2)) := Lib.hid fun o1 o2 => (HA.out o1).alloc (hz1 o1) o2
    have HKK : Hid (∀ o1 o2, KN w ((w.alloc o1).alloc o2)) := Lib.hid fun o1 o2 => (HKN.out o1).alloc o2
    have hz2 : ∀ o1 o2, base ≤ ((w.alloc o1).alloc o2).heap.size := fun o1 o2 => Nat.le_trans hbase (by simp; omega)
    go_enter Tryd.func79, Tryd.ntmps79
    go_wp2_with (at_builtin; refine app_byteN rfl _ _ rfl base _ l rfl ((HO.out.alloc _).alloc _) ⟨_, 0, none⟩ 1 rfl 123 (one_at (by simp) rfl) (by have := hll; omega) (hz2 _ _) ?_; intro a2 n2 c2 w2 ho2 hb2 hk2; have K2 := hk2 _ _ _ (K0.out _))
    have HB2 := Lib.hid ((HAA.out _ _).trans hb2)
    have HK2 := Lib.hid ((HKK.out _ _).trans hk2)
    have HO2 := Lib.hid ho2
    have hsz2 := Nat.le_trans hbase HB2.out.size
    clear ho2 hb2 hk2
    go_loopw [1, 6] (fun bv i wr => ∃ (i' : Nat) (a' : Option Addr) (n' c' : Nat), i' ≤ ns.length ∧ bv = .slice a' n' c' ∧ i = .int .i64 i' ∧ Hid (OwnB wr base (.slice a' n' c') (l ++ 123 :: itB (jsB n) true ks ns i')) ∧ wr.heap[w.heap.size]? = some (.cells #[.int .i64 4, .string tx, .slice a ks.length ca, .slice c ns.length cc] 53 (0, 0)) ∧ base ≤ wr.heap.size ∧ Below base w wr ∧ Hid (KN w wr)) (fun _ i _ => ns.length - (intOf i).toNat)
    case atStart => exact ⟨0, _, _, _, by omega, rfl, rfl, HO2, K2, hsz2, HB2.out, HK2⟩
    case round =>
      obtain ⟨i, a3, n3, c3, hi, rfl, rfl, HO3, K3, hsz3, hb3, HK3⟩ := hrel
      have HB3 := Lib.hid hb3
      have HKB := Lib.hid K3
      have ⟨⟨k0, k1, k2, k3⟩, _⟩ := keep4 K3
      have hMX := HMX.out i hi
      clear HB2 HK2 HO2 hsz2 hb3 K2 K3
      by_cases hlt : i < ns.length
      · have hli : (i : Int) < (ns.length : Int) := by omega
        have HAO : Hid (∀ o, Below base wr (wr.alloc o)) := Lib.hid fun o => (Below.refl _ _).alloc hsz3 o
        have HAK : Hid (∀ o, KN wr (wr.alloc o)) := Lib.hid fun o => (KN.refl _).alloc o
        have hzr : ∀ o, base ≤ (wr.alloc o).heap.size := fun o => Nat.le_trans hsz3 (by simp)
        have HKA : Hid (∀ o, (wr.alloc o).heap[w.heap.size]? = some (.cells #[.int .i64 4, .string tx, .slice a ks.length ca, .slice c ns.length cc] 53 (0, 0))) := Lib.hid fun o => (HAK.out o) _ _ _ HKB.out
        obtain ⟨x, b, off, hd, rfl, hA, hbb, hxl⟩ := (H3.out.below (nodeLies n) hB HB3.out).at hlt
        obtain ⟨a1, ca1, c1, cc1, hc, hv⟩ := hxl.val
        obtain ⟨d0, d1, d2, d3⟩ := nrow4 hc
        have hst := it_step (f := jsB n) (obj := true) (ks := ks) hd
        have hm1 := HMX.out (i + 1) (by omega)
        rw [hst] at hm1
        have HX : Hid (∀ W bv l', OwnB W base bv l' → Below base wr W → l'.length + (jsB n x).length ≤ 1000000000000 → Calls Tryd.prog 79 #[.agg #[.int .i64 x.kind, .string x.text, .slice a1 x.keys.length ca1, .slice c1 x.kids.length cc1], bv] W fun e w' => ∃ a' n' c', e = .returned (.slice a' n' c') ∧ OwnB w' base (.slice a' n' c') (l' ++ jsB n x) ∧ Below base W w' ∧ KN W w') := Lib.hid fun W bv l' g1 g2 g3 => HNH.out W A B _ x e base bv l' (hv.below hB g2) hB (Nat.le_trans hsz3 g2.size) (HPK.out x (List.mem_of_getElem? hd)) g1 g3
        obtain ⟨y, b4, off4, hd4, rfl, hA4, hbb4, hok4, hc4⟩ := (H2.out.below textLies hB HB3.out).at (show i < ks.length by have := HKL.out; omega)
        rw [Nat.mul_one] at hc4
        have hy := HKEY.out i y hd4
        have hky : ks.getD i ⟨#[]⟩ = y := by rw [List.getD_eq_getElem?_getD, hd4]; rfl
        rw [hky] at hst hm1
        have hkb : keyB true y = bl (⟨#[34]⟩ ++ y ++ ⟨#[34, 58]⟩) := by rw [bl_app, bl_app]; rfl
        have hks : (⟨#[34]⟩ ++ y ++ ⟨#[34, 58]⟩ : ByteArray).size ≤ 11 := by rw [ByteArray.size_append, ByteArray.size_append]; show 1 + y.size + 2 ≤ 11; omega
        rw [hkb] at hst hm1
        have hli4 : (i : Int) < (ks.length : Int) := by have := HKL.out; omega
        have hcai : (ks.length : Int) ≤ (ca : Int) := by omega
        clear hky hkb
        generalize hty : (⟨#[34]⟩ ++ y ++ ⟨#[34, 58]⟩ : ByteArray) = ty at hst hm1 hks
        have HTY := Lib.hid hty
        clear hty hd4 hok4
        have HST := Lib.hid hst
        have HM1 := Lib.hid hm1
        clear hd hc hxl hv hst hm1
        by_cases hi0 : i = 0
        · have hi1 : (i : Int) ≤ 0 := by omega
          have hse : sepB i = [] := by rw [hi0]; rfl
          clear hi0
          have HSE := Lib.hid hse
          rw [hse] at HST HM1
          have HM2 := HM1.out
          simp only [List.length_append, List.length_cons, List.length_nil, bl_len] at HM2 hMX
          have HM3 := Lib.hid HM2
          clear hse HM2
          go_wp2_with (first
            | (at_builtin; refine app_strN rfl _ _ rfl base _ (l ++ 123 :: itB (jsB n) true ks ns i) rfl HO3.out ty (congrArg Value.string HTY.out) (by have := HM3.out; simp only [List.length_append, List.length_cons] at this ⊢; omega) hsz3 ?_; intro a5 n5 c5 w5 ho5 hb5 hk5; have hb55 := ((Below.refl _ _).trans hb5); have hk55 := ((KN.refl _).trans hk5); have K5 := hk5 _ _ _ HKB.out; have ⟨⟨r0, r1, r2, r3⟩, _⟩ := keep4 K5; have hz5 := Nat.le_trans hsz3 hb55.size; have d05 := (hb55.cell (p := ⟨b, off + i * 4, none⟩) (by simp; omega)).trans d0; have d15 := (hb55.cell (p := ⟨b, off + i * 4 + 1, none⟩) (by simp; omega)).trans d1; have d25 := (hb55.cell (p := ⟨b, off + i * 4 + 2, none⟩) (by simp; omega)).trans d2; have d35 := (hb55.cell (p := ⟨b, off + i * 4 + 3, none⟩) (by simp; omega)).trans d3))
          refine (HX.out _ _ ((l ++ 123 :: itB (jsB n) true ks ns i) ++ bl ty) ho5 hb55 (by have := HM3.out; simp only [List.length_append, List.length_cons, bl_len] at this ⊢; omega)).mono ?_
          rintro e w6 ⟨a6, n6, c6, rfl, ho6, hb6, hk6⟩
          have HB6 := Lib.hid (HB3.out.trans (hb55.trans hb6))
          have HK6 := Lib.hid (HK3.out.trans (hk55.trans hk6))
          have K6 := (hk55.trans hk6) _ _ _ HKB.out
          have HO6 : Hid (OwnB w6 base (.slice a6 n6 c6) (l ++ 123 :: itB (jsB n) true ks ns (i + 1))) := Lib.hid (by
            rw [HST.out]
            simpa [List.append_assoc, keyB] using ho6)
          have hz6 := Nat.le_trans hbase HB6.out.size
          clear ho6 hb6 hk6
          go_wp2_with fail
          go_roundw
          case rel => exact ⟨i + 1, _, _, _, by omega, rfl, by go_num, HO6, K6, hz6, HB6.out, HK6⟩
          case measure => simp [intOf]; omega
        · have hi1 : (0 : Int) < (i : Int) := by omega
          have hse : sepB i = [44] := by unfold sepB; rw [if_neg hi0]
          clear hi0
          have HSE := Lib.hid hse
          rw [hse] at HST HM1
          have HM2 := HM1.out
          simp only [List.length_append, List.length_cons, List.length_nil, bl_len] at HM2 hMX
          have HM3 := Lib.hid HM2
          clear hse HM2
          go_wp2_with (first
            | (at_builtin; refine app_byteN rfl _ _ rfl base _ (l ++ 123 :: itB (jsB n) true ks ns i) rfl (HO3.out.alloc _) ⟨_, 0, none⟩ 1 rfl 44 (one_at (by simp) rfl) (by simp only [List.length_append, List.length_cons] at hMX ⊢; omega) (hzr _) ?_; intro a4 n4 c4 w4 ho4 hb4 hk4; have hb44 := (HAO.out _).trans hb4; have hk44 := (HAK.out _).trans hk4; have K4 := hk4 _ _ _ (HKA.out _); have ⟨⟨q0, q1, q2, q3⟩, _⟩ := keep4 K4; have hz4 := Nat.le_trans hsz3 hb44.size; have d04 := (hb44.cell (p := ⟨b, off + i * 4, none⟩) (by simp; omega)).trans d0; have d14 := (hb44.cell (p := ⟨b, off + i * 4 + 1, none⟩) (by simp; omega)).trans d1; have d24 := (hb44.cell (p := ⟨b, off + i * 4 + 2, none⟩) (by simp; omega)).trans d2; have d34 := (hb44.cell (p := ⟨b, off + i * 4 + 3, none⟩) (by simp; omega)).trans d3; have hc44 := (hb44.cell (p := ⟨b4, off4 + i, none⟩) (by simp; omega)).trans hc4)
            | (at_builtin; refine app_strN rfl _ _ rfl base _ ((l ++ 123 :: itB (jsB n) true ks ns i) ++ [44]) rfl ho4 ty (congrArg Value.string HTY.out) (by have := HM3.out; simp only [List.length_append, List.length_cons, List.length_nil] at this ⊢; omega) hz4 ?_; intro a5 n5 c5 w5 ho5 hb5 hk5; have hb55 := (hb44.trans hb5); have hk55 := (hk44.trans hk5); have K5 := hk5 _ _ _ K4; have ⟨⟨r0, r1, r2, r3⟩, _⟩ := keep4 K5; have hz5 := Nat.le_trans hsz3 hb55.size; have d05 := (hb55.cell (p := ⟨b, off + i * 4, none⟩) (by simp; omega)).trans d0; have d15 := (hb55.cell (p := ⟨b, off + i * 4 + 1, none⟩) (by simp; omega)).trans d1; have d25 := (hb55.cell (p := ⟨b, off + i * 4 + 2, none⟩) (by simp; omega)).trans d2; have d35 := (hb55.cell (p := ⟨b, off + i * 4 + 3, none⟩) (by simp; omega)).trans d3))
          refine (HX.out _ _ (((l ++ 123 :: itB (jsB n) true ks ns i) ++ [44]) ++ bl ty) ho5 hb55 (by have := HM3.out; simp only [List.length_append, List.length_cons, List.length_nil, bl_len] at this ⊢; omega)).mono ?_
          rintro e w6 ⟨a6, n6, c6, rfl, ho6, hb6, hk6⟩
          have HB6 := Lib.hid (HB3.out.trans (hb55.trans hb6))
          have HK6 := Lib.hid (HK3.out.trans (hk55.trans hk6))
          have K6 := (hk55.trans hk6) _ _ _ HKB.out
          have HO6 : Hid (OwnB w6 base (.slice a6 n6 c6) (l ++ 123 :: itB (jsB n) true ks ns (i + 1))) := Lib.hid (by
            rw [HST.out]
            simpa [List.append_assoc, keyB] using ho6)
          have hz6 := Nat.le_trans hbase HB6.out.size
          clear ho6 hb6 hk6
          go_wp2_with fail
          go_roundw
          case rel => exact ⟨i + 1, _, _, _, by omega, rfl, by go_num, HO6, K6, hz6, HB6.out, HK6⟩
          case measure => simp [intOf]; omega
      · obtain rfl : i = ns.length := by omega
        have HAO : Hid (∀ o, Below base wr (wr.alloc o)) := Lib.hid fun o => (Below.refl _ _).alloc hsz3 o
        have HAK : Hid (∀ o, KN wr (wr.alloc o)) := Lib.hid fun o => (KN.refl _).alloc o
        have hzr : ∀ o, base ≤ (wr.alloc o).heap.size := fun o => Nat.le_trans hsz3 (by simp)
        have hf := Lib.hid (show (l ++ 123 :: itB (jsB n) true ks ns ns.length) ++ [125] = l ++ jsB (n + 1) ⟨4, tx, ks, ns⟩ by rw [HJS.out]; simp)
        clear hlt
        go_wp2_with (at_builtin; refine app_byteN rfl _ _ rfl base _ (l ++ 123 :: itB (jsB n) true ks ns ns.length) rfl (HO3.out.alloc _) ⟨_, 0, none⟩ 1 rfl 125 (one_at (by simp) rfl) (by omega) (hzr _) ?_; intro a4 n4 c4 w4 ho4 hb4 hk4)
        go_ret
        exact ⟨_, _, _, rfl, hf.out ▸ ho4, HB3.out.trans ((HAO.out _).trans hb4), HK3.out.trans ((HAK.out _).trans hk4)⟩
theorem specJs : ∀ n, JsOne n
  | 0 => fun _ _ _ _ _ _ _ _ _ h => h.elim
  | n + 1 => jsOne_of n (specJs n)
set_option maxHeartbeats 1000000 in
theorem specJson {n : Nat} (w : World) (A B : Nat) (v : Value) (x : NodeP) (hs : NodeV n w A B v x) (hB : B ≤ w.heap.size) :
    Calls Tryd.prog 51 #[v] w fun e w' => e = .returned (.string (jsT n x)) ∧ Below w.heap.size w w' := by
  have hv : ∃ u0 u1 u2 u3, v = .agg #[u0, u1, u2, u3] := by
    cases n with
    | zero => exact hs.elim
    | succ n => obtain ⟨a, ca, c, cc, hv, _⟩ := hs; exact ⟨_, _, _, _, hv⟩
  obtain ⟨u0, u1, u2, u3, rfl⟩ := hv
  have HS := Lib.hid hs
  clear hs
  have HA : Hid (∀ o, Below w.heap.size w (w.alloc o)) := Lib.hid fun o => (Below.refl _ _).alloc (Nat.le_refl _) o
  by_cases hr : RightN n x
  · have hf := Lib.hid (jsT_yes hr)
    have C1 : Hid (∀ w', Below w.heap.size w w' → Calls Tryd.prog 78 #[.agg #[u0, u1, u2, u3]] w' fun e w2 => e = .returned (.bool true) ∧ Below w'.heap.size w' w2) := Lib.hid fun w' hb => by
      have := specNodeRight w' A B _ x (HS.out.below hB hb) (Nat.le_trans hB hb.size)
      rwa [decB_yes hr] at this
    have HR := Lib.hid hr
    clear hr
    go_enter Tryd.func51, Tryd.ntmps51
    go_wp2_with (go_at_call 78; refine (C1.out _ (HA.out _)).mono ?_; rintro e w1 ⟨rfl, hb1⟩; have HB1 := Lib.hid ((HA.out _).trans (hb1.mono (HA.out _).size)); have K1 := (hb1.block w.heap.size (by simp)).trans (Go.Deep.blk_alloc_new _ _); have ⟨⟨k0, k1, k2, k3⟩, _⟩ := keep4 K1)
    have hz := Nat.le_trans hB HB1.out.size
    have HB2 : Hid (∀ o, Below w.heap.size w (w1.alloc o)) := Lib.hid fun o => HB1.out.alloc HB1.out.size o
    refine (specJs n _ A B _ x 100 w1.heap.size _ [] (HS.out.below hB (HB2.out _)) hz (by simp) HR.out.2 (OwnB.made w1 w1.heap.size (Nat.le_refl _)) (by have := js_right HR.out; simp only [List.length_nil]; omega)).mono ?_
    rintro e w2 ⟨a2, n2, c2, rfl, ho2, hb2, -⟩
    have HB3 := Lib.hid ((HB2.out _).trans (hb2.mono HB1.out.size))
    have hst := ho2.string
    rw [List.nil_append, ← hf.out] at hst
    clear ho2 hb2 hb1
    go_wp2_with fail
    go_ret
    exact ⟨rfl, HB3.out⟩
  · have hf := Lib.hid (jsT_no hr)
    have C1 : Hid (∀ w', Below w.heap.size w w' → Calls Tryd.prog 78 #[.agg #[u0, u1, u2, u3]] w' fun e w2 => e = .returned (.bool false) ∧ Below w'.heap.size w' w2) := Lib.hid fun w' hb => by
      have := specNodeRight w' A B _ x (HS.out.below hB hb) (Nat.le_trans hB hb.size)
      rwa [decB_no hr] at this
    clear hr
    go_enter Tryd.func51, Tryd.ntmps51
    go_wp2_with (go_at_call 78; refine (C1.out _ (HA.out _)).mono ?_; rintro e w1 ⟨rfl, hb1⟩; have HB1 := Lib.hid ((HA.out _).trans (hb1.mono (HA.out _).size)))
    go_ret
    exact ⟨congrArg (fun s => Ending.returned (Value.string s)) hf.out.symm, HB1.out⟩
end Go.Proofs.YtlncdkeooacebaaDoor.Rw
