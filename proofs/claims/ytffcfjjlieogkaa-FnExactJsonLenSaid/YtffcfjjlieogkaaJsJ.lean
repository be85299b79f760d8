/-
  Contracts: impl.writer.quoted, node, kids, whole write a right node, byte by byte as it is written plainly; of what was there nothing else is changed. Conditions: in memory, at most 10^12 bytes.
-/
import Derived.Test.YtffcfjjlieogkaaRows
import Derived.Test.YtffcfjjlieogkaaJsI
namespace Go.Proofs.Ytffcfjjlieogkaa.Rw
open Go.RowKit Words Texts Bytes
set_option linter.unusedVariables false
set_option linter.unusedSimpArgs false
set_option maxRecDepth 100000

def PutLaw (K : Wk) (B b : Nat) : Prop := ∀ (w : World) (out : List UInt8) (t : ByteArray), J K w b out → B ≤ w.heap.size → out.length + t.size ≤ 1000000000000 →
    Calls Try.prog 37 #[.pointer (some ⟨b, 0, none⟩), .string t] w fun e w' => e = .returned (.tuple #[]) ∧ J K w' b (out ++ bl t) ∧ Below B w w' ∧ KN w w'
def QuoLaw (K : Wk) (B b : Nat) : Prop := ∀ (w : World) (out : List UInt8) (t : ByteArray), J K w b out → B ≤ w.heap.size → out.length + (t.size + 2) ≤ 1000000000000 →
    Calls Try.prog 38 #[.pointer (some ⟨b, 0, none⟩), .string t] w fun e w' => e = .returned (.tuple #[]) ∧ J K w' b (out ++ 34 :: (bl t ++ [34])) ∧ Below B w w' ∧ KN w w'
theorem quoted {K : Wk} {B b : Nat} (HP : PutLaw K B b) : QuoLaw K B b := by
  intro w out t hj hBw hsz
  have HPH := Lib.hid HP
  have HJ := Lib.hid hj
  have hs1 : out.length + (⟨#[34]⟩ : ByteArray).size ≤ 1000000000000 := by show _ + 1 ≤ _; omega
  clear HP hj
  go_enter Try.func38, Try.ntmps38
  go_wp2_with fail
  refine (HPH.out w out ⟨#[34]⟩ HJ.out hBw hs1).mono ?_
  rintro e w1 ⟨rfl, hj1, hb1, hk1⟩
  have HJ1 := Lib.hid hj1
  have HB1 := Lib.hid hb1
  have HK1 := Lib.hid hk1
  clear hj1 hb1 hk1
  go_wp2_with fail
  refine (HPH.out w1 _ t HJ1.out (Nat.le_trans hBw HB1.out.size) (by rw [List.length_append, bl_len]; show _ + 1 + _ ≤ _; omega)).mono ?_
  rintro e w2 ⟨rfl, hj2, hb2, hk2⟩
  have HJ2 := Lib.hid hj2
  have HB2 := Lib.hid (HB1.out.trans hb2)
  have HK2 := Lib.hid (HK1.out.trans hk2)
  clear hj2 hb2 hk2
  go_wp2_with fail
  refine (HPH.out w2 _ ⟨#[34]⟩ HJ2.out (Nat.le_trans hBw HB2.out.size) (by rw [List.length_append, List.length_append, bl_len, bl_len]; show _ + 1 + _ + 1 ≤ _; omega)).mono ?_
  rintro e w3 ⟨rfl, hj3, hb3, hk3⟩
  have HJ3 : Hid (J K w3 b (out ++ 34 :: (bl t ++ [34]))) := Lib.hid (by
    have e : out ++ 34 :: (bl t ++ [34]) = out ++ bl ⟨#[34]⟩ ++ bl t ++ bl ⟨#[34]⟩ := by simp [bl]
    rw [e]; exact hj3)
  have HB3 := Lib.hid (HB2.out.trans hb3)
  have HK3 := Lib.hid (HK2.out.trans hk3)
  clear hj3 hb3 hk3
  go_wp2_with fail
  go_end0
  exact ⟨rfl, HJ3.out, HB3.out, HK3.out⟩

def NodLaw (K : Wk) (B b n : Nat) : Prop := ∀ (w : World) (A B0 : Nat) (v : Value) (x : NodeP) (d : Nat) (out : List UInt8), NodeV n w A B0 v x → B0 ≤ B → B ≤ w.heap.size → PartOk d x → J K w b out → out.length + (jsB n x).length ≤ 1000000000000 →
    Calls Try.prog 30 #[.pointer (some ⟨b, 0, none⟩), v] w fun e w' => e = .returned (.tuple #[]) ∧ J K w' b (out ++ jsB n x) ∧ Below B w w' ∧ KN w w'
def KidLaw (K : Wk) (B b n : Nat) : Prop := ∀ (w : World) (A B0 : Nat) (v : Value) (x : NodeP) (d : Nat) (out : List UInt8), NodeV (n + 1) w A B0 v x → B0 ≤ B → B ≤ w.heap.size → PartOk d x → (x.kind = 3 ∨ x.kind = 4) → J K w b out → out.length + (itB (jsB n) (decide (x.kind = 4)) x.keys x.kids x.kids.length).length ≤ 1000000000000 →
    Calls Try.prog 39 #[.pointer (some ⟨b, 0, none⟩), v] w fun e w' => e = .returned (.tuple #[]) ∧ J K w' b (out ++ itB (jsB n) (decide (x.kind = 4)) x.keys x.kids x.kids.length) ∧ Below B w w' ∧ KN w w'
theorem J_alloc {K : Wk} {B b : Nat} (hK : WkOk K B b) {w : World} {out : List UInt8} (h : J K w b out) (o : Obj) : J K (w.alloc o) b out := by
  obtain ⟨p, q, fl, ⟨buf, hh, h1, h2, h3, h4, h5⟩, h6, h7⟩ := h
  have hlt := lt_of_get hh
  refine ⟨p, q, fl, ⟨buf, (Below.heap_alloc _ _ _ hlt).trans hh, h1, h2, h3, h4, hK.grow w _ _ h5 ((Below.refl _ _).alloc (Nat.le_refl _) o)⟩, h6, h7⟩
set_option maxHeartbeats 1000000 in
theorem kids_of {K : Wk} {B b n : Nat} (HK : WkOk K B b) (HP : PutLaw K B b) (HQ : QuoLaw K B b) (HN : NodLaw K B b n) : KidLaw K B b n := by
  intro w A B0 v x d out hs hB hBw hpt hkd hj hlen
  obtain ⟨a, ca, c, cc, rfl, hk, ⟨h2, hca⟩, h3, hcc⟩ := hs
  have HPT := Lib.hid hpt
  obtain ⟨kd, tx, ks, ns⟩ := x
  simp only [NodeP.cells] at h2 h3 hkd hca hcc hlen ⊢
  have H2 := Lib.hid h2
  have H3 := Lib.hid h3
  have HNH := Lib.hid HN
  have HPH := Lib.hid HP
  have HQH := Lib.hid HQ
  have HKO := Lib.hid HK
  have HJA : Hid (∀ o, J K (w.alloc o) b out) := Lib.hid fun o => J_alloc HK hj o
  have HA : Hid (∀ o, Below B w (w.alloc o)) := Lib.hid fun o => (Below.refl _ _).alloc hBw o
  have HKN : Hid (∀ o, KN w (w.alloc o)) := Lib.hid fun o => (KN.refl _).alloc o
  have hz1 : ∀ o, B ≤ (w.alloc o).heap.size := fun o => Nat.le_trans hBw (by simp)
  clear h2 h3 HN HP HQ HK hj hpt
  rcases hkd with rfl | rfl
  · rw [show decide ((3 : Int) = 4) = false from rfl] at hlen ⊢
    have HMX : Hid (∀ i, i ≤ ns.length → out.length + (itB (jsB n) false ks ns i).length ≤ 1000000000000) := Lib.hid fun i hi => by
      have e2 := it_mono (f := jsB n) (obj := false) (ks := ks) (ns := ns) hi
      omega
    obtain ⟨e, he, hsh, hpk⟩ := part_pos HPT.out
    have HPK := Lib.hid hpk
    clear he hsh hpk hlen
    have hnl := H3.out.2.1
    have K0 := heap_alloc_new w (.cells #[.int .i64 3, .string tx, .slice a ks.length ca, .slice c ns.length cc] 30)
    have HJ0 : Hid (J K (w.alloc (.cells #[.int .i64 3, .string tx, .slice a ks.length ca, .slice c ns.length cc] 30)) b out) := Lib.hid (HJA.out _)
    go_enter Try.func39, Try.ntmps39
    go_wp2_with fail
    go_loopw [9] (fun i wr => ∃ (i' : Nat), i' ≤ ns.length ∧ i = .int .i64 i' ∧ Hid (J K wr b (out ++ itB (jsB n) false ks ns i')) ∧ Hid (wr.heap[w.heap.size]? = some (.cells #[.int .i64 3, .string tx, .slice a ks.length ca, .slice c ns.length cc] 30 (0, 0))) ∧ B ≤ wr.heap.size ∧ Below B w wr ∧ Hid (KN w wr)) (fun i _ => ns.length - (intOf i).toNat)
    case atStart => exact ⟨0, by omega, rfl, Lib.hid (by rw [show itB (jsB n) false ks ns 0 = [] from rfl, List.append_nil]; exact HJ0.out), Lib.hid K0, hz1 _, HA.out _, Lib.hid (HKN.out _)⟩
    case round =>
      obtain ⟨i, hi, rfl, HJ3, HKB, hsz3, hb3, HK3⟩ := hrel
      have HB3 := Lib.hid hb3
      have ⟨⟨k0, k1, k2, k3⟩, _⟩ := keep4 HKB.out
      clear hb3 K0
      by_cases hlt : i < ns.length
      · have hli : (i : Int) < (ns.length : Int) := by omega
        obtain ⟨x, b5, off, hd, hce, hA, hbb, hxl⟩ := (H3.out.below (nodeLies n) hB HB3.out).at hlt
        obtain ⟨a1, ca1, c1, cc1, hc, hv⟩ := hxl.val
        have hst := it_step (f := jsB n) (obj := false) (ks := ks) hd
        have hm1 := HMX.out (i + 1) (by omega)
        rw [hst] at hm1
        obtain ⟨d0, d1, d2, d3⟩ := nrow4 hc
        have KB := HKB.out
        subst hce
        have hzr : ∀ o, B ≤ (wr.alloc o).heap.size := fun o => Nat.le_trans hsz3 (by simp)
        have HX : Hid (∀ W l', J K W b l' → Below B wr W → l'.length + (jsB n x).length ≤ 1000000000000 → Calls Try.prog 30 #[.pointer (some ⟨b, 0, none⟩), .agg #[.int .i64 x.kind, .string x.text, .slice a1 x.keys.length ca1, .slice c1 x.kids.length cc1]] W fun e w' => e = .returned (.tuple #[]) ∧ J K w' b (l' ++ jsB n x) ∧ Below B W w' ∧ KN W w') := Lib.hid fun W l' g1 g2 g3 => HNH.out W A B0 _ x e l' (hv.below hB g2) hB (Nat.le_trans hsz3 g2.size) (HPK.out x (List.mem_of_getElem? hd)) g1 g3
        have HST := Lib.hid hst
        have HM1 := Lib.hid hm1
        obtain ⟨wa, hwa⟩ : ∃ q, wr.alloc (.cells #[.int .i64 x.kind, .string x.text, .slice a1 x.keys.length ca1, .slice c1 x.kids.length cc1] 30) = q := ⟨_, rfl⟩
        have hba : Below B wr wa := by rw [← hwa]; exact (Below.refl _ _).alloc hsz3 _
        have hka : KN wr wa := by rw [← hwa]; exact (KN.refl _).alloc _
        have KA : wa.heap[wr.heap.size]? = some (.cells #[.int .i64 x.kind, .string x.text, .slice a1 x.keys.length ca1, .slice c1 x.kids.length cc1] 30 (0, 0)) := by rw [← hwa]; exact heap_alloc_new wr _
        have HJa : Hid (J K wa b (out ++ itB (jsB n) false ks ns i)) := Lib.hid (by rw [← hwa]; exact J_alloc HKO.out HJ3.out _)
        have KBa := hka _ _ _ KB
        clear hd hc hxl hv hst hm1
        by_cases hi0 : i = 0
        · have hi1 : (i : Int) ≤ 0 := by omega
          have hse : sepB i = [] := by rw [hi0]; rfl
          clear hi0
          have HSE := Lib.hid hse
          have HM2 := HM1.out
          rw [hse] at HM2
          simp only [List.length_append, List.length_cons, List.length_nil, keyB, Bool.false_eq_true, if_false] at HM2
          have HM3 := Lib.hid HM2
          clear hse HM2
          have ⟨⟨ak0, ak1, ak2, ak3⟩, _⟩ := keep4 KBa
          have ⟨⟨ae0, ae1, ae2, ae3⟩, _⟩ := keep4 KA
          go_wp2_with fail
          refine (HX.out wa (out ++ itB (jsB n) false ks ns i) HJa.out hba (by have := HM3.out; simp only [List.length_append, List.length_cons, List.length_nil, bl_len] at this ⊢; first | omega | (simp only [ByteArray.size, List.size_toArray, List.length_cons, List.length_nil] at this ⊢; omega))).mono ?_
          rintro e w9 ⟨rfl, hj9, hb9, hk9⟩
          have HB9 := Lib.hid (HB3.out.trans (hba.trans hb9))
          have HK9 := Lib.hid (HK3.out.trans (hka.trans hk9))
          have HKB9 := Lib.hid ((hka.trans hk9) _ _ _ KB)
          have HJ9 : Hid (J K w9 b (out ++ itB (jsB n) false ks ns (i + 1))) := Lib.hid (by
            have e : out ++ itB (jsB n) false ks ns (i + 1) = (out ++ itB (jsB n) false ks ns i) ++ jsB n x := by
              rw [HST.out, HSE.out]; simp [List.append_assoc, keyB, bl]
            rw [e]; exact hj9)
          have hz9 := Nat.le_trans hBw HB9.out.size
          clear hj9 hb9 hk9
          go_wp2_with fail
          go_roundw
          case rel => exact ⟨i + 1, by omega, by go_num, HJ9, HKB9, hz9, HB9.out, HK9⟩
          case measure => simp [intOf]; omega
        · have hi1 : (0 : Int) < (i : Int) := by omega
          have hse : sepB i = [44] := by unfold sepB; rw [if_neg hi0]
          clear hi0
          have HSE := Lib.hid hse
          have HM2 := HM1.out
          rw [hse] at HM2
          simp only [List.length_append, List.length_cons, List.length_nil, keyB, Bool.false_eq_true, if_false] at HM2
          have HM3 := Lib.hid HM2
          clear hse HM2
          have ⟨⟨ak0, ak1, ak2, ak3⟩, _⟩ := keep4 KBa
          have ⟨⟨ae0, ae1, ae2, ae3⟩, _⟩ := keep4 KA
          go_wp2_with fail
          refine (HPH.out wa (out ++ itB (jsB n) false ks ns i) ⟨#[44]⟩ HJa.out (Nat.le_trans hsz3 hba.size) (by have := HM3.out; simp only [List.length_append, List.length_cons, List.length_nil, bl_len] at this ⊢; first | omega | (show _ ≤ _; simp only [ByteArray.size, List.size_toArray, List.length_cons, List.length_nil] at this ⊢; omega))).mono ?_
          rintro e w6 ⟨rfl, hj6, hb6, hk6⟩
          have HJ6 := Lib.hid hj6
          have hbb6 := hba.trans hb6
          have hkk6 := hka.trans hk6
          have KB6 := hk6 _ _ _ KBa
          have KK6 := hk6 _ _ _ KA
          have ⟨⟨p6k0, p6k1, p6k2, p6k3⟩, _⟩ := keep4 KB6
          have ⟨⟨p6e0, p6e1, p6e2, p6e3⟩, _⟩ := keep4 KK6
          clear hj6
          go_wp2_with fail
          refine (HX.out w6 ((out ++ itB (jsB n) false ks ns i) ++ (bl ⟨#[44]⟩)) HJ6.out hbb6 (by have := HM3.out; simp only [List.length_append, List.length_cons, List.length_nil, bl_len] at this ⊢; first | omega | (simp only [ByteArray.size, List.size_toArray, List.length_cons, List.length_nil] at this ⊢; omega))).mono ?_
          rintro e w9 ⟨rfl, hj9, hb9, hk9⟩
          have HB9 := Lib.hid (HB3.out.trans (hbb6.trans hb9))
          have HK9 := Lib.hid (HK3.out.trans (hkk6.trans hk9))
          have HKB9 := Lib.hid ((hkk6.trans hk9) _ _ _ KB)
          have HJ9 : Hid (J K w9 b (out ++ itB (jsB n) false ks ns (i + 1))) := Lib.hid (by
            have e : out ++ itB (jsB n) false ks ns (i + 1) = ((out ++ itB (jsB n) false ks ns i) ++ (bl ⟨#[44]⟩)) ++ jsB n x := by
              rw [HST.out, HSE.out]; simp [List.append_assoc, keyB, bl]
            rw [e]; exact hj9)
          have hz9 := Nat.le_trans hBw HB9.out.size
          clear hj9 hb9 hk9
          go_wp2_with fail
          go_roundw
          case rel => exact ⟨i + 1, by omega, by go_num, HJ9, HKB9, hz9, HB9.out, HK9⟩
          case measure => simp [intOf]; omega
      · obtain rfl : i = ns.length := by omega
        clear hlt
        go_wp2_with fail
        go_end0
        exact ⟨rfl, HJ3.out, HB3.out, HK3.out⟩
  · rw [show decide ((4 : Int) = 4) = true from rfl] at hlen ⊢
    have HMX : Hid (∀ i, i ≤ ns.length → out.length + (itB (jsB n) true ks ns i).length ≤ 1000000000000) := Lib.hid fun i hi => by
      have e2 := it_mono (f := jsB n) (obj := true) (ks := ks) (ns := ns) hi
      omega
    obtain ⟨e, he, hsh, hpk⟩ := part_pos HPT.out
    have HPK := Lib.hid hpk
    have HKL : Hid (ks.length = ns.length) := Lib.hid ((base4 rfl).1 hsh.1).2
    have HKEY : Hid (∀ (i : Nat) (k : ByteArray), ks[i]? = some k → k.size ≤ 8) := Lib.hid fun i k hk => word_size (hsh.2 i k hk).1
    clear he hsh hpk hlen
    have hnl := H3.out.2.1
    have K0 := heap_alloc_new w (.cells #[.int .i64 4, .string tx, .slice a ks.length ca, .slice c ns.length cc] 30)
    have HJ0 : Hid (J K (w.alloc (.cells #[.int .i64 4, .string tx, .slice a ks.length ca, .slice c ns.length cc] 30)) b out) := Lib.hid (HJA.out _)
    go_enter Try.func39, Try.ntmps39
    go_wp2_with fail
    go_loopw [9] (fun i wr => ∃ (i' : Nat), i' ≤ ns.length ∧ i = .int .i64 i' ∧ Hid (J K wr b (out ++ itB (jsB n) true ks ns i')) ∧ Hid (wr.heap[w.heap.size]? = some (.cells #[.int .i64 4, .string tx, .slice a ks.length ca, .slice c ns.length cc] 30 (0, 0))) ∧ B ≤ wr.heap.size ∧ Below B w wr ∧ Hid (KN w wr)) (fun i _ => ns.length - (intOf i).toNat)
    case atStart => exact ⟨0, by omega, rfl, Lib.hid (by rw [show itB (jsB n) true ks ns 0 = [] from rfl, List.append_nil]; exact HJ0.out), Lib.hid K0, hz1 _, HA.out _, Lib.hid (HKN.out _)⟩
    case round =>
      obtain ⟨i, hi, rfl, HJ3, HKB, hsz3, hb3, HK3⟩ := hrel
      have HB3 := Lib.hid hb3
      have ⟨⟨k0, k1, k2, k3⟩, _⟩ := keep4 HKB.out
      clear hb3 K0
      by_cases hlt : i < ns.length
      · have hli : (i : Int) < (ns.length : Int) := by omega
        obtain ⟨x, b5, off, hd, hce, hA, hbb, hxl⟩ := (H3.out.below (nodeLies n) hB HB3.out).at hlt
        obtain ⟨a1, ca1, c1, cc1, hc, hv⟩ := hxl.val
        have hst := it_step (f := jsB n) (obj := true) (ks := ks) hd
        have hm1 := HMX.out (i + 1) (by omega)
        rw [hst] at hm1
        obtain ⟨d0, d1, d2, d3⟩ := nrow4 hc
        have KB := HKB.out
        subst hce
        have hzr : ∀ o, B ≤ (wr.alloc o).heap.size := fun o => Nat.le_trans hsz3 (by simp)
        have HX : Hid (∀ W l', J K W b l' → Below B wr W → l'.length + (jsB n x).length ≤ 1000000000000 → Calls Try.prog 30 #[.pointer (some ⟨b, 0, none⟩), .agg #[.int .i64 x.kind, .string x.text, .slice a1 x.keys.length ca1, .slice c1 x.kids.length cc1]] W fun e w' => e = .returned (.tuple #[]) ∧ J K w' b (l' ++ jsB n x) ∧ Below B W w' ∧ KN W w') := Lib.hid fun W l' g1 g2 g3 => HNH.out W A B0 _ x e l' (hv.below hB g2) hB (Nat.le_trans hsz3 g2.size) (HPK.out x (List.mem_of_getElem? hd)) g1 g3
        obtain ⟨y, b4, off4, hd4, hae, hA4, hbb4, hok4, hc4⟩ := (H2.out.below textLies hB HB3.out).at (show i < ks.length by have := HKL.out; omega)
        subst hae
        rw [Nat.mul_one] at hc4
        have hy := HKEY.out i y hd4
        have hky : ks.getD i ⟨#[]⟩ = y := by rw [List.getD_eq_getElem?_getD, hd4]; rfl
        rw [hky] at hst hm1
        have hli4 : (i : Int) < (ks.length : Int) := by have := HKL.out; omega
        clear hky hd4 hok4
        have HST := Lib.hid hst
        have HM1 := Lib.hid hm1
        obtain ⟨wa, hwa⟩ : ∃ q, wr.alloc (.cells #[.int .i64 x.kind, .string x.text, .slice a1 x.keys.length ca1, .slice c1 x.kids.length cc1] 30) = q := ⟨_, rfl⟩
        have hba : Below B wr wa := by rw [← hwa]; exact (Below.refl _ _).alloc hsz3 _
        have hka : KN wr wa := by rw [← hwa]; exact (KN.refl _).alloc _
        have KA : wa.heap[wr.heap.size]? = some (.cells #[.int .i64 x.kind, .string x.text, .slice a1 x.keys.length ca1, .slice c1 x.kids.length cc1] 30 (0, 0)) := by rw [← hwa]; exact heap_alloc_new wr _
        have HJa : Hid (J K wa b (out ++ itB (jsB n) true ks ns i)) := Lib.hid (by rw [← hwa]; exact J_alloc HKO.out HJ3.out _)
        have KBa := hka _ _ _ KB
        clear hd hc hxl hv hst hm1
        by_cases hi0 : i = 0
        · have hi1 : (i : Int) ≤ 0 := by omega
          have hse : sepB i = [] := by rw [hi0]; rfl
          clear hi0
          have HSE := Lib.hid hse
          have HM2 := HM1.out
          rw [hse] at HM2
          simp only [List.length_append, List.length_cons, List.length_nil, keyB, if_true, bl_len] at HM2
          have HM3 := Lib.hid HM2
          clear hse HM2
          have ⟨⟨ak0, ak1, ak2, ak3⟩, _⟩ := keep4 KBa
          have ⟨⟨ae0, ae1, ae2, ae3⟩, _⟩ := keep4 KA
          have ac4 := (hba.cell (p := ⟨b4, off4 + i, none⟩) (by simp; omega)).trans hc4
          go_wp2_with fail
          refine (HQH.out wa (out ++ itB (jsB n) true ks ns i) y HJa.out (Nat.le_trans hsz3 hba.size) (by have := HM3.out; simp only [List.length_append, List.length_cons, List.length_nil, bl_len] at this ⊢; first | omega | (show _ ≤ _; simp only [ByteArray.size, List.size_toArray, List.length_cons, List.length_nil] at this ⊢; omega))).mono ?_
          rintro e w6 ⟨rfl, hj6, hb6, hk6⟩
          have HJ6 := Lib.hid hj6
          have hbb6 := hba.trans hb6
          have hkk6 := hka.trans hk6
          have KB6 := hk6 _ _ _ KBa
          have KK6 := hk6 _ _ _ KA
          have ⟨⟨p6k0, p6k1, p6k2, p6k3⟩, _⟩ := keep4 KB6
          have ⟨⟨p6e0, p6e1, p6e2, p6e3⟩, _⟩ := keep4 KK6
          have p6c4 := (hbb6.cell (p := ⟨b4, off4 + i, none⟩) (by simp; omega)).trans hc4
          clear hj6
          go_wp2_with fail
          refine (HPH.out w6 ((out ++ itB (jsB n) true ks ns i) ++ (34 :: (bl y ++ [34]))) ⟨#[58]⟩ HJ6.out (Nat.le_trans hsz3 hbb6.size) (by have := HM3.out; simp only [List.length_append, List.length_cons, List.length_nil, bl_len] at this ⊢; first | omega | (show _ ≤ _; simp only [ByteArray.size, List.size_toArray, List.length_cons, List.length_nil] at this ⊢; omega))).mono ?_
          rintro e w7 ⟨rfl, hj7, hb7, hk7⟩
          have HJ7 := Lib.hid hj7
          have hbb7 := hbb6.trans hb7
          have hkk7 := hkk6.trans hk7
          have KB7 := hk7 _ _ _ KB6
          have KK7 := hk7 _ _ _ KK6
          have ⟨⟨p7k0, p7k1, p7k2, p7k3⟩, _⟩ := keep4 KB7
          have ⟨⟨p7e0, p7e1, p7e2, p7e3⟩, _⟩ := keep4 KK7
          have p7c4 := (hbb7.cell (p := ⟨b4, off4 + i, none⟩) (by simp; omega)).trans hc4
          clear hj7
          go_wp2_with fail
          refine (HX.out w7 (((out ++ itB (jsB n) true ks ns i) ++ (34 :: (bl y ++ [34]))) ++ (bl ⟨#[58]⟩)) HJ7.out hbb7 (by have := HM3.out; simp only [List.length_append, List.length_cons, List.length_nil, bl_len] at this ⊢; first | omega | (simp only [ByteArray.size, List.size_toArray, List.length_cons, List.length_nil] at this ⊢; omega))).mono ?_
          rintro e w9 ⟨rfl, hj9, hb9, hk9⟩
          have HB9 := Lib.hid (HB3.out.trans (hbb7.trans hb9))
          have HK9 := Lib.hid (HK3.out.trans (hkk7.trans hk9))
          have HKB9 := Lib.hid ((hkk7.trans hk9) _ _ _ KB)
          have HJ9 : Hid (J K w9 b (out ++ itB (jsB n) true ks ns (i + 1))) := Lib.hid (by
            have e : out ++ itB (jsB n) true ks ns (i + 1) = (((out ++ itB (jsB n) true ks ns i) ++ (34 :: (bl y ++ [34]))) ++ (bl ⟨#[58]⟩)) ++ jsB n x := by
              rw [HST.out, HSE.out]; simp [List.append_assoc, keyB, bl]
            rw [e]; exact hj9)
          have hz9 := Nat.le_trans hBw HB9.out.size
          clear hj9 hb9 hk9
          go_wp2_with fail
          go_roundw
          case rel => exact ⟨i + 1, by omega, by go_num, HJ9, HKB9, hz9, HB9.out, HK9⟩
          case measure => simp [intOf]; omega
        · have hi1 : (0 : Int) < (i : Int) := by omega
          have hse : sepB i = [44] := by unfold sepB; rw [if_neg hi0]
          clear hi0
          have HSE := Lib.hid hse
          have HM2 := HM1.out
          rw [hse] at HM2
          simp only [List.length_append, List.length_cons, List.length_nil, keyB, if_true, bl_len] at HM2
          have HM3 := Lib.hid HM2
          clear hse HM2
          have ⟨⟨ak0, ak1, ak2, ak3⟩, _⟩ := keep4 KBa
          have ⟨⟨ae0, ae1, ae2, ae3⟩, _⟩ := keep4 KA
          have ac4 := (hba.cell (p := ⟨b4, off4 + i, none⟩) (by simp; omega)).trans hc4
          go_wp2_with fail
          refine (HPH.out wa (out ++ itB (jsB n) true ks ns i) ⟨#[44]⟩ HJa.out (Nat.le_trans hsz3 hba.size) (by have := HM3.out; simp only [List.length_append, List.length_cons, List.length_nil, bl_len] at this ⊢; first | omega | (show _ ≤ _; simp only [ByteArray.size, List.size_toArray, List.length_cons, List.length_nil] at this ⊢; omega))).mono ?_
          rintro e w6 ⟨rfl, hj6, hb6, hk6⟩
          have HJ6 := Lib.hid hj6
          have hbb6 := hba.trans hb6
          have hkk6 := hka.trans hk6
          have KB6 := hk6 _ _ _ KBa
          have KK6 := hk6 _ _ _ KA
          have ⟨⟨p6k0, p6k1, p6k2, p6k3⟩, _⟩ := keep4 KB6
          have ⟨⟨p6e0, p6e1, p6e2, p6e3⟩, _⟩ := keep4 KK6
          have p6c4 := (hbb6.cell (p := ⟨b4, off4 + i, none⟩) (by simp; omega)).trans hc4
          clear hj6
          go_wp2_with fail
          refine (HQH.out w6 ((out ++ itB (jsB n) true ks ns i) ++ (bl ⟨#[44]⟩)) y HJ6.out (Nat.le_trans hsz3 hbb6.size) (by have := HM3.out; simp only [List.length_append, List.length_cons, List.length_nil, bl_len] at this ⊢; first | omega | (show _ ≤ _; simp only [ByteArray.size, List.size_toArray, List.length_cons, List.length_nil] at this ⊢; omega))).mono ?_
          rintro e w7 ⟨rfl, hj7, hb7, hk7⟩
          have HJ7 := Lib.hid hj7
          have hbb7 := hbb6.trans hb7
          have hkk7 := hkk6.trans hk7
          have KB7 := hk7 _ _ _ KB6
          have KK7 := hk7 _ _ _ KK6
          have ⟨⟨p7k0, p7k1, p7k2, p7k3⟩, _⟩ := keep4 KB7
          have ⟨⟨p7e0, p7e1, p7e2, p7e3⟩, _⟩ := keep4 KK7
          have p7c4 := (hbb7.cell (p := ⟨b4, off4 + i, none⟩) (by simp; omega)).trans hc4
          clear hj7
          go_wp2_with fail
          refine (HPH.out w7 (((out ++ itB (jsB n) true ks ns i) ++ (bl ⟨#[44]⟩)) ++ (34 :: (bl y ++ [34]))) ⟨#[58]⟩ HJ7.out (Nat.le_trans hsz3 hbb7.size) (by have := HM3.out; simp only [List.length_append, List.length_cons, List.length_nil, bl_len] at this ⊢; first | omega | (show _ ≤ _; simp only [ByteArray.size, List.size_toArray, List.length_cons, List.length_nil] at this ⊢; omega))).mono ?_
          rintro e w8 ⟨rfl, hj8, hb8, hk8⟩
          have HJ8 := Lib.hid hj8
          have hbb8 := hbb7.trans hb8
          have hkk8 := hkk7.trans hk8
          have KB8 := hk8 _ _ _ KB7
          have KK8 := hk8 _ _ _ KK7
          have ⟨⟨p8k0, p8k1, p8k2, p8k3⟩, _⟩ := keep4 KB8
          have ⟨⟨p8e0, p8e1, p8e2, p8e3⟩, _⟩ := keep4 KK8
          have p8c4 := (hbb8.cell (p := ⟨b4, off4 + i, none⟩) (by simp; omega)).trans hc4
          clear hj8
          go_wp2_with fail
          refine (HX.out w8 ((((out ++ itB (jsB n) true ks ns i) ++ (bl ⟨#[44]⟩)) ++ (34 :: (bl y ++ [34]))) ++ (bl ⟨#[58]⟩)) HJ8.out hbb8 (by have := HM3.out; simp only [List.length_append, List.length_cons, List.length_nil, bl_len] at this ⊢; first | omega | (simp only [ByteArray.size, List.size_toArray, List.length_cons, List.length_nil] at this ⊢; omega))).mono ?_
          rintro e w9 ⟨rfl, hj9, hb9, hk9⟩
          have HB9 := Lib.hid (HB3.out.trans (hbb8.trans hb9))
          have HK9 := Lib.hid (HK3.out.trans (hkk8.trans hk9))
          have HKB9 := Lib.hid ((hkk8.trans hk9) _ _ _ KB)
          have HJ9 : Hid (J K w9 b (out ++ itB (jsB n) true ks ns (i + 1))) := Lib.hid (by
            have e : out ++ itB (jsB n) true ks ns (i + 1) = ((((out ++ itB (jsB n) true ks ns i) ++ (bl ⟨#[44]⟩)) ++ (34 :: (bl y ++ [34]))) ++ (bl ⟨#[58]⟩)) ++ jsB n x := by
              rw [HST.out, HSE.out]; simp [List.append_assoc, keyB, bl]
            rw [e]; exact hj9)
          have hz9 := Nat.le_trans hBw HB9.out.size
          clear hj9 hb9 hk9
          go_wp2_with fail
          go_roundw
          case rel => exact ⟨i + 1, by omega, by go_num, HJ9, HKB9, hz9, HB9.out, HK9⟩
          case measure => simp [intOf]; omega
      · obtain rfl : i = ns.length := by omega
        clear hlt
        go_wp2_with fail
        go_end0
        exact ⟨rfl, HJ3.out, HB3.out, HK3.out⟩
set_option maxHeartbeats 1000000 in
theorem node_of {K : Wk} {B b n : Nat} (HK : WkOk K B b) (HP : PutLaw K B b) (HQ : QuoLaw K B b) (HN : KidLaw K B b n) : NodLaw K B b (n + 1) := by
  intro w A B0 v x d out hs hB hBw hpt hj hlen
  have HS := Lib.hid hs
  obtain ⟨a, ca, c, cc, rfl, hk, ⟨h2, hca⟩, h3, hcc⟩ := hs
  have hkd := part_kind hpt
  have HPT := Lib.hid hpt
  obtain ⟨kd, tx, ks, ns⟩ := x
  simp only [NodeP.cells] at HS hkd hlen ⊢
  have HNH := Lib.hid HN
  have HPH := Lib.hid HP
  have HQH := Lib.hid HQ
  have HJA : Hid (∀ o, J K (w.alloc o) b out) := Lib.hid fun o => J_alloc HK hj o
  have HA : Hid (∀ o, Below B w (w.alloc o)) := Lib.hid fun o => (Below.refl _ _).alloc hBw o
  have HKN : Hid (∀ o, KN w (w.alloc o)) := Lib.hid fun o => (KN.refl _).alloc o
  have hz1 : ∀ o, B ≤ (w.alloc o).heap.size := fun o => Nat.le_trans hBw (by simp)
  have HLEN := Lib.hid hlen
  clear h2 h3 HN HP HQ HK hj hpt hk hca hcc hlen
  rcases (show kd = 1 ∨ kd = 2 ∨ kd = 3 ∨ kd = 4 by omega) with rfl | rfl | rfl | rfl
  · go_enter Try.func30, Try.ntmps30
    go_wp2_with fail
    refine (HPH.out _ out ⟨#[110, 117, 108, 108]⟩ (HJA.out _) (hz1 _) HLEN.out).mono ?_
    rintro e w1 ⟨rfl, hj1, hb1, hk1⟩
    have HJ1 := Lib.hid hj1
    have HB1 := Lib.hid ((HA.out _).trans hb1)
    have HK1 := Lib.hid ((HKN.out _).trans hk1)
    clear hj1 hb1 hk1
    go_wp2_with fail
    go_end0
    exact ⟨rfl, HJ1.out, HB1.out, HK1.out⟩
  · go_enter Try.func30, Try.ntmps30
    go_wp2_with fail
    refine (HQH.out _ out tx (HJA.out _) (hz1 _) (by
      have := HLEN.out
      rw [show jsB (n + 1) ⟨2, tx, ks, ns⟩ = 34 :: (bl tx ++ [34]) from rfl] at this
      simp only [List.length_append, List.length_cons, List.length_nil, bl_len] at this; omega)).mono ?_
    rintro e w1 ⟨rfl, hj1, hb1, hk1⟩
    have HJ1 := Lib.hid hj1
    have HB1 := Lib.hid ((HA.out _).trans hb1)
    have HK1 := Lib.hid ((HKN.out _).trans hk1)
    clear hj1 hb1 hk1
    go_wp2_with fail
    go_end0
    exact ⟨rfl, HJ1.out, HB1.out, HK1.out⟩
  · have HL2 : Hid (out.length + ((itB (jsB n) false ks ns ns.length).length + 2) ≤ 1000000000000) := Lib.hid (by
      have := HLEN.out
      rw [show jsB (n + 1) ⟨3, tx, ks, ns⟩ = 91 :: (itB (jsB n) false ks ns ns.length ++ [93]) from rfl] at this
      simp only [List.length_append, List.length_cons, List.length_nil] at this; omega)
    go_enter Try.func30, Try.ntmps30
    go_wp2_with fail
    refine (HPH.out _ out ⟨#[91]⟩ (HJA.out _) (hz1 _) (by have := HL2.out; show _ + 1 ≤ _; omega)).mono ?_
    rintro e w1 ⟨rfl, hj1, hb1, hk1⟩
    have HJ1 := Lib.hid hj1
    have HB1 := Lib.hid ((HA.out _).trans hb1)
    have HK1 := Lib.hid ((HKN.out _).trans hk1)
    have K1 := hk1 _ _ _ (heap_alloc_new w _)
    have ⟨⟨k0, k1, k2, k3⟩, _⟩ := keep4 K1
    clear hj1 hb1 hk1 K1
    go_wp2_with fail
    refine (HNH.out w1 A B0 _ ⟨3, tx, ks, ns⟩ d _ (HS.out.below hB HB1.out) hB (Nat.le_trans hBw HB1.out.size) HPT.out (.inl rfl) HJ1.out (by
      have := HL2.out
      show _ + (itB (jsB n) false ks ns ns.length).length ≤ _
      rw [List.length_append]; show _ + 1 + _ ≤ _; omega)).mono ?_
    rintro e w2 ⟨rfl, hj2, hb2, hk2⟩
    have HJ2 : Hid (J K w2 b (out ++ bl ⟨#[91]⟩ ++ itB (jsB n) false ks ns ns.length)) := Lib.hid hj2
    have HB2 := Lib.hid (HB1.out.trans hb2)
    have HK2 := Lib.hid (HK1.out.trans hk2)
    clear hj2 hb2 hk2 k0 k1 k2 k3
    go_wp2_with fail
    refine (HPH.out w2 _ ⟨#[93]⟩ HJ2.out (Nat.le_trans hBw HB2.out.size) (by have := HL2.out; rw [List.length_append, List.length_append]; show _ + 1 + _ + 1 ≤ _; omega)).mono ?_
    rintro e w3 ⟨rfl, hj3, hb3, hk3⟩
    have HJ3 : Hid (J K w3 b (out ++ jsB (n + 1) ⟨3, tx, ks, ns⟩)) := Lib.hid (by
      have e : out ++ jsB (n + 1) ⟨3, tx, ks, ns⟩ = out ++ bl ⟨#[91]⟩ ++ itB (jsB n) false ks ns ns.length ++ bl ⟨#[93]⟩ := by
        rw [show jsB (n + 1) ⟨3, tx, ks, ns⟩ = 91 :: (itB (jsB n) false ks ns ns.length ++ [93]) from rfl]; simp [bl]
      rw [e]; exact hj3)
    have HB3 := Lib.hid (HB2.out.trans hb3)
    have HK3 := Lib.hid (HK2.out.trans hk3)
    clear hj3 hb3 hk3
    go_wp2_with fail
    go_end0
    exact ⟨rfl, HJ3.out, HB3.out, HK3.out⟩
  · have HL2 : Hid (out.length + ((itB (jsB n) true ks ns ns.length).length + 2) ≤ 1000000000000) := Lib.hid (by
      have := HLEN.out
      rw [show jsB (n + 1) ⟨4, tx, ks, ns⟩ = 123 :: (itB (jsB n) true ks ns ns.length ++ [125]) from rfl] at this
      simp only [List.length_append, List.length_cons, List.length_nil] at this; omega)
    go_enter Try.func30, Try.ntmps30
    go_wp2_with fail
    refine (HPH.out _ out ⟨#[123]⟩ (HJA.out _) (hz1 _) (by have := HL2.out; show _ + 1 ≤ _; omega)).mono ?_
    rintro e w1 ⟨rfl, hj1, hb1, hk1⟩
    have HJ1 := Lib.hid hj1
    have HB1 := Lib.hid ((HA.out _).trans hb1)
    have HK1 := Lib.hid ((HKN.out _).trans hk1)
    have K1 := hk1 _ _ _ (heap_alloc_new w _)
    have ⟨⟨k0, k1, k2, k3⟩, _⟩ := keep4 K1
    clear hj1 hb1 hk1 K1
    go_wp2_with fail
    refine (HNH.out w1 A B0 _ ⟨4, tx, ks, ns⟩ d _ (HS.out.below hB HB1.out) hB (Nat.le_trans hBw HB1.out.size) HPT.out (.inr rfl) HJ1.out (by
      have := HL2.out
      show _ + (itB (jsB n) true ks ns ns.length).length ≤ _
      rw [List.length_append]; show _ + 1 + _ ≤ _; omega)).mono ?_
    rintro e w2 ⟨rfl, hj2, hb2, hk2⟩
    have HJ2 : Hid (J K w2 b (out ++ bl ⟨#[123]⟩ ++ itB (jsB n) true ks ns ns.length)) := Lib.hid hj2
    have HB2 := Lib.hid (HB1.out.trans hb2)
    have HK2 := Lib.hid (HK1.out.trans hk2)
    clear hj2 hb2 hk2 k0 k1 k2 k3
    go_wp2_with fail
    refine (HPH.out w2 _ ⟨#[125]⟩ HJ2.out (Nat.le_trans hBw HB2.out.size) (by have := HL2.out; rw [List.length_append, List.length_append]; show _ + 1 + _ + 1 ≤ _; omega)).mono ?_
    rintro e w3 ⟨rfl, hj3, hb3, hk3⟩
    have HJ3 : Hid (J K w3 b (out ++ jsB (n + 1) ⟨4, tx, ks, ns⟩)) := Lib.hid (by
      have e : out ++ jsB (n + 1) ⟨4, tx, ks, ns⟩ = out ++ bl ⟨#[123]⟩ ++ itB (jsB n) true ks ns ns.length ++ bl ⟨#[125]⟩ := by
        rw [show jsB (n + 1) ⟨4, tx, ks, ns⟩ = 123 :: (itB (jsB n) true ks ns ns.length ++ [125]) from rfl]; simp [bl]
      rw [e]; exact hj3)
    have HB3 := Lib.hid (HB2.out.trans hb3)
    have HK3 := Lib.hid (HK2.out.trans hk3)
    clear hj3 hb3 hk3
    go_wp2_with fail
    go_end0
    exact ⟨rfl, HJ3.out, HB3.out, HK3.out⟩
theorem nodes {K : Wk} {B b : Nat} (HK : WkOk K B b) : ∀ n, NodLaw K B b n
  | 0 => fun _ _ _ _ _ _ _ h => h.elim
  | n + 1 => node_of HK (fun w out t => putJ K B b HK w out t) (quoted fun w out t => putJ K B b HK w out t) (kids_of HK (fun w out t => putJ K B b HK w out t) (quoted fun w out t => putJ K B b HK w out t) (nodes HK n))
end Go.Proofs.Ytffcfjjlieogkaa.Rw
