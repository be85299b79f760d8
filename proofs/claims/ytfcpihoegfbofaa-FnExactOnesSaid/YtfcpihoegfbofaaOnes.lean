/-
  Whether a schema has a type that is one of some objects, and how wide it is, plainly; contracts: spec.Ones, impl.Ones, spec.Widest, impl.Widest tell so; of what was there nothing is changed. Conditions: in memory.
-/
import Derived.Test.YtfcpihoegfbofaaRows
import Derived.Test.YtfcpihoegfbofaaKindS
import Derived.Lib.MinMax
namespace Go.Proofs.Ytfcpihoegfbofaa.Rw
open Go.RowKit Words Go.Maps
set_option linter.unusedVariables false
set_option maxRecDepth 100000

def oneAny : List TypeP → Bool
  | [] => false
  | x :: r => (x.kind == 3) || oneAny r
theorem oneAny_drop {l : List TypeP} {i : Nat} {x : TypeP} (h : l[i]? = some x) : oneAny (l.drop i) = ((x.kind == 3) || oneAny (l.drop (i + 1))) := by
  obtain ⟨hl, rfl⟩ := List.getElem?_eq_some_iff.1 h
  rw [List.drop_eq_getElem_cons hl, oneAny]
noncomputable def onesB (s : List TypeP) : Bool := schemaB s && oneAny s
def widF : Int → List FieldP → Int
  | n, [] => n
  | n, f :: r => widF (max n (max f.size f.cap)) r
def widT : Int → List TypeP → Int
  | n, [] => n
  | n, x :: r => widT (widF n x.fields) r
theorem widF_drop (n : Int) {l : List FieldP} {i : Nat} {x : FieldP} (h : l[i]? = some x) : widF n (l.drop i) = widF (max n (max x.size x.cap)) (l.drop (i + 1)) := by
  obtain ⟨hl, rfl⟩ := List.getElem?_eq_some_iff.1 h
  rw [List.drop_eq_getElem_cons hl, widF]
theorem widT_drop (n : Int) {l : List TypeP} {i : Nat} {x : TypeP} (h : l[i]? = some x) : widT n (l.drop i) = widT (widF n x.fields) (l.drop (i + 1)) := by
  obtain ⟨hl, rfl⟩ := List.getElem?_eq_some_iff.1 h
  rw [List.drop_eq_getElem_cons hl, widT]
noncomputable def widestB (s : List TypeP) : Int := if schemaB s = true then widT 0 s else -1
theorem ret_ib {k : IntKind} {a b : Int} (h : a = b) : Ending.returned (.int k a) = .returned (.int k b) := by rw [h]

set_option maxHeartbeats 2000000 in
theorem specOnes (w : World) (A B : Nat) (v : Value) (s : List TypeP) (hv : SchemaAt w A B v s) (hB : B ≤ w.heap.size) :
    Calls Try.prog 6 #[v] w fun e w' => e = .returned (.bool (onesB s)) ∧ Below w.heap.size w w' := by
  have CS : Hid (∀ w', Below w.heap.size w w' → Calls Try.prog 13 #[v] w' fun e w'' => e = .returned (.bool (schemaB s)) ∧ Below w'.heap.size w' w'') := Lib.hid fun w' h => specSchemaRight w' A B v s (hv.below hB h) (Nat.le_trans hB h.size)
  have hO := Lib.hid (show onesB s = (schemaB s && oneAny s) from rfl)
  obtain ⟨a, ca, rfl, hd, hcv⟩ := hv
  have hlen := hd.2.1
  have HS := Lib.hid hd
  have HA : Hid (∀ o1, Below w.heap.size w (w.alloc o1)) := Lib.hid fun o1 => (Below.refl _ _).alloc (Nat.le_refl _) o1
  clear hd
  obtain ⟨p, hp⟩ : ∃ p, schemaB s = p := ⟨_, rfl⟩
  rw [hp] at CS hO
  clear hp
  generalize onesB s = out at *
  go_enter Try.func6, Try.ntmps6
  go_wp2_with fail
  have k0 := heap_alloc_new w (.cells #[.slice a s.length ca] 29)
  go_loopw [3] (fun i wr => ∃ (i' : Nat), i' ≤ s.length ∧ Hid (p = true → oneAny s = oneAny (s.drop i')) ∧ i = .int .i64 i' ∧ wr.heap[w.heap.size]? = some (.cells #[.slice a s.length ca] 29 (0, 0)) ∧ Below w.heap.size w wr) (fun i _ => s.length - (intOf i).toNat)
  case atStart => exact ⟨0, by omega, Lib.hid (fun _ => by rw [List.drop_zero]), rfl, k0, HA.out _⟩
  case round =>
    obtain ⟨i, hi, hm, rfl, hk0, hb⟩ := hrel
    have HB := Lib.hid hb
    clear k0
    have ⟨j0, _⟩ := keep1 hk0
    by_cases hlt : i < s.length
    · have hli : (i : Int) < (s.length : Int) := by omega
      have hl0 := lt_of_get hk0
      clear hb
      go_wp2_with fail
      refine (CS.out _ HB.out).mono ?_
      rintro e w1 ⟨rfl, hb1⟩
      have hk1 := (hb1.block w.heap.size hl0).trans hk0
      have HB1 := Lib.hid (HB.out.trans (hb1.mono HB.out.size))
      have ⟨j1, _⟩ := keep1 hk1
      clear hb1 j0
      cases p
      · have hf : Hid (out = false) := Lib.hid (by rw [hO.out]; rfl)
        clear hlt
        go_wp2_with fail
        go_ret
        exact ⟨ret_bool hf.out.symm, HB1.out⟩
      obtain ⟨x, b', off', hd, rfl, hA', hbb', hok, a1, ca1, cm, ccm, hc, h2, h3⟩ := (HS.out.below typeLies (Nat.le_refl _) (HB1.out.mono hB)).at hlt
      obtain ⟨d0, d1, d2, d3, d4⟩ := row5 hc
      have hst := Lib.hid (oneAny_drop hd)
      obtain ⟨xk, hxk⟩ : ∃ k, x.kind = k := ⟨_, rfl⟩
      have hkr := hok.2.1
      rw [hxk] at hst d1 hkr
      obtain ⟨kr1, kr2⟩ := hkr
      clear hd hok hc h2 h3 hxk d0 d2 d3 d4 hlt
      by_cases hk : xk = 3
      · subst hk
        have hf : Hid (out = true) := Lib.hid (by rw [hO.out, hm.out rfl, hst.out]; rfl)
        clear hst
        go_wp2_with fail
        go_ret
        exact ⟨ret_bool hf.out.symm, HB1.out⟩
      · have hk' : (xk == 3) = false := by simp [hk]
        have hrel : Hid (true = true → oneAny s = oneAny (s.drop (i + 1))) := Lib.hid (fun _ => by rw [hm.out rfl, hst.out, hk']; rfl)
        clear hst
        go_wp2_with fail
        go_roundw
        case rel => exact ⟨i + 1, by omega, hrel, by go_num, hk1, HB1.out⟩
        case measure => simp [intOf]; omega
    · obtain rfl : i = s.length := by omega
      have hf : Hid (out = false) := Lib.hid (by
        rw [hO.out]
        cases p with
        | false => rfl
        | true => rw [hm.out rfl, List.drop_length]; rfl)
      clear hlt hb
      go_wp2_with fail
      go_ret
      exact ⟨ret_bool hf.out.symm, HB.out⟩

theorem implIsOne (w : World) (x : TypeP) (hx : x.ok) (a : Option Addr) (ca : Nat) (c : Option Addr) (cc : Nat) :
    Calls Try.prog 17 #[.agg (x.cells a ca c cc).toArray] w fun e w' => e = .returned (.bool (x.kind == 3)) ∧ Below w.heap.size w w' := by
  obtain ⟨nm, kd, by_, fs, ms⟩ := x
  obtain ⟨_, ⟨h1, h2⟩, _⟩ := hx
  simp only [TypeP.cells] at h1 h2 ⊢
  have HA : Hid (∀ o, Below w.heap.size w (w.alloc o)) := Lib.hid fun o => (Below.refl _ _).alloc (Nat.le_refl _) o
  by_cases hk : kd = 3
  · subst hk
    go_enter Try.func17, Try.ntmps17
    go_wp2_with fail
    go_ret
    exact ⟨rfl, HA.out _⟩
  · have hk' : (kd == 3) = false := by simp [hk]
    rw [hk']
    go_enter Try.func17, Try.ntmps17
    go_wp2_with fail
    go_ret
    exact ⟨rfl, HA.out _⟩
/-- The place of the first that is one of some objects. -/
def placeO : List TypeP → Nat → Int
  | [], _ => -1
  | x :: r, k => if x.kind = 3 then (k : Int) else placeO r (k + 1)
theorem placeO_hit {l : List TypeP} {i : Nat} {x : TypeP} (h : l[i]? = some x) (hx : x.kind = 3) : placeO (l.drop i) i = i := by
  obtain ⟨hl, rfl⟩ := List.getElem?_eq_some_iff.1 h
  rw [List.drop_eq_getElem_cons hl, placeO, if_pos hx]
theorem placeO_miss {l : List TypeP} {i : Nat} {x : TypeP} (h : l[i]? = some x) (hx : ¬ x.kind = 3) : placeO (l.drop i) i = placeO (l.drop (i + 1)) (i + 1) := by
  obtain ⟨hl, rfl⟩ := List.getElem?_eq_some_iff.1 h
  rw [List.drop_eq_getElem_cons hl, placeO, if_neg hx]
theorem placeO_any : ∀ (l : List TypeP) (k : Nat), (placeO l k = -1 ∧ oneAny l = false) ∨ (0 ≤ placeO l k ∧ placeO l k ≤ k + l.length ∧ oneAny l = true)
  | [], k => .inl ⟨rfl, rfl⟩
  | x :: l, k => by
    unfold placeO oneAny
    by_cases hx : x.kind = 3
    · rw [if_pos hx, hx]; exact .inr ⟨by omega, by simp; omega, rfl⟩
    · rw [if_neg hx, show (x.kind == 3) = false by simp [hx]]
      rcases placeO_any l (k + 1) with ⟨h1, h2⟩ | ⟨h1, h2, h3⟩
      · exact .inl ⟨h1, h2⟩
      · exact .inr ⟨h1, by simp; omega, h3⟩

theorem implIndexOne (w : World) (A B : Nat) (a : Option Addr) (cap : Nat) (l : List TypeP) (hs : TypesAt w A B a l.length l) (hB : B ≤ w.heap.size) :
    Calls Try.prog 25 #[.slice a l.length cap, .func (.func 17) #[] #[]] w fun e w' => e = .returned (.int .i64 (placeO l 0)) ∧ Below w.heap.size w w' := by
  have hlen := hs.2.1
  have HS := Lib.hid hs
  clear hs
  go_enter Try.func25, Try.ntmps25
  go_wp2_with fail
  go_loopw [8] (fun i wr => ∃ (i' : Nat), i' ≤ l.length ∧ Hid (placeO l 0 = placeO (l.drop i') i') ∧ i = .int .i64 i' ∧ Below w.heap.size w wr) (fun i _ => l.length - (intOf i).toNat)
  case atStart => exact ⟨0, by omega, Lib.hid (by rw [List.drop_zero]), rfl, Below.refl _ _⟩
  case round =>
    obtain ⟨i, hi, hm, rfl, hb⟩ := hrel
    have HB := Lib.hid hb
    by_cases hlt : i < l.length
    · have hli : (i : Int) < (l.length : Int) := by omega
      obtain ⟨x, b, off, hd, rfl, hA, hbb, hok, a1, ca1, cm, ccm, hc, h2, h3⟩ := (HS.out.below typeLies (Nat.le_refl _) (hb.mono hB)).at hlt
      obtain ⟨c0, c1, c2, c3, c4⟩ := row5 hc
      have CC : Hid (∀ w, Calls Try.prog 17 #[.agg #[.string x.name, .int .i64 x.kind, .int .i64 x.bytes, .slice a1 x.fields.length ca1, .slice cm x.members.length ccm]] w fun e w' => e = .returned (.bool (x.kind == 3)) ∧ Below w.heap.size w w') := Lib.hid fun w => implIsOne w x hok a1 ca1 cm ccm
      by_cases hx : x.kind = 3
      · have hf := Lib.hid (hm.out.trans (placeO_hit hd hx))
        rw [show (x.kind == 3) = true by simp [hx]] at CC
        clear hlt hd hb hok hc hx h2 h3
        go_wp2_with fail
        refine (CC.out _).mono ?_
        rintro e w1 ⟨rfl, hb1⟩
        have HB1 := Lib.hid (HB.out.trans (hb1.mono HB.out.size))
        clear hb1
        go_wp2_with fail
        go_ret
        exact ⟨ret_ib hf.out.symm, HB1.out⟩
      · have hrel := Lib.hid (hm.out.trans (placeO_miss hd hx))
        rw [show (x.kind == 3) = false by simp [hx]] at CC
        clear hlt hd hb hok hc hx h2 h3
        go_wp2_with fail
        refine (CC.out _).mono ?_
        rintro e w1 ⟨rfl, hb1⟩
        have HB1 := Lib.hid (HB.out.trans (hb1.mono HB.out.size))
        clear hb1
        go_wp2_with fail
        go_roundw
        case rel => exact ⟨i + 1, by omega, hrel, by go_num, HB1.out⟩
        case measure => simp [intOf]; omega
    · obtain rfl : i = l.length := by omega
      have hf : Hid (placeO l 0 = -1) := Lib.hid (by rw [hm.out, List.drop_length]; rfl)
      clear hlt hb
      go_wp2_with fail
      go_ret
      exact ⟨ret_ib hf.out.symm, HB.out⟩
theorem implHasOne (w : World) (A B : Nat) (a : Option Addr) (cap : Nat) (l : List TypeP) (hs : TypesAt w A B a l.length l) (hB : B ≤ w.heap.size) :
    Calls Try.prog 16 #[.slice a l.length cap, .func (.func 17) #[] #[]] w fun e w' => e = .returned (.bool (oneAny l)) ∧ Below w.heap.size w w' := by
  have C := Lib.hid (implIndexOne w A B a cap l hs hB)
  have hlen := hs.2.1
  have HP := placeO_any l 0
  generalize placeO l 0 = p at *
  generalize oneAny l = q at *
  clear hs
  go_enter Try.func16, Try.ntmps16
  go_wp2_with fail
  refine C.out.mono ?_
  rintro e w1 ⟨rfl, hb1⟩
  have HB1 := Lib.hid hb1
  rcases HP with ⟨rfl, rfl⟩ | ⟨h1, h2, rfl⟩
  · clear hb1
    go_wp2_with fail
    go_ret
    exact ⟨rfl, HB1.out⟩
  · clear hb1
    go_wp2_with fail
    go_ret
    exact ⟨ret_bool (by first | rfl | simp), HB1.out⟩
theorem implOnes (w : World) (A B : Nat) (v : Value) (s : List TypeP) (hv : SchemaAt w A B v s) (hB : B ≤ w.heap.size) :
    Calls Try.prog 8 #[v] w fun e w' => e = .returned (.bool (onesB s)) ∧ Below w.heap.size w w' := by
  have CS := Lib.hid (fun o => implSchemaRight (w.alloc o) A B v s (hv.below (C := w.heap.size) hB ((Below.refl _ _).alloc (Nat.le_refl _) o)) (Nat.le_trans hB (by simp)))
  have hO := Lib.hid (show onesB s = (schemaB s && oneAny s) from rfl)
  have HV := Lib.hid hv
  obtain ⟨a, ca, rfl, hd, hcv⟩ := hv
  have hlen := hd.2.1
  have CH : Hid (∀ w', Below w.heap.size w w' → Calls Try.prog 16 #[.slice a s.length ca, .func (.func 17) #[] #[]] w' fun e w'' => e = .returned (.bool (oneAny s)) ∧ Below w'.heap.size w' w'') := Lib.hid fun w' h => implHasOne w' A B a ca s (hd.below typeLies hB h) (Nat.le_trans hB h.size)
  have HA : Hid (∀ o1, Below w.heap.size w (w.alloc o1)) := Lib.hid fun o1 => (Below.refl _ _).alloc (Nat.le_refl _) o1
  clear hd
  generalize oneAny s = q at *
  generalize onesB s = out at *
  obtain ⟨p, hp⟩ : ∃ p, schemaB s = p := ⟨_, rfl⟩
  rw [hp] at CS hO
  clear hp
  go_enter Try.func8, Try.ntmps8
  go_wp2_with fail
  refine (CS.out _).mono ?_
  rintro e w1 ⟨rfl, hb1⟩
  have hk1 := (hb1.block w.heap.size (by simp)).trans (heap_alloc_new w (.cells #[.slice a s.length ca] 29))
  have HB1 := Lib.hid ((HA.out _).trans (hb1.mono (HA.out _).size))
  have ⟨j1, _⟩ := keep1 hk1
  clear hb1
  cases p
  · have hf : Hid (out = false) := Lib.hid (by rw [hO.out]; rfl)
    go_wp2_with fail
    go_ret
    exact ⟨ret_bool hf.out.symm, HB1.out⟩
  · have hf : Hid (out = q) := Lib.hid (by rw [hO.out]; rfl)
    go_wp2_with fail
    refine (CH.out _ HB1.out).mono ?_
    rintro e w2 ⟨rfl, hb2⟩
    have HB2 := Lib.hid (HB1.out.trans (hb2.mono HB1.out.size))
    clear hb2
    cases q
    all_goals
      go_wp2_with fail
      go_ret
      exact ⟨ret_bool hf.out.symm, HB2.out⟩
end Go.Proofs.Ytfcpihoegfbofaa.Rw
