/-
  Contracts: impl.FieldOf, spec.l04Get, FieldOf; of what was there nothing is changed. Conditions: in memory, texts of at most 2^20 bytes.
-/
/-
  Contracts: impl.firstRight, checker.objects; of what was there nothing is changed. Conditions: in memory; a map of the kinds of a right schema.
-/
/-
  Contract: checker.field tells what is wrong of a field beside its Sels, or its type; of what was there nothing is changed. Conditions: in memory; a map of the kinds of a right schema; a type that is an object's or one of some.
-/
import Derived.Test.YtahcheahpbnkiaaGreatDoorRows
import Derived.Test.YtahcheahpbnkiaaGreatDoorKindH
import Derived.Test.YtahcheahpbnkiaaGreatDoorValR
import Derived.Test.YtahcheahpbnkiaaGreatDoorLoopJ
import Derived.Test.YtahcheahpbnkiaaGreatDoorValN
namespace Go.Proofs.YtahcheahpbnkiaaGreatDoor.Rw
open Go.RowKit Words Go.Maps
set_option linter.unusedVariables false
set_option maxRecDepth 100000

/-- The field of a name of a type of a right schema; the zero one else. -/
noncomputable def fieldOfP (s : List TypeP) (t nm : ByteArray) : FieldP := if (schemaB s && !freshB t s) = true then fieldIn nm (typeIn t s).fields else zeroField
theorem mField1 (v : Value) (W : World) : (method 505 268 v "loop.example/g00836/impl.field").run Tryz.prog W = .ok (318, v) W := by kernel_rfl
theorem mField2 (v : Value) (W : World) : (method 505 131 v "loop.example/g00836/impl.field").run Tryz.prog W = .ok (293, v) W := by kernel_rfl
theorem mField3 (v : Value) (W : World) : (method 505 269 v "loop.example/g00836/impl.field").run Tryz.prog W = .ok (323, v) W := by kernel_rfl
set_option maxHeartbeats 2000000 in
theorem implFieldOf (w : World) (A B : Nat) (v : Value) (s : List TypeP) (t nm : ByteArray) (htk : OkS t) (hn : OkS nm) (hv : SchemaAt w A B v s) (hB : B ≤ w.heap.size) (hw : schWt s ≤ 1048576) :
    Calls Tryz.prog 47 #[v, .string t, .string nm] w fun e w' => e = .returned (.agg (fieldOfP s t nm).cells.toArray) ∧ Below w.heap.size w w' := by
  have C := Lib.hid (fun o1 o2 => implKindNamed ((w.alloc o1).alloc o2) A B v s t htk (hv.below (C := w.heap.size) hB (((Below.refl _ _).alloc (Nat.le_refl _) o1).alloc (by simp) o2)) (Nat.le_trans hB (by simp; omega)))
  have HA : Hid (∀ o1 o2, Below w.heap.size w ((w.alloc o1).alloc o2)) := Lib.hid fun o1 o2 => ((Below.refl _ _).alloc (Nat.le_refl _) o1).alloc (by simp) o2
  have HN := Lib.hid hn
  obtain ⟨a, ca, rfl, _, _⟩ := hv
  clear hn htk
  go_enter Tryz.func47, Tryz.ntmps47
  go_wp2_with fail
  refine (C.out _ _).mono ?_
  rintro e w1 ⟨ho, hb1⟩
  have HB1 := Lib.hid ((HA.out _ _).trans (hb1.mono (HA.out _ _).size))
  have HZ1 := Lib.hid (kept2z hb1).2
  have ⟨⟨z0, z1, z2, z3, z4, z5⟩, g0, g1, g2, g3, g4, g5⟩ := keep6 HZ1.out
  clear hb1
  rcases ho with ⟨hk, lv, rfl, hkv⟩ | ⟨hk, rfl⟩
  · have hfd : fieldOfP s t nm = fieldIn nm (typeIn t s).fields := by unfold fieldOfP; rw [if_pos hk]
    have hsB : schemaB s = true := by simp only [Bool.and_eq_true] at hk; exact hk.1
    have hfr : freshB t s = false := by simp only [Bool.and_eq_true] at hk; simpa using hk.2
    obtain ⟨_, hpt, _⟩ := right_at hsB hfr
    obtain ⟨_, _, _, htf, _⟩ := tiny_at hw (typeIn_in hfr)
    generalize typeIn t s = y at *
    obtain ⟨hk3, ka, kca, kc, kcc, rfl, hkt⟩ := hkv
    obtain ⟨fp, hfp⟩ : ∃ p, fieldOfP s t nm = p := ⟨_, rfl⟩
    have CR : Hid ((y.kind = 1 → Calls Tryz.prog 318 #[.agg (y.cells ka kca kc kcc).toArray, .string nm] w1 fun e w' => e = .returned (.agg fp.cells.toArray) ∧ Below w1.heap.size w1 w') ∧
        (y.kind = 2 → Calls Tryz.prog 293 #[.agg (y.cells ka kca kc kcc).toArray, .string nm] w1 fun e w' => e = .returned (.agg fp.cells.toArray) ∧ Below w1.heap.size w1 w') ∧
        (y.kind = 3 → Calls Tryz.prog 323 #[.agg (y.cells ka kca kc kcc).toArray, .string nm] w1 fun e w' => e = .returned (.agg fp.cells.toArray) ∧ Below w1.heap.size w1 w')) := Lib.hid (by
      refine ⟨fun h => ?_, fun h => ?_, fun h => ?_⟩
      · rw [← hfp, hfd, part_fields hpt (by omega)]; exact fieldM1 w1 .nilIface y ka kca kc kcc nm
      · rw [← hfp, hfd]; exact fieldM2 w1 A B y ka kca kc kcc nm HN.out hkt (Nat.le_trans hB HB1.out.size) htf
      · rw [← hfp, hfd, part_fields hpt (by omega)]; exact fieldM3 w1 .nilIface y ka kca kc kcc nm)
    have HFP := Lib.hid hfp
    generalize hcells : Value.agg (y.cells ka kca kc kcc).toArray = yv at *
    clear hcells hfp hfd hk hkt hpt htf hfr hsB
    have m1 := mField1
    have m2 := mField2
    have m3 := mField3
    obtain ⟨fn, ft, fl, fm, fz, fc⟩ := fp
    simp only [FieldP.cells] at CR ⊢
    rcases hk3 with hk3 | hk3 | hk3
    · have e : kindT y.kind = 268 := by rw [hk3]; rfl
      rw [e]
      have C := Lib.hid (CR.out.1 hk3)
      clear hk3 e
      go_wp2_with fail
      refine C.out.mono ?_
      rintro e w2 ⟨rfl, hb2⟩
      have HB2 := Lib.hid (HB1.out.trans (hb2.mono HB1.out.size))
      have hz2 := (hb2.block (w.heap.size + 1) (lt_of_get HZ1.out)).trans HZ1.out
      have HZ2 := Lib.hid hz2
      clear z0 z1 z2 z3 z4 z5 g0 g1 g2 g3 g4 g5
      have ⟨⟨z0, z1, z2, z3, z4, z5⟩, g0, g1, g2, g3, g4, g5⟩ := keep6 hz2
      clear hb2 hz2
      go_wp2_with fail
      change bodyPost _ _ _ _ _ (putL w2 (w.heap.size + 1) 0 [.string fn, .string ft, .bool fl, .bool fm, .int .i64 fz, .int .i64 fc])
      obtain ⟨hr, _, _⟩ := putL_cells (g := w.heap.size + 1) (o := 0) (l := [.string fn, .string ft, .bool fl, .bool fm, .int .i64 fz, .int .i64 fc]) HZ2.out (by simp)
      have HBF := putL_below (g := w.heap.size + 1) (B := w.heap.size) (by omega) [.string fn, .string ft, .bool fl, .bool fm, .int .i64 fz, .int .i64 fc] 0 HB2.out
      generalize putL w2 (w.heap.size + 1) 0 [.string fn, .string ft, .bool fl, .bool fm, .int .i64 fz, .int .i64 fc] = wz at *
      have ⟨x0, x1, x2, x3, x4, x5⟩ := row6z hr
      exact bodyPost_ret (v := .agg #[.string fn, .string ft, .bool fl, .bool fm, .int .i64 fz, .int .i64 fc]) (by simp [results, Tryz.results47, go_sem, x0, x1, x2, x3, x4, x5]) rfl ⟨by rw [HFP.out]; rfl, HBF⟩
    · have e : kindT y.kind = 131 := by rw [hk3]; rfl
      rw [e]
      have C := Lib.hid (CR.out.2.1 hk3)
      clear hk3 e
      go_wp2_with fail
      refine C.out.mono ?_
      rintro e w2 ⟨rfl, hb2⟩
      have HB2 := Lib.hid (HB1.out.trans (hb2.mono HB1.out.size))
      have hz2 := (hb2.block (w.heap.size + 1) (lt_of_get HZ1.out)).trans HZ1.out
      have HZ2 := Lib.hid hz2
      clear z0 z1 z2 z3 z4 z5 g0 g1 g2 g3 g4 g5
      have ⟨⟨z0, z1, z2, z3, z4, z5⟩, g0, g1, g2, g3, g4, g5⟩ := keep6 hz2
      clear hb2 hz2
      go_wp2_with fail
      change bodyPost _ _ _ _ _ (putL w2 (w.heap.size + 1) 0 [.string fn, .string ft, .bool fl, .bool fm, .int .i64 fz, .int .i64 fc])
      obtain ⟨hr, _, _⟩ := putL_cells (g := w.heap.size + 1) (o := 0) (l := [.string fn, .string ft, .bool fl, .bool fm, .int .i64 fz, .int .i64 fc]) HZ2.out (by simp)
      have HBF := putL_below (g := w.heap.size + 1) (B := w.heap.size) (by omega) [.string fn, .string ft, .bool fl, .bool fm, .int .i64 fz, .int .i64 fc] 0 HB2.out
      generalize putL w2 (w.heap.size + 1) 0 [.string fn, .string ft, .bool fl, .bool fm, .int .i64 fz, .int .i64 fc] = wz at *
      have ⟨x0, x1, x2, x3, x4, x5⟩ := row6z hr
      exact bodyPost_ret (v := .agg #[.string fn, .string ft, .bool fl, .bool fm, .int .i64 fz, .int .i64 fc]) (by simp [results, Tryz.results47, go_sem, x0, x1, x2, x3, x4, x5]) rfl ⟨by rw [HFP.out]; rfl, HBF⟩
    · have e : kindT y.kind = 269 := by rw [hk3]; rfl
      rw [e]
      have C := Lib.hid (CR.out.2.2 hk3)
      clear hk3 e
      go_wp2_with fail
      refine C.out.mono ?_
      rintro e w2 ⟨rfl, hb2⟩
      have HB2 := Lib.hid (HB1.out.trans (hb2.mono HB1.out.size))
      have hz2 := (hb2.block (w.heap.size + 1) (lt_of_get HZ1.out)).trans HZ1.out
      have HZ2 := Lib.hid hz2
      clear z0 z1 z2 z3 z4 z5 g0 g1 g2 g3 g4 g5
      have ⟨⟨z0, z1, z2, z3, z4, z5⟩, g0, g1, g2, g3, g4, g5⟩ := keep6 hz2
      clear hb2 hz2
      go_wp2_with fail
      change bodyPost _ _ _ _ _ (putL w2 (w.heap.size + 1) 0 [.string fn, .string ft, .bool fl, .bool fm, .int .i64 fz, .int .i64 fc])
      obtain ⟨hr, _, _⟩ := putL_cells (g := w.heap.size + 1) (o := 0) (l := [.string fn, .string ft, .bool fl, .bool fm, .int .i64 fz, .int .i64 fc]) HZ2.out (by simp)
      have HBF := putL_below (g := w.heap.size + 1) (B := w.heap.size) (by omega) [.string fn, .string ft, .bool fl, .bool fm, .int .i64 fz, .int .i64 fc] 0 HB2.out
      generalize putL w2 (w.heap.size + 1) 0 [.string fn, .string ft, .bool fl, .bool fm, .int .i64 fz, .int .i64 fc] = wz at *
      have ⟨x0, x1, x2, x3, x4, x5⟩ := row6z hr
      exact bodyPost_ret (v := .agg #[.string fn, .string ft, .bool fl, .bool fm, .int .i64 fz, .int .i64 fc]) (by simp [results, Tryz.results47, go_sem, x0, x1, x2, x3, x4, x5]) rfl ⟨by rw [HFP.out]; rfl, HBF⟩
  · have hfd : Hid (fieldOfP s t nm = zeroField) := Lib.hid (by unfold fieldOfP; rw [if_neg (by rw [hk]; simp)])
    clear hk
    go_wp2_with fail
    change bodyPost _ _ _ _ _ (putL w1 (w.heap.size + 1) 0 [.string ⟨#[]⟩, .string ⟨#[]⟩, .bool false, .bool false, .int .i64 0, .int .i64 0])
    obtain ⟨hr, _, _⟩ := putL_cells (g := w.heap.size + 1) (o := 0) (l := [.string ⟨#[]⟩, .string ⟨#[]⟩, .bool false, .bool false, .int .i64 0, .int .i64 0]) HZ1.out (by simp)
    have HBF := putL_below (g := w.heap.size + 1) (B := w.heap.size) (by omega) [.string ⟨#[]⟩, .string ⟨#[]⟩, .bool false, .bool false, .int .i64 0, .int .i64 0] 0 HB1.out
    generalize putL w1 (w.heap.size + 1) 0 [.string ⟨#[]⟩, .string ⟨#[]⟩, .bool false, .bool false, .int .i64 0, .int .i64 0] = wz at *
    have ⟨x0, x1, x2, x3, x4, x5⟩ := row6z hr
    exact bodyPost_ret (v := .agg #[.string ⟨#[]⟩, .string ⟨#[]⟩, .bool false, .bool false, .int .i64 0, .int .i64 0]) (by simp [results, Tryz.results47, go_sem, x0, x1, x2, x3, x4, x5]) rfl ⟨by rw [hfd.out]; rfl, HBF⟩
end Go.Proofs.YtahcheahpbnkiaaGreatDoor.Rw

namespace Go.Proofs.YtahcheahpbnkiaaGreatDoor.Selss
open Go.RowKit Words Go.Maps
set_option linter.unusedVariables false
set_option maxRecDepth 100000

/-- What a checker holds lies in memory: the kinds of s in the map of block b, and the Frags. -/
structure Chk (w : World) (B : Nat) (s : List Rw.TypeP) (fr : List FragP) (b n : Nat) (D : DataW Value) (fa : Option Addr) : Prop where
  kd : Rw.KD w 0 B s D
  own : Rw.OwnK w b n D
  frg : FragsAt w 0 B fa fr.length fr
theorem Chk.below {w w' : World} {B : Nat} {s : List Rw.TypeP} {fr : List FragP} {b n : Nat} {D : DataW Value} {fa : Option Addr} (h : Chk w B s fr b n D fa) {C : Nat} (hB : B ≤ C) (hb : b < C) (g : Below C w w') : Chk w' B s fr b n D fa :=
  ⟨h.kd.below hB g, Rw.World.ownsMap.same h.own (g.block b hb), h.frg.below hB g⟩
theorem Chk.next {w w' : World} {B : Nat} {s : List Rw.TypeP} {fr : List FragP} {b n : Nat} {D : DataW Value} {fa : Option Addr} (h : Chk w B s fr b n D fa) (hB : B ≤ w.heap.size) (g : Below w.heap.size w w') : Chk w' B s fr b n D fa :=
  h.below hB h.own.lt g

theorem implFirstRight (w : World) (f : Rw.FieldP) (n : Int) (hf : f.ok) (hn : OkI n) (h0 : 0 ≤ f.cap) :
    Calls Tryz.prog 242 #[.agg f.cells.toArray, .int .i64 n] w fun e w' => e = .returned (.bool (!firstBad f n)) ∧ Below w.heap.size w w' := by
  obtain ⟨nm, tp, ls, mu, sz, cp⟩ := f
  obtain ⟨_, _, ⟨hs1, hs2⟩, hc1, hc2⟩ := hf
  obtain ⟨hn1, hn2⟩ := hn
  simp only [Rw.FieldP.cells] at hs1 hs2 hc1 hc2 h0 ⊢
  have HA : Hid (∀ o, Below w.heap.size w (w.alloc o)) := Lib.hid fun o => (Below.refl _ _).alloc (Nat.le_refl _) o
  by_cases p0 : cp = 0
  · subst p0
    obtain ⟨e1, he1⟩ : ∃ p, (n == -1) = p := ⟨_, rfl⟩
    have hf := Lib.hid (show firstBad ⟨nm, tp, ls, mu, sz, 0⟩ n = !e1 by unfold firstBad; simp only [he1]; simp)
    go_enter Tryz.func242, Tryz.ntmps242
    go_wp2_with fail
    go_ret
    exact ⟨ret_bool (by rw [hf.out]; simp), HA.out _⟩
  · have q0 : (cp == 0) = false := by rw [beq_eq_false_iff_ne]; exact p0
    have hf := Lib.hid (show firstBad ⟨nm, tp, ls, mu, sz, cp⟩ n = !(decide (0 ≤ n) && decide (n ≤ cp)) by unfold firstBad; simp only [q0]; simp; omega)
    by_cases p1 : 0 ≤ n
    · have hf2 := Lib.hid (show (!firstBad ⟨nm, tp, ls, mu, sz, cp⟩ n) = decide (n ≤ cp) by rw [hf.out]; simp [p1])
      go_enter Tryz.func242, Tryz.ntmps242
      go_wp2_with fail
      go_ret
      exact ⟨ret_bool hf2.out.symm, HA.out _⟩
    · have p1b : decide (0 ≤ n) = false := decide_eq_false p1
      have hf2 := Lib.hid (show (!firstBad ⟨nm, tp, ls, mu, sz, cp⟩ n) = false by rw [hf.out]; simp [p1])
      go_enter Tryz.func242, Tryz.ntmps242
      go_wp2_with fail
      go_ret
      exact ⟨ret_bool hf2.out.symm, HA.out _⟩

theorem asOneObj (v : Value) (W : World) : (Instr.typeAssert (.iface 131 v) 111 269 true).run Tryz.prog W = .ok (.tuple #[.agg #[.string ⟨#[]⟩, .int .i64 0, .int .i64 0, .slice none 0 0, .slice none 0 0], .bool false]) W := by kernel_rfl
theorem asOneLeaf (v : Value) (W : World) : (Instr.typeAssert (.iface 268 v) 111 269 true).run Tryz.prog W = .ok (.tuple #[.agg #[.string ⟨#[]⟩, .int .i64 0, .int .i64 0, .slice none 0 0, .slice none 0 0], .bool false]) W := by kernel_rfl
theorem asOneOne (v : Value) (W : World) : (Instr.typeAssert (.iface 269 v) 111 269 true).run Tryz.prog W = .ok (.tuple #[v, .bool true]) W := by kernel_rfl
theorem asOneNil (W : World) : (Instr.typeAssert .nilIface 111 269 true).run Tryz.prog W = .ok (.tuple #[.agg #[.string ⟨#[]⟩, .int .i64 0, .int .i64 0, .slice none 0 0, .slice none 0 0], .bool false]) W := by kernel_rfl

theorem implObjects (w : World) (B : Nat) (s : List Rw.TypeP) (fr : List FragP) (b n : Nat) (D : DataW Value) (fa : Option Addr) (fc : Nat) (nm : ByteArray) (hn : OkS nm) (hc : Chk w B s fr b n D fa) (hB : B ≤ w.heap.size) :
    Calls Tryz.prog 185 #[.agg #[.map (some b), .slice fa fr.length fc], .string nm] w fun e w' => e = .returned (.bool (compB s nm)) ∧ Below w.heap.size w w' := by
  have HA : Hid (∀ o, Below w.heap.size w (w.alloc o)) := Lib.hid fun o => (Below.refl _ _).alloc (Nat.le_refl _) o
  have hc1 := hc.next hB (HA.out (.cells #[.map (some b), .slice fa fr.length fc] 203))
  obtain ⟨lv, hrun, h1, h2⟩ := hc1.kd.look hc1.own nm hn
  cases hf : Rw.freshB nm s with
  | true =>
    obtain rfl := h1 hf
    have HC : Hid (compB s nm = false) := Lib.hid (by unfold compB; rw [Rw.typeIn_zero hf]; rfl)
    have a1 := Rw.asNil
    have a2 := asOneNil
    clear h1 h2 hc hc1 hf
    go_enter Tryz.func185, Tryz.ntmps185
    go_wp2_with fail
    go_ret
    exact ⟨ret_bool HC.out.symm, HA.out _⟩
  | false =>
    obtain ⟨hk, a, ca, c, cc, rfl, _⟩ := h2 hf
    have hkc : compB s nm = ((Rw.typeIn nm s).kind == 2 || (Rw.typeIn nm s).kind == 3) := rfl
    clear h1 h2 hc hc1 hf
    generalize (Rw.typeIn nm s).cells a ca c cc = cl at *
    generalize (Rw.typeIn nm s).kind = k at *
    generalize cl.toArray = ca at *
    rcases hk with rfl | rfl | rfl
    · have HC : Hid (compB s nm = false) := Lib.hid (by rw [hkc]; rfl)
      rw [show Rw.kindT 1 = 268 from rfl] at hrun
      have a1 := Rw.asLeaf
      have a2 := asOneLeaf
      clear hkc
      go_enter Tryz.func185, Tryz.ntmps185
      go_wp2_with fail
      go_ret
      exact ⟨ret_bool HC.out.symm, HA.out _⟩
    · have HC : Hid (compB s nm = true) := Lib.hid (by rw [hkc]; rfl)
      rw [show Rw.kindT 2 = 131 from rfl] at hrun
      have a1 := Rw.asObj
      have a2 := asOneObj
      clear hkc
      go_enter Tryz.func185, Tryz.ntmps185
      go_wp2_with fail
      go_ret
      exact ⟨ret_bool HC.out.symm, HA.out _⟩
    · have HC : Hid (compB s nm = true) := Lib.hid (by rw [hkc]; rfl)
      rw [show Rw.kindT 3 = 269 from rfl] at hrun
      have a1 := Rw.asOne
      have a2 := asOneOne
      clear hkc
      go_enter Tryz.func185, Tryz.ntmps185
      go_wp2_with fail
      go_ret
      exact ⟨ret_bool HC.out.symm, HA.out _⟩
end Go.Proofs.YtahcheahpbnkiaaGreatDoor.Selss

namespace Go.Proofs.YtahcheahpbnkiaaGreatDoor.Selss
open Go.RowKit Words Go.Maps
set_option linter.unusedVariables false
set_option maxRecDepth 100000

theorem asLfObj (v : Value) (W : World) : (Instr.typeAssert (.iface 131 v) 111 268 true).run Tryz.prog W = .ok (.tuple #[.agg #[.string ⟨#[]⟩, .int .i64 0, .int .i64 0, .slice none 0 0, .slice none 0 0], .bool false]) W := by kernel_rfl
theorem asLfLeaf (v : Value) (W : World) : (Instr.typeAssert (.iface 268 v) 111 268 true).run Tryz.prog W = .ok (.tuple #[v, .bool true]) W := by kernel_rfl
theorem asLfOne (v : Value) (W : World) : (Instr.typeAssert (.iface 269 v) 111 268 true).run Tryz.prog W = .ok (.tuple #[.agg #[.string ⟨#[]⟩, .int .i64 0, .int .i64 0, .slice none 0 0, .slice none 0 0], .bool false]) W := by kernel_rfl
theorem asLfNil (W : World) : (Instr.typeAssert .nilIface 111 268 true).run Tryz.prog W = .ok (.tuple #[.agg #[.string ⟨#[]⟩, .int .i64 0, .int .i64 0, .slice none 0 0, .slice none 0 0], .bool false]) W := by kernel_rfl
/-- What a look-up tells, asked whether it is a leaf. -/
theorem Chk.leaf {w : World} {B : Nat} {s : List Rw.TypeP} {fr : List FragP} {b n : Nat} {D : DataW Value} {fa : Option Addr} (h : Chk w B s fr b n D fa) (nm : ByteArray) (hn : OkS nm) :
    ∃ v, (Instr.lookup 107 (.map (some b)) (.string nm) false).run Tryz.prog w = .ok v w ∧ ∃ (tn : ByteArray) (tk tb : Int) (sa : Option Addr) (sl sc : Nat) (ma : Option Addr) (ml mc : Nat),
      ∀ W, (Instr.typeAssert v 111 268 true).run Tryz.prog W = .ok (.tuple #[.agg #[.string tn, .int .i64 tk, .int .i64 tb, .slice sa sl sc, .slice ma ml mc], .bool ((Rw.typeIn nm s).kind == 1)]) W := by
  obtain ⟨lv, hrun, h1, h2⟩ := h.kd.look h.own nm hn
  refine ⟨lv, hrun, ?_⟩
  cases hf : Rw.freshB nm s with
  | true =>
    obtain rfl := h1 hf
    exact ⟨_, _, _, _, _, _, _, _, _, fun W => by rw [asLfNil, Rw.typeIn_zero hf]; rfl⟩
  | false =>
    obtain ⟨hk, a, ca, c, cc, rfl, _⟩ := h2 hf
    rcases hk with hk | hk | hk
    · exact ⟨_, _, _, _, _, _, _, _, _, fun W => by rw [hk, show Rw.kindT 1 = 268 from rfl, asLfLeaf]; rfl⟩
    · exact ⟨_, _, _, _, _, _, _, _, _, fun W => by rw [hk, show Rw.kindT 2 = 131 from rfl, asLfObj]; rfl⟩
    · exact ⟨_, _, _, _, _, _, _, _, _, fun W => by rw [hk, show Rw.kindT 3 = 269 from rfl, asLfOne]; rfl⟩
theorem field_fine {s : List Rw.TypeP} (hs : Rw.schemaB s = true) {t : ByteArray} {f : Rw.FieldP} (hf : f ∈ (Rw.typeIn t s).fields) : f.ok ∧ f.tiny := by
  cases hfr : Rw.freshB t s with
  | true => rw [Rw.typeIn_zero hfr] at hf; simp [Rw.zeroType] at hf
  | false =>
    obtain ⟨h1, h2, h3⟩ := Rw.part_field (Rw.right_at hs hfr).2.1 hf
    have hw := Rw.word_small h1
    have ht : f.typ.size ≤ 8 := by
      cases hf2 : Rw.freshB f.typ s with
      | true => rw [Rw.typeIn_zero hf2] at h2; cases h2
      | false =>
        obtain ⟨a1, _, a2⟩ := Rw.right_at hs hf2
        have := (Rw.type_small a1).2
        rw [a2] at this; exact this
    refine ⟨⟨by unfold Rw.OkS; omega, by unfold Rw.OkS; omega, ?_⟩, by omega, by omega⟩
    unfold Rw.sizedB at h3
    unfold Rw.OkI
    split at h3
    · simp at h3; omega
    · simp at h3; omega
theorem field_fine0 {s : List Rw.TypeP} (hs : Rw.schemaB s = true) (t nm : ByteArray) : (Rw.fieldIn nm (Rw.typeIn t s).fields).ok := by
  rcases Rw.fieldIn_cases nm (Rw.typeIn t s).fields with h | ⟨h, _⟩
  · rw [h]; exact Rw.zeroField_ok
  · exact (field_fine hs h).1
/-- What is told of a field: its type, or what is wrong. -/
def FieldOut (r : WrP) (typ : ByteArray) (e : Ending) : Prop := (r = none ∧ e = .returned (.tuple #[.string typ, .nilIface])) ∨ (∃ (l : ErrW.Leaf) (x : ByteArray × Int), e = .returned (.tuple #[.string ⟨#[]⟩, .iface l.typ l.pay]) ∧ r = some x ∧ LeafFor x l)
theorem FieldOut.none (typ t : ByteArray) : FieldOut (some (t, 6)) typ (.returned (.tuple #[.string ⟨#[]⟩, .iface 193 (.string t)])) := .inr ⟨.none t, _, rfl, rfl, .inl ⟨rfl, rfl⟩⟩
theorem FieldOut.range (typ t : ByteArray) : FieldOut (some (t, 8)) typ (.returned (.tuple #[.string ⟨#[]⟩, .iface 195 (.string t)])) := .inr ⟨.range t, _, rfl, rfl, .inr (.inr (.inl ⟨rfl, rfl⟩))⟩
theorem FieldOut.state (typ t : ByteArray) : FieldOut (some (t, 10)) typ (.returned (.tuple #[.string ⟨#[]⟩, .iface 196 (.string t)])) := .inr ⟨.state t, _, rfl, rfl, .inr (.inr (.inr ⟨rfl, rfl⟩))⟩
theorem blk2 {w : World} {g : Nat} {o : Obj} (h : w.heap[g]? = some o) (o1 o2 : Obj) : (w.alloc o1).heap[g]? = some o ∧ ((w.alloc o1).alloc o2).heap[g]? = some o := by
  have hl := Rw.lt_of_get h
  have h1 := (Go.Deep.blk_alloc_lt w o1 g hl).trans h
  exact ⟨h1, (Go.Deep.blk_alloc_lt _ o2 g (Rw.lt_of_get h1)).trans h1⟩

set_option maxHeartbeats 4000000 in
theorem implVField (w : World) (B : Nat) (s : List Rw.TypeP) (fr : List FragP) (b n' : Nat) (D : DataW Value) (fa : Option Addr) (fc : Nat) (k : Int) (key nm : ByteArray) (n : Int) (u : Sels) (ua : Option Addr) (ucap : Nat) (t : ByteArray)
    (hs : Rw.schemaB s = true) (ht : compB s t = true) (htk : OkS t) (hok : OkI k ∧ OkS key ∧ OkS nm ∧ OkI n) (hul : u.len ≤ 9223372036854775807) (hc : Chk w B s fr b n' D fa) (hB : B ≤ w.heap.size) :
    Calls Tryz.prog 224 #[.agg #[.map (some b), .slice fa fr.length fc], .agg #[.int .i64 k, .string key, .string nm, .int .i64 n, .slice ua u.len ucap], .string t] w fun e w' =>
      FieldOut (fieldW s key nm n u (Rw.fieldIn nm (Rw.typeIn t s).fields)) (Rw.fieldIn nm (Rw.typeIn t s).fields).typ e ∧ Below w.heap.size w w' := by
  have HA : Hid (∀ o1 o2, Below w.heap.size w ((w.alloc o1).alloc o2)) := Lib.hid fun o1 o2 => ((Below.refl _ _).alloc (Nat.le_refl _) o1).alloc (by simp) o2
  have HC := Lib.hid hc
  have HC0 : Hid (∀ o1 o2, Chk ((w.alloc o1).alloc o2) B s fr b n' D fa) := Lib.hid fun o1 o2 => hc.next hB (HA.out o1 o2)
  have hfr := comp_there ht
  have hpt := (Rw.right_at hs hfr).2.1
  obtain ⟨lv, hrun, _, h2⟩ := (HC0.out (.cells #[.map (some b), .slice fa fr.length fc] 203) (.cells #[.int .i64 k, .string key, .string nm, .int .i64 n, .slice ua u.len ucap] 146)).kd.look (HC0.out _ _).own t htk
  obtain ⟨hk3, ka, kca, kc, kcc, rfl, hkt⟩ := h2 hfr
  have hfine : ∀ f ∈ (Rw.typeIn t s).fields, f.tiny := fun f hf => (field_fine hs hf).2
  have hfo := field_fine0 hs t nm
  have hcap := cap_ge hs t nm
  have hthere := @field_there s hs t nm
  have hk2 : (Rw.typeIn t s).kind = 2 ∨ (Rw.typeIn t s).kind = 3 := by
    rcases hk3 with h | h
    · unfold compB at ht; rw [h] at ht; cases ht
    · exact h
  have CF : Hid (((Rw.typeIn t s).kind = 2 → Calls Tryz.prog 293 #[.agg ((Rw.typeIn t s).cells ka kca kc kcc).toArray, .string nm] ((w.alloc (.cells #[.map (some b), .slice fa fr.length fc] 203)).alloc (.cells #[.int .i64 k, .string key, .string nm, .int .i64 n, .slice ua u.len ucap] 146)) fun e w'' => e = .returned (.agg (Rw.fieldIn nm (Rw.typeIn t s).fields).cells.toArray) ∧ Below ((w.alloc (.cells #[.map (some b), .slice fa fr.length fc] 203)).alloc (.cells #[.int .i64 k, .string key, .string nm, .int .i64 n, .slice ua u.len ucap] 146)).heap.size ((w.alloc (.cells #[.map (some b), .slice fa fr.length fc] 203)).alloc (.cells #[.int .i64 k, .string key, .string nm, .int .i64 n, .slice ua u.len ucap] 146)) w'') ∧
      ((Rw.typeIn t s).kind = 3 → Calls Tryz.prog 323 #[.agg ((Rw.typeIn t s).cells ka kca kc kcc).toArray, .string nm] ((w.alloc (.cells #[.map (some b), .slice fa fr.length fc] 203)).alloc (.cells #[.int .i64 k, .string key, .string nm, .int .i64 n, .slice ua u.len ucap] 146)) fun e w'' => e = .returned (.agg (Rw.fieldIn nm (Rw.typeIn t s).fields).cells.toArray) ∧ Below ((w.alloc (.cells #[.map (some b), .slice fa fr.length fc] 203)).alloc (.cells #[.int .i64 k, .string key, .string nm, .int .i64 n, .slice ua u.len ucap] 146)).heap.size ((w.alloc (.cells #[.map (some b), .slice fa fr.length fc] 203)).alloc (.cells #[.int .i64 k, .string key, .string nm, .int .i64 n, .slice ua u.len ucap] 146)) w'')) := Lib.hid (by
    refine ⟨fun h => Rw.fieldM2 _ 0 B _ ka kca kc kcc nm hok.2.2.1 hkt (Nat.le_trans hB (HA.out _ _).size) hfine, fun h => ?_⟩
    rw [Rw.part_fields hpt (by omega)]
    exact Rw.fieldM3 _ .nilIface _ ka kca kc kcc nm)
  have m2 := Rw.mField2
  have m3 := Rw.mField3
  obtain ⟨f, hf⟩ : ∃ f, Rw.fieldIn nm (Rw.typeIn t s).fields = f := ⟨_, rfl⟩
  rw [hf] at CF hfo hcap hthere ⊢
  obtain ⟨yv, hyv⟩ : ∃ yv, Value.agg ((Rw.typeIn t s).cells ka kca kc kcc).toArray = yv := ⟨_, rfl⟩
  rw [hyv] at hrun CF
  generalize (Rw.typeIn t s).kind = kk at *
  clear hyv hkt h2 hk3 hfr hpt hfine hf ht hc htk
  have HFO := Lib.hid hfo
  have CR : Hid (∀ w', Calls Tryz.prog 242 #[.agg f.cells.toArray, .int .i64 n] w' fun e w'' => e = .returned (.bool (!firstBad f n)) ∧ Below w'.heap.size w' w'') := Lib.hid fun w' => implFirstRight w' f n HFO.out hok.2.2.2 hcap
  have hft : OkS f.typ := HFO.out.2.1
  have HFT := Lib.hid hft
  have HTH := Lib.hid hthere
  have HW : Hid ((f.name = ⟨#[]⟩ → fieldW s key nm n u f = some (nm, 6)) ∧ (f.name ≠ ⟨#[]⟩ → firstBad f n = true → fieldW s key nm n u f = some (key, 8)) ∧ (f.name ≠ ⟨#[]⟩ → firstBad f n = false → ((Rw.typeIn f.typ s).kind == 1) = decide (0 < u.len) → fieldW s key nm n u f = some (key, 10)) ∧ (f.name ≠ ⟨#[]⟩ → firstBad f n = false → ¬ ((Rw.typeIn f.typ s).kind == 1) = decide (0 < u.len) → fieldW s key nm n u f = none)) :=
    Lib.hid ⟨fieldW_none, fieldW_range, fieldW_state, fieldW_yes⟩
  clear hthere hfo hft hcap
  obtain ⟨fb, hfb⟩ : ∃ p, firstBad f n = p := ⟨_, rfl⟩
  rw [hfb] at CR HW
  clear hfb
  generalize fieldW s key nm n u f = fw at *
  obtain ⟨fn, ft, fl, fm, fs, fcp⟩ := f
  simp only [Rw.FieldP.cells] at CF CR HW HFT HTH ⊢
  rcases hk2 with rfl | rfl
  case' inl =>
    rw [show Rw.kindT 2 = 131 from rfl] at hrun
    have C := Lib.hid (CF.out.1 rfl)
    clear CF
    go_enter Tryz.func224, Tryz.ntmps224
    go_wp2_with fail
    refine C.out.mono ?_
  case' inr =>
    rw [show Rw.kindT 3 = 269 from rfl] at hrun
    have C := Lib.hid (CF.out.2 rfl)
    clear CF
    go_enter Tryz.func224, Tryz.ntmps224
    go_wp2_with fail
    refine C.out.mono ?_
  all_goals
  rintro e w1 ⟨rfl, hb1⟩
  have HB1 := Lib.hid ((HA.out _ _).trans (hb1.mono (HA.out _ _).size))
  obtain ⟨hk1, hs1⟩ := Rw.kept2z hb1
  have ⟨k0, k1⟩ := blk2 hk1 (.cells #[.string fn, .string ft, .bool fl, .bool fm, .int .i64 fs, .int .i64 fcp] 67) (.cells #[.string fn, .string ft, .bool fl, .bool fm, .int .i64 fs, .int .i64 fcp] 67)
  have HK1 := Lib.hid hk1
  have HS1 := Lib.hid hs1
  have HC1 := Lib.hid (HC.out.next hB (HB1.out.alloc HB1.out.size (.cells #[.string fn, .string ft, .bool fl, .bool fm, .int .i64 fs, .int .i64 fcp] 67)))
  obtain ⟨lv2, hrun2, tn, tk, tb, sa, sl, sc, ma, ml, mc, has⟩ := HC1.out.leaf ft HFT.out
  obtain ⟨lf, hlf⟩ : ∃ p, ((Rw.typeIn ft s).kind == 1) = p := ⟨_, rfl⟩
  rw [hlf] at has HW
  clear hlf hb1 hk1 hs1 k0 k1
  have hk1 := (blk2 HK1.out (.cells #[.string fn, .string ft, .bool fl, .bool fm, .int .i64 fs, .int .i64 fcp] 67) (.cells #[.string tn, .int .i64 tk, .int .i64 tb, .slice sa sl sc, .slice ma ml mc] 268))
  have hs1 := (blk2 HS1.out (.cells #[.string fn, .string ft, .bool fl, .bool fm, .int .i64 fs, .int .i64 fcp] 67) (.cells #[.string tn, .int .i64 tk, .int .i64 tb, .slice sa sl sc, .slice ma ml mc] 268))
  have hz1 := Rw.lt_of_get HS1.out
  have ⟨⟨a0, a1⟩, _⟩ := Rw.keep2 hk1.1
  have ⟨⟨b0, b1⟩, _⟩ := Rw.keep2 hk1.2
  have ⟨⟨c0, c1, c2, c3, c4⟩, _⟩ := Rw.keep5 hs1.2
  have HBL : Hid (∀ o1 o2, Below w.heap.size w ((w1.alloc o1).alloc o2)) := Lib.hid fun o1 o2 => (HB1.out.alloc HB1.out.size o1).alloc (by have := HB1.out.size; simp; omega) o2
  have HS2 := Lib.hid hs1.2
  have HF2 : Hid (((w1.alloc (.cells #[.string fn, .string ft, .bool fl, .bool fm, .int .i64 fs, .int .i64 fcp] 67)).alloc (.cells #[.string tn, .int .i64 tk, .int .i64 tb, .slice sa sl sc, .slice ma ml mc] 268)).heap[w1.heap.size]? = some (.cells #[.string fn, .string ft, .bool fl, .bool fm, .int .i64 fs, .int .i64 fcp] 67 (0, 0))) := Lib.hid (by rw [Go.Deep.blk_alloc_lt _ _ _ (by simp)]; exact heap_alloc_new w1 _)
  clear hk1 hs1
  by_cases hfn : fn = ⟨#[]⟩
  · have hfw := HW.out.1 hfn
    subst hfn
    subst hfw
    go_wp2_with fail
    go_region
    all_goals
      go_wp2_with fail
      go_ret2
      exact ⟨FieldOut.none _ _, (HBL.out _ _).drew⟩
  · have hne := emptyNo hfn
    have hne2 := beq_eq_false_iff_ne.2 (show fn.toList ≠ [] from fun h => by rw [h] at hne; cases hne)
    have HFN := Lib.hid hfn
    clear hfn
    go_wp2_with fail
    refine (CR.out _).mono ?_
    rintro e w3 ⟨rfl, hb3⟩
    have HB3 := Lib.hid ((HBL.out _ _).trans (hb3.mono (HBL.out _ _).size))
    have hs3 := (hb3.block (w.heap.size + 1) (Rw.lt_of_get HS2.out)).trans HS2.out
    have hf3 := (hb3.block w1.heap.size (Rw.lt_of_get HF2.out)).trans HF2.out
    clear hb3 c0 c1 c2 c3 c4 a0 a1 b0 b1
    have ⟨⟨c0, c1, c2, c3, c4⟩, _⟩ := Rw.keep5 hs3
    have ⟨⟨x0, x1, x2, x3, x4, x5⟩, _⟩ := Rw.keep6 hf3
    clear hs3 hf3
    cases fb
    · by_cases hu : 0 < u.len
      · have hu2 : (0 : Int) < (u.len : Int) := by omega
        have hu3 : decide (0 < u.len) = true := by simp; omega
        cases lf
        · have hfw := HW.out.2.2.2 HFN.out rfl (by rw [hu3]; simp)
          subst hfw
          clear hu3 HW
          go_wp2_with fail
          go_ret2
          exact ⟨.inl ⟨rfl, rfl⟩, HB3.out⟩
        · have hfw := HW.out.2.2.1 HFN.out rfl (by rw [hu3])
          subst hfw
          clear hu3 HW
          go_wp2_with fail
          go_region
          all_goals
            go_wp2_with fail
            go_ret2
            exact ⟨FieldOut.state _ _, HB3.out.drew⟩
      · have hu2 : ¬ (0 : Int) < (u.len : Int) := by omega
        have hu3 : decide (0 < u.len) = false := by simp; omega
        cases lf
        · have hfw := HW.out.2.2.1 HFN.out rfl (by rw [hu3])
          subst hfw
          clear hu3 HW
          go_wp2_with fail
          go_region
          all_goals
            go_wp2_with fail
            go_ret2
            exact ⟨FieldOut.state _ _, HB3.out.drew⟩
        · have hfw := HW.out.2.2.2 HFN.out rfl (by rw [hu3]; simp)
          subst hfw
          clear hu3 HW
          go_wp2_with fail
          go_ret2
          exact ⟨.inl ⟨rfl, rfl⟩, HB3.out⟩
    · have hfw := HW.out.2.1 HFN.out rfl
      subst hfw
      clear HW
      go_wp2_with fail
      go_region
      all_goals
        go_wp2_with fail
        go_ret2
        exact ⟨FieldOut.range _ _, HB3.out.drew⟩
end Go.Proofs.YtahcheahpbnkiaaGreatDoor.Selss
