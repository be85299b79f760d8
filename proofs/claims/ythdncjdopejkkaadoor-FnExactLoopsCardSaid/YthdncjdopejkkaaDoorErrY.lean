/-
  Contracts: errors.As, errors.Is at the types of what is wrong. Condition: the library's variable errors.errorType holds the handle of the type error.
-/
import Derived.Test.YthdncjdopejkkaaDoorRows
import Derived.Test.YthdncjdopejkkaaDoorErrX
namespace Go.Proofs.YthdncjdopejkkaaDoor.ErrW
open Go.RowKit Go.Extern.Stop Go.Stop Go.Extern
set_option linter.unusedVariables false
set_option maxRecDepth 100000

theorem asNil (x : Value) (w : World) :
    Calls Tryd.prog 35 #[.nilIface, x] w fun e w' => e = .returned (.bool false) ∧ w = w' := by
  go_enter Tryd.func35, Tryd.ntmps35
  go_wp2
  go_ret
  exact ⟨rfl, rfl⟩

set_option maxHeartbeats 4000000 in
theorem asErr {T : TypeId} (hT : Wrong T) (e : ErrP) (tb : Nat) (w : World) (hg : ErrVar w) (ht : w.heap[tb]? = some (.cells #[.string ⟨#[]⟩] T (0, 0))) :
    Calls Tryd.prog 35 #[e.val, .iface (pT T) (.pointer (some ⟨tb, 0, none⟩))] w
      fun en w' => en = .returned (.bool (decide (e.last.typ = T))) ∧ Rw.Within tb (tb + 1) w w' ∧ w'.heap[tb]? = some (.cells #[.string (if e.last.typ = T then e.last.txt else ⟨#[]⟩)] T (0, 0)) := by
  have x1 := @run_callFunc_extern Tryd.prog 48 _ (fun args => ReflectliteValue.unpack (args.getD 0 (.tuple #[]))) Tryd.func48 (by kernel_rfl) (by kernel_rfl) (by kernel_rfl) (by kernel_rfl)
  have x2 := @run_callFunc_extern Tryd.prog 49 _ (ReflectliteValue.methodAny (ReflectliteValue.valueError "reflectlite.Value.Type" 0) (fun t _ _ _ => ReflectliteType.toType t)) Tryd.func49 (by kernel_rfl) (by kernel_rfl) (by kernel_rfl) (by kernel_rfl)
  have x3 := @run_callFunc_extern Tryd.prog 50 _ (ReflectliteValue.method (ReflectliteValue.valueError "reflectlite.Value.IsNil" 0) ReflectliteValue.isNil) Tryd.func50 (by kernel_rfl) (by kernel_rfl) (by kernel_rfl) (by kernel_rfl)
  have x4 := @run_callFunc_extern Tryd.prog 83 _ (ReflectliteType.abiMethod fun t => do pure (.int .u8 (← Rtype.kind t))) Tryd.func83 (by kernel_rfl) (by kernel_rfl) (by kernel_rfl) (by kernel_rfl)
  have x5 := @run_callFunc_extern Tryd.prog 99 _ (ReflectliteType.method ReflectliteType.elem) Tryd.func99 (by kernel_rfl) (by kernel_rfl) (by kernel_rfl) (by kernel_rfl)
  have x6 := @run_callFunc_extern Tryd.prog 100 _ (ReflectliteType.relation "Implements" ReflectliteType.implements_) Tryd.func100 (by kernel_rfl) (by kernel_rfl) (by kernel_rfl) (by kernel_rfl)
  have y5 := fun t w => valueOfP hT t w
  have y6 := fun a w => typeP hT a w
  have y7 := mKind
  have y8 := mElem
  have y9 := mImplements
  have z1 := fun w => kindP hT w
  have z2 := fun w => kindS hT w
  have z3 := fun w => elemP hT w
  have z4 := fun w => implementsS hT w
  have z5 := isNilP hT ⟨w.heap.size, 0, none⟩ ⟨tb, 0, none⟩ ((w.alloc (.cells #[.pointer (some ⟨tb, 0, none⟩)] (pT T))).alloc (.cells #[.pointer (some ⟨1, pT T, none⟩), .pointer (some ⟨w.heap.size, 0, none⟩), .int .u64 150] 101)) (by simp)
  have hlt := hg.lt
  have hg2 : ((w.alloc (.cells #[.pointer (some ⟨tb, 0, none⟩)] (pT T))).alloc (.cells #[.pointer (some ⟨1, pT T, none⟩), .pointer (some ⟨w.heap.size, 0, none⟩), .int .u64 150] 101)).cell? ⟨0, 0, none⟩ = some (.iface 122 (.agg #[.pointer (some ⟨1, 44, none⟩)])) := by
    rw [World.cell?_alloc_lt _ _ ⟨0, 0, none⟩ (by simp <;> omega), World.cell?_alloc_lt _ _ ⟨0, 0, none⟩ hlt]; exact hg
  have htl := Rw.lt_of_get ht
  have HL := Lib.hid (asLoop hT e tb w.heap.size ((w.alloc (.cells #[.pointer (some ⟨tb, 0, none⟩)] (pT T))).alloc (.cells #[.pointer (some ⟨1, pT T, none⟩), .pointer (some ⟨w.heap.size, 0, none⟩), .int .u64 150] 101)) (by simp) (by rw [Go.Deep.blk_alloc_lt _ _ _ (by simp; omega), Go.Deep.blk_alloc_lt _ _ _ htl]; exact ht))
  have HWI : Hid (Rw.Within tb (tb + 1) w ((w.alloc (.cells #[.pointer (some ⟨tb, 0, none⟩)] (pT T))).alloc (.cells #[.pointer (some ⟨1, pT T, none⟩), .pointer (some ⟨w.heap.size, 0, none⟩), .int .u64 150] 101))) := Lib.hid (Rw.Within.of_below (((Below.refl _ _).alloc (Nat.le_refl _) _).alloc (by simp) _))
  obtain ⟨ev, hev⟩ : ∃ ev, e.val = ev := ⟨_, rfl⟩
  have q1 : ∀ w, (binOp .eql 44 ev .nilIface).run Tryd.prog w = .ok (.bool false) w := fun w => by rw [← hev]; exact neNil e w
  have q2 : ∀ o1 o2 w, (eqGuard .eql 44 o1 o2 ev .nilIface).run Tryd.prog w = .ok () w := fun o1 o2 w => by rw [← hev]; exact neNilG e o1 o2 w
  rw [hev] at HL
  rw [hev]
  generalize decide (e.last.typ = T) = db at *
  generalize (if e.last.typ = T then e.last.txt else (⟨#[]⟩ : ByteArray)) = tx at *
  clear hev hg ht
  go_enter Tryd.func35, Tryd.ntmps35
  go_wp2_with fail
  refine HL.out.mono ?_
  rintro en w1 ⟨rfl, hw1, ht1⟩
  have HW1 := Lib.hid (HWI.out.trans hw1)
  have HT1 := Lib.hid ht1
  clear hw1 ht1
  go_wp2_with fail
  go_ret
  exact ⟨rfl, HW1.out, HT1.out⟩

/-! ### errors.Is of a fault of form -/
theorem isNil (w : World) :
    Calls Tryd.prog 36 #[.nilIface, .iface 80 (.agg #[.int .i64 1])] w fun e w' => e = .returned (.bool false) ∧ w = w' := by
  have y1 : ∀ w, (binOp .eql 44 .nilIface (.iface 80 (.agg #[.int .i64 1]))).run Tryd.prog w = .ok (.bool false) w := fun w => by rfl
  go_enter Tryd.func36, Tryd.ntmps36
  go_wp2_with fail
  go_ret
  exact ⟨rfl, rfl⟩
theorem comparable (w : World) : (ReflectliteType.method (fun t => do Rtype.noPackHeld "Comparable" t; Functor.map (fun a => Value.bool a.comparable) (typeInfo t)) #[.agg #[.pointer (some ⟨1, 80, none⟩)]]).run Tryd.prog w = .ok (.bool true) w := by kernel_rfl
theorem eqForm (w : World) : (binOp .eql 44 (.iface 80 (.agg #[.int .i64 1])) (.iface 80 (.agg #[.int .i64 1]))).run Tryd.prog w = .ok (.bool true) w := by kernel_rfl
theorem eqFormG (o1 o2 : Operand) (w : World) : (eqGuard .eql 44 o1 o2 (.iface 80 (.agg #[.int .i64 1])) (.iface 80 (.agg #[.int .i64 1]))).run Tryd.prog w = .ok () w := by rfl
theorem isForm (w : World) :
    Calls Tryd.prog 36 #[.iface 80 (.agg #[.int .i64 1]), .iface 80 (.agg #[.int .i64 1])] w fun e w' => e = .returned (.bool true) ∧ w = w' := by
  have x7 := @run_callFunc_extern Tryd.prog 52 _ (ReflectliteType.typeOf) Tryd.func52 (by kernel_rfl) (by kernel_rfl) (by kernel_rfl) (by kernel_rfl)
  have x8 := @run_callFunc_extern Tryd.prog 98 _ (ReflectliteType.method (fun t => do Rtype.noPackHeld "Comparable" t; pure (.bool (← typeInfo t).comparable))) Tryd.func98 (by kernel_rfl) (by kernel_rfl) (by kernel_rfl) (by kernel_rfl)
  have y0 := fun v w => typeOfS (E := 80) (.inl rfl) v w
  have y1 := comparable
  have y2 := mComparable
  have y3 := eqForm
  have y4 := eqFormG
  go_enter Tryd.func36, Tryd.ntmps36
  go_wp2
  refine wp_loop_rounds 1 ?_
  rw [rounds_succ]
  go_wp2
  go_ret
  exact ⟨rfl, rfl⟩
end Go.Proofs.YthdncjdopejkkaaDoor.ErrW
