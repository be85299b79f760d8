/-
  Contracts: errors.as, errors.As at the types of what is wrong. Condition: the library's variable errors.errorType holds the handle of the type error.
-/
import Derived.Test.YthdncjdopejkkaaDoorRows
import Derived.Test.YthdncjdopejkkaaDoorErrW
namespace Go.Proofs.YthdncjdopejkkaaDoor.ErrW
open Go.RowKit Go.Extern.Stop Go.Stop Go.Extern
set_option linter.unusedVariables false
set_option maxRecDepth 100000

theorem keep3 {w1 : World} {g : Nat} {v0 v1 v2 : Value} {T : TypeId} (h1 : w1.heap[g]? = some (.cells #[v0, v1, v2] T (0, 0))) :
    (w1.cell? ⟨g, 0, none⟩ = some v0 ∧ w1.cell? ⟨g, 1, none⟩ = some v1 ∧ w1.cell? ⟨g, 2, none⟩ = some v2) ∧ (w1.frozen? ⟨g, 0, none⟩ = false ∧ w1.frozen? ⟨g, 1, none⟩ = false ∧ w1.frozen? ⟨g, 2, none⟩ = false) := by
  simp [World.cell?, World.frozen?, h1]
theorem keep1 {w1 : World} {g : Nat} {v0 : Value} {T : TypeId} (h1 : w1.heap[g]? = some (.cells #[v0] T (0, 0))) : w1.cell? ⟨g, 0, none⟩ = some v0 ∧ w1.frozen? ⟨g, 0, none⟩ = false := by
  simp [World.cell?, World.frozen?, h1]
theorem sizeOf_stand (i : ByteArray) (e : ErrP) : SizeOf.sizeOf e.val < SizeOf.sizeOf (ErrP.stand i e).val := by
  simp only [ErrP.val, Value.iface.sizeOf_spec, Value.agg.sizeOf_spec, Array.mk.sizeOf_spec, List.cons.sizeOf_spec, List.nil.sizeOf_spec]; omega
theorem unwrap (i : ByteArray) (e : ErrP) (w : World) : Calls Tryd.prog 92 #[.agg #[.string i, e.val]] w fun en w' => en = .returned e.val ∧ Below w.heap.size w w' := by
  go_enter Tryd.func92, Tryd.ntmps92
  go_wp2_with fail
  go_ret
  exact ⟨rfl, (Below.refl _ _).alloc (Nat.le_refl _) _⟩

theorem neNil (e : ErrP) (w : World) : (binOp .eql 44 e.val .nilIface).run Tryd.prog w = .ok (.bool false) w := by cases e <;> rfl

theorem neNilG (e : ErrP) (o1 o2 : Operand) (w : World) : (eqGuard .eql 44 o1 o2 e.val .nilIface).run Tryd.prog w = .ok () w := by cases e <;> rfl

set_option maxHeartbeats 4000000 in
theorem asLoop {T : TypeId} (hT : Wrong T) (e : ErrP) (tb pb : Nat) (w : World) (hp : w.cell? ⟨pb, 0, none⟩ = some (.pointer (some ⟨tb, 0, none⟩))) (ht : w.heap[tb]? = some (.cells #[.string ⟨#[]⟩] T (0, 0))) :
    Calls Tryd.prog 51 #[e.val, .iface (pT T) (.pointer (some ⟨tb, 0, none⟩)), .agg #[.pointer (some ⟨1, pT T, none⟩), .pointer (some ⟨pb, 0, none⟩), .int .u64 150], .iface 122 (.agg #[.pointer (some ⟨1, T, none⟩)])] w
      fun en w' => en = .returned (.bool (decide (e.last.typ = T))) ∧ Rw.Within tb (tb + 1) w w' ∧ w'.heap[tb]? = some (.cells #[.string (if e.last.typ = T then e.last.txt else ⟨#[]⟩)] T (0, 0)) := by
  have x1 := @run_callFunc_extern Tryd.prog 48 _ (fun args => ReflectliteValue.unpack (args.getD 0 (.tuple #[]))) Tryd.func48 (by kernel_rfl) (by kernel_rfl) (by kernel_rfl) (by kernel_rfl)
  have x7 := @run_callFunc_extern Tryd.prog 52 _ (ReflectliteType.typeOf) Tryd.func52 (by kernel_rfl) (by kernel_rfl) (by kernel_rfl) (by kernel_rfl)
  have x8 := @run_callFunc_extern Tryd.prog 97 _ (ReflectliteType.relation "AssignableTo" ReflectliteType.assignableTo) Tryd.func97 (by kernel_rfl) (by kernel_rfl) (by kernel_rfl) (by kernel_rfl)
  have x9 := @run_callFunc_extern Tryd.prog 60 _ (ReflectliteValue.method (ReflectliteValue.valueError "reflectlite.Value.Elem" 0) ReflectliteValue.elem) Tryd.func60 (by kernel_rfl) (by kernel_rfl) (by kernel_rfl) (by kernel_rfl)
  have x0 := @run_callFunc_extern Tryd.prog 61 _ (ReflectliteValue.set) Tryd.func61 (by kernel_rfl) (by kernel_rfl) (by kernel_rfl) (by kernel_rfl)
  have y2 := mAssignableTo
  have hpl := Rw.lt_of_cell hp
  have htl := Rw.lt_of_get ht
  have HP := Lib.hid hp
  have HTB := Lib.hid ht
  clear hp ht
  have HB0 : Hid (Below w.heap.size w (w.alloc (.cells #[.pointer (some ⟨1, pT T, none⟩), .pointer (some ⟨pb, 0, none⟩), .int .u64 150] 101))) := Lib.hid ((Below.refl _ _).alloc (Nat.le_refl _) _)
  have HK0 := Lib.hid (heap_alloc_new w (.cells #[.pointer (some ⟨1, pT T, none⟩), .pointer (some ⟨pb, 0, none⟩), .int .u64 150] 101))
  go_enter Tryd.func51, Tryd.ntmps51
  go_wp2_with fail
  go_loopw [0] (fun v wr => ∃ (e' : ErrP), v = e'.val ∧ Hid (e'.last = e.last) ∧ wr.heap[w.heap.size]? = some (.cells #[.pointer (some ⟨1, pT T, none⟩), .pointer (some ⟨pb, 0, none⟩), .int .u64 150] 101 (0, 0)) ∧ Below w.heap.size w wr) (fun v _ => SizeOf.sizeOf v)
  case atStart => exact ⟨e, rfl, Lib.hid rfl, HK0.out, HB0.out⟩
  case round =>
    obtain ⟨e', rfl, hl, hk, hb⟩ := hrel
    have HB := Lib.hid hb
    have hkl := Rw.lt_of_get hk
    have HK := Lib.hid hk
    cases e' with
    | leaf l =>
      have hE := l.errs
      have y1 := fun v w => typeOfS hE v w
      have y3 := fun w => assignS hT hE w
      have y4 := fun v xT w => noAs hE v xT w
      have y5 := fun v xT w => noUnwrap hE v xT w
      have y6 := fun v xT w => noUnwraps hE v xT w
      have ⟨⟨c0, c1, c2⟩, _⟩ := keep3 hk
      by_cases hlT : l.typ = T
      · have HL : Hid (e.last.typ = T) := Lib.hid (by rw [← hl.out]; exact hlT)
        have HLS : Hid (l.pay = .string l.txt ∧ e.last.txt = l.txt) := Lib.hid ⟨by cases l <;> first | rfl | (exfalso; rcases hT with rfl | rfl | rfl | rfl <;> exact absurd hlT (by decide)), by rw [← hl.out]; rfl⟩
        have y3' : ∀ w, (ReflectliteType.relation "AssignableTo" ReflectliteType.assignableTo #[.agg #[.pointer (some ⟨1, T, none⟩)], .iface 122 (.agg #[.pointer (some ⟨1, T, none⟩)])]).run Tryd.prog w = .ok (.bool true) w := fun w => by
          have := y3 w; rw [hlT, decide_eq_true rfl] at this; exact this
        have y1' : ∀ v w, (ReflectliteType.typeOf #[.iface T v]).run Tryd.prog w = .ok (.iface 122 (.agg #[.pointer (some ⟨1, T, none⟩)])) w := fun v w => by have := y1 v w; rw [hlT] at this; exact this
        have HV : (ErrP.leaf l).val = .iface T (.string l.txt) := by show Value.iface l.typ l.pay = _; rw [hlT, HLS.out.1]
        rw [HV]
        have y7 := fun s w => valueOfS hT s w
        have hpw : wr.cell? ⟨pb, 0, none⟩ = some (.pointer (some ⟨tb, 0, none⟩)) := (hb.cell (p := ⟨pb, 0, none⟩) hpl).trans HP.out
        have htw : wr.heap[tb]? = some (.cells #[.string ⟨#[]⟩] T (0, 0)) := (hb.block tb htl).trans HTB.out
        have y8 := elemV hT ⟨pb, 0, none⟩ ⟨tb, 0, none⟩ wr hpw
        have htl2 : tb < wr.heap.size := Rw.lt_of_get htw
        have hta : (wr.alloc (.cells #[.string l.txt] T)).heap[tb]? = some (.cells #[.string ⟨#[]⟩] T (0, 0)) := (Go.Deep.blk_alloc_lt wr _ tb htl2).trans htw
        have ⟨t0, t1⟩ := keep1 hta
        have y9 := setS hT ⟨tb, 0, none⟩ ⟨wr.heap.size, 0, none⟩ l.txt _ (wr.alloc (.cells #[.string l.txt] T)) (by simp) t0 t1
        have HWI : Hid (Rw.Within tb (tb + 1) w ((wr.setCell ⟨tb, 0, none⟩ (.string l.txt)).alloc (.cells #[.string l.txt] T))) := Lib.hid (((Rw.Within.of_below HB.out).set (p := ⟨tb, 0, none⟩) (Nat.le_refl _) (Nat.lt_succ_self _) _).trans (Rw.Within.of_below ((Below.refl _ _).alloc (Nat.le_refl _) _)))
        have HTF : Hid (((wr.setCell ⟨tb, 0, none⟩ (.string l.txt)).alloc (.cells #[.string l.txt] T)).heap[tb]? = some (.cells #[.string l.txt] T (0, 0))) := Lib.hid (by
          rw [Go.Deep.blk_alloc_lt _ _ tb (by simpa using htl2)]
          have := heap_setCell_same wr tb 0 _ _ (.string l.txt) htw
          simpa using this)
        generalize l.txt = tx at *
        clear y1 y3 y4 y5 y6 hlT HV hpw htw hta t0 t1 hb hk
        go_wp2_with fail
        go_ret
        exact ⟨by first | rfl | (rw [decide_eq_true HL.out]; rfl), HWI.out, by first | (rw [HLS.out.2]; exact HTF.out) | (rw [if_pos HL.out, HLS.out.2]; exact HTF.out)⟩
      · have HL : Hid (¬ e.last.typ = T) := Lib.hid (by rw [← hl.out]; exact hlT)
        have y3' : ∀ w, (ReflectliteType.relation "AssignableTo" ReflectliteType.assignableTo #[.agg #[.pointer (some ⟨1, l.typ, none⟩)], .iface 122 (.agg #[.pointer (some ⟨1, T, none⟩)])]).run Tryd.prog w = .ok (.bool false) w := fun w => by
          have := y3 w; rw [decide_eq_false hlT] at this; exact this
        have HT2 : Hid (wr.heap[tb]? = some (.cells #[.string ⟨#[]⟩] T (0, 0))) := Lib.hid ((hb.block tb htl).trans HTB.out)
        simp only [ErrP.val]
        generalize l.typ = E at *
        generalize l.pay = V at *
        clear y3 hlT hb hk
        go_wp2_with fail
        go_ret
        exact ⟨by first | rfl | (rw [decide_eq_false HL.out]; rfl), Rw.Within.of_below HB.out, by first | exact HT2.out | (rw [if_neg HL.out]; exact HT2.out)⟩
    | stand i e' =>
      have y1 := typeOfQ
      have y3 := fun w => assignQ hT w
      have y4 := noAsQ
      have y5 := hasUnwrap
      have y6 := mUnwrap
      have HS := Lib.hid (sizeOf_stand i e')
      have HL : Hid (e'.last = e.last) := Lib.hid hl.out
      have HV := Lib.hid (show (ErrP.stand i e').val = .iface 94 (.agg #[.string i, e'.val]) from rfl)
      simp only [ErrP.val]
      simp only [ErrP.val] at HS
      obtain ⟨ev, hev⟩ : ∃ ev, e'.val = ev := ⟨_, rfl⟩
      have HEV := Lib.hid hev
      have CU : Hid (∀ w, Calls Tryd.prog 92 #[.agg #[.string i, ev]] w fun en w' => en = .returned ev ∧ Below w.heap.size w w') := Lib.hid fun w => by rw [← hev]; exact unwrap i e' w
      have y7 : ∀ w, (binOp .eql 44 ev .nilIface).run Tryd.prog w = .ok (.bool false) w := fun w => by rw [← hev]; exact neNil e' w
      have y8 : ∀ o1 o2 w, (eqGuard .eql 44 o1 o2 ev .nilIface).run Tryd.prog w = .ok () w := fun o1 o2 w => by rw [← hev]; exact neNilG e' o1 o2 w
      rw [hev]
      rw [hev] at HS
      clear hev hb HV
      go_wp2_with fail
      refine (CU.out _).mono ?_
      rintro en w3 ⟨rfl, hb3⟩
      have HB3 := Lib.hid (HB.out.trans (hb3.mono HB.out.size))
      have hk3 := (hb3.block w.heap.size hkl).trans HK.out
      clear hb3 hk
      go_wp2_with fail
      go_roundw
      case rel => exact ⟨e', HEV.out.symm, HL, hk3, HB3.out⟩
      case measure => exact HS.out
end Go.Proofs.YthdncjdopejkkaaDoor.ErrW
