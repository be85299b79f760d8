/-
  Contracts: errors.as, errors.As at impl.remaining over what a purse's errors are. Condition: the library's variable errors.errorType holds the handle of the type error.
-/
import Derived.Test.YtlbjnblbjbdaaaaDoorRows
import Derived.Test.YtlbjnblbjbdaaaaDoorPurE
namespace Go.Proofs.YtlbjnblbjbdaaaaDoor.Pur
open Go.RowKit Go.Extern.Stop Go.Stop Go.Extern Rw Bnd
set_option linter.unusedVariables false
set_option maxRecDepth 100000

theorem loadL (b : Nat) (p : BP) (W : World) (hb : W.heap[b]? = some (.cells #[.int .i64 p.d, .int .i64 p.c, .int .i64 p.n, .int .i64 p.b] 55 (0, 0))) : (loadVar 55 ⟨b, 0, none⟩).run Tryd.prog W = .ok p.val W := by
  obtain ⟨⟨k0, k1, k2, k3⟩, _⟩ := keep4 hb
  unfold loadVar
  have h := run_loadCells_list (P := Tryd.prog) W ⟨b, 0, none⟩ [.int .i64 p.d, .int .i64 p.c, .int .i64 p.n, .int .i64 p.b] (fun j v hj => by
    match j, hj with
    | 0, hj => simp at hj; subst hj; simpa [Addr.add] using k0
    | 1, hj => simp at hj; subst hj; simpa [Addr.add] using k1
    | 2, hj => simp at hj; subst hj; simpa [Addr.add] using k2
    | 3, hj => simp at hj; subst hj; simpa [Addr.add] using k3)
  simp only [List.length_cons, List.length_nil] at h
  simp only [Sem.run_bind, aggS (.inr rfl), Result.andThen, sizeL, if_true]
  simp [h, BP.val]
theorem stI (W : World) (b o : Nat) (n : Int) {old : Value} (h : W.cell? ⟨b, o, none⟩ = some old) (f : W.frozen? ⟨b, o, none⟩ = false) : Sem.run Tryd.prog (store ⟨b, o, none⟩ (.int .i64 n)) W = .ok () (W.setCell ⟨b, o, none⟩ (.int .i64 n)) := by
  rw [run_store Tryd.prog W ⟨b, o, none⟩ _ _ (by rfl)]
  simp [h, f]
theorem setL (ta b : Nat) (p : BP) (o0 o1 o2 o3 : Value) (W : World) (hb : W.heap[b]? = some (.cells #[.int .i64 p.d, .int .i64 p.c, .int .i64 p.n, .int .i64 p.b] 55 (0, 0))) (ht : W.heap[ta]? = some (.cells #[o0, o1, o2, o3] 55 (0, 0))) :
    (ReflectliteValue.set #[.agg #[.pointer (some ⟨1, 55, none⟩), .pointer (some ⟨ta, 0, none⟩), .int .u64 409], .agg #[.pointer (some ⟨1, 55, none⟩), .pointer (some ⟨b, 0, none⟩), .int .u64 153]]).run Tryd.prog W
      = .ok (.tuple #[]) ((((W.setCell ⟨ta, 0, none⟩ (.int .i64 p.d)).setCell ⟨ta, 1, none⟩ (.int .i64 p.c)).setCell ⟨ta, 2, none⟩ (.int .i64 p.n)).setCell ⟨ta, 3, none⟩ (.int .i64 p.b)) := by
  rw [set_two]
  have hl := loadL b p W hb
  obtain ⟨⟨k0, k1, k2, k3⟩, f0, f1, f2, f3⟩ := keep4 ht
  have h1 := heap_setCell_same W ta 0 _ _ (.int .i64 p.d) ht
  have ⟨⟨_, l1, l2, l3⟩, _, g1, g2, g3⟩ := keep4 h1
  have h2 := heap_setCell_same _ ta 1 _ _ (.int .i64 p.c) h1
  have ⟨⟨_, _, m2, m3⟩, _, _, e2, e3⟩ := keep4 h2
  have h3 := heap_setCell_same _ ta 2 _ _ (.int .i64 p.n) h2
  have ⟨⟨_, _, _, n3⟩, _, _, _, d3⟩ := keep4 h3
  clear h1 h2 h3 ht hb
  have r0 := stI W ta 0 p.d k0 f0
  have r1 := stI _ ta 1 p.c l1 g1
  have r2 := stI _ ta 2 p.n m2 e2
  have r3 := stI _ ta 3 p.b n3 d3
  simp only [Sem.run_bind, partsA (.inr rfl), partsS (.inr rfl), Result.andThen]
  simp [ReflectliteValue.flagAddr, hl, Result.andThen, directS (.inr rfl), storeVar, BP.val, Value.cells, storeCells, Addr.add, r0, r1, r2, r3]

/-- What an error comes to when it is laid open. -/
def PErr.last : PErr → PErr
  | .fault k => .fault k
  | .left p => .left p
  | .refused _ p => .left p
def PErr.leaf? : PErr → Bool
  | .refused _ _ => false
  | _ => true
/-- What is left in it: what errors.As of impl.remaining finds. -/
def PErr.has : PErr → Bool
  | .fault _ => false
  | _ => true
def PErr.rem : PErr → BP
  | .fault _ => ⟨0, 0, 0, 0⟩
  | .left p => p
  | .refused _ p => p
def rankV : Value → Nat
  | .iface T _ => if T = 70 then 1 else 0
  | _ => 0
theorem neNil (e : PErr) (w : World) : (binOp .eql 50 e.val .nilIface).run Tryd.prog w = .ok (.bool false) w := by cases e <;> rfl
theorem neNilG (e : PErr) (o1 o2 : Operand) (w : World) : (eqGuard .eql 50 o1 o2 e.val .nilIface).run Tryd.prog w = .ok () w := by cases e <;> rfl
theorem unwrap (c : Int) (p : BP) (w : World) : Calls Tryd.prog 62 #[(PErr.refused c p).pay] w fun en w' => en = .returned (PErr.left p).val ∧ Below w.heap.size w w' := by
  obtain ⟨r, b, l, t⟩ := p
  simp only [PErr.val, PErr.pay, PErr.typ, BP.val]
  go_enter Tryd.func62, Tryd.ntmps62
  go_wp2_with fail
  go_ret
  exact ⟨rfl, (Below.refl _ _).alloc (Nat.le_refl _) _⟩
theorem keep3 {w1 : World} {g : Nat} {v0 v1 v2 : Value} {T : TypeId} (h1 : w1.heap[g]? = some (.cells #[v0, v1, v2] T (0, 0))) :
    w1.cell? ⟨g, 0, none⟩ = some v0 ∧ w1.cell? ⟨g, 1, none⟩ = some v1 ∧ w1.cell? ⟨g, 2, none⟩ = some v2 := by
  simp [World.cell?, h1]
/-- What lay there, but for one block. -/
def But (tb : Nat) (w w' : World) : Prop := w.heap.size ≤ w'.heap.size ∧ ∀ b, b < w.heap.size → b ≠ tb → w'.heap[b]? = w.heap[b]?
def zeroL : BP := ⟨0, 0, 0, 0⟩
abbrev LObj (p : BP) : Obj := .cells #[.int .i64 p.d, .int .i64 p.c, .int .i64 p.n, .int .i64 p.b] 55 (0, 0)
abbrev LBlk (W : World) (tb : Nat) (p : BP) : Prop := W.heap[tb]? = some (.cells #[.int .i64 p.d, .int .i64 p.c, .int .i64 p.n, .int .i64 p.b] 55 (0, 0))

set_option maxHeartbeats 4000000 in
theorem asLoop (e : PErr) (tb pb B : Nat) (w : World) (hp : w.cell? ⟨pb, 0, none⟩ = some (.pointer (some ⟨tb, 0, none⟩))) (ht : LBlk w tb ⟨0, 0, 0, 0⟩) (hB : B ≤ tb) :
    Calls Tryd.prog 37 #[e.val, .iface 57 (.pointer (some ⟨tb, 0, none⟩)), .agg #[.pointer (some ⟨1, 57, none⟩), .pointer (some ⟨pb, 0, none⟩), .int .u64 150], .iface 87 (.agg #[.pointer (some ⟨1, 55, none⟩)])] w
      fun en w' => en = .returned (.bool e.has) ∧ Below B w w' ∧ LBlk w' tb e.rem := by
  have hT : Wrong 55 := .inr rfl
  have x1 := @run_callFunc_extern Tryd.prog 34 _ (fun args => ReflectliteValue.unpack (args.getD 0 (.tuple #[]))) Tryd.func34 (by kernel_rfl) (by kernel_rfl) (by kernel_rfl) (by kernel_rfl)
  have x7 := @run_callFunc_extern Tryd.prog 39 _ (ReflectliteType.typeOf) Tryd.func39 (by kernel_rfl) (by kernel_rfl) (by kernel_rfl) (by kernel_rfl)
  have x8 := @run_callFunc_extern Tryd.prog 67 _ (ReflectliteType.relation "AssignableTo" ReflectliteType.assignableTo) Tryd.func67 (by kernel_rfl) (by kernel_rfl) (by kernel_rfl) (by kernel_rfl)
  have x9 := @run_callFunc_extern Tryd.prog 40 _ (ReflectliteValue.method (ReflectliteValue.valueError "reflectlite.Value.Elem" 0) ReflectliteValue.elem) Tryd.func40 (by kernel_rfl) (by kernel_rfl) (by kernel_rfl) (by kernel_rfl)
  have x0 := @run_callFunc_extern Tryd.prog 41 _ (ReflectliteValue.set) Tryd.func41 (by kernel_rfl) (by kernel_rfl) (by kernel_rfl) (by kernel_rfl)
  have y2 := mAssignableTo
  have hpl := Rw.lt_of_cell hp
  have htl := Rw.lt_of_get ht
  have HP := Lib.hid hp
  have HTB := Lib.hid ht
  clear hp ht
  have HB0 : Hid (Below w.heap.size w (w.alloc (.cells #[.pointer (some ⟨1, 57, none⟩), .pointer (some ⟨pb, 0, none⟩), .int .u64 150] 74))) := Lib.hid ((Below.refl _ _).alloc (Nat.le_refl _) _)
  have HK0 := Lib.hid (heap_alloc_new w (.cells #[.pointer (some ⟨1, 57, none⟩), .pointer (some ⟨pb, 0, none⟩), .int .u64 150] 74))
  go_enter Tryd.func37, Tryd.ntmps37
  go_wp2_with fail
  go_loopw [0] (fun v wr => ∃ (e' : PErr), v = e'.val ∧ Hid (e'.has = e.has ∧ e'.rem = e.rem) ∧ wr.heap[w.heap.size]? = some (.cells #[.pointer (some ⟨1, 57, none⟩), .pointer (some ⟨pb, 0, none⟩), .int .u64 150] 74 (0, 0)) ∧ Below w.heap.size w wr) (fun v _ => rankV v)
  case atStart => exact ⟨e, rfl, Lib.hid ⟨rfl, rfl⟩, HK0.out, HB0.out⟩
  case round =>
    obtain ⟨e', rfl, hl, hk, hb⟩ := hrel
    have HB := Lib.hid hb
    have hkl := Rw.lt_of_get hk
    have HK := Lib.hid hk
    have ⟨c0, c1, c2⟩ := keep3 hk
    have htw : LBlk wr tb ⟨0, 0, 0, 0⟩ := (hb.block tb htl).trans HTB.out
    cases e' with
    | fault k =>
      have hE : 68 = 68 ∨ 68 = 55 := .inl rfl
      have y1 := fun v w => typeOfS (E := 68) (.inl rfl) v w
      have y3 : ∀ w, (ReflectliteType.relation "AssignableTo" ReflectliteType.assignableTo #[.agg #[.pointer (some ⟨1, 68, none⟩)], .iface 87 (.agg #[.pointer (some ⟨1, 55, none⟩)])]).run Tryd.prog w = .ok (.bool false) w := fun w => assignS hT (.inl rfl) w
      have y4 := fun v xT w => noAs (E := 68) (.inl rfl) v xT w
      have y5 := fun v xT w => noUnwrap (E := 68) (.inl rfl) v xT w
      have y6 := fun v xT w => noUnwraps (E := 68) (.inl rfl) v xT w
      have HF : Hid (false = e.has ∧ LBlk wr tb e.rem) := Lib.hid ⟨hl.out.1, by have := hl.out.2; rw [← this]; exact htw⟩
      have HBB : Hid (Below B w wr) := Lib.hid (HB.out.mono (by omega))
      simp only [PErr.val, PErr.pay, PErr.typ]
      clear hE hl hb hk htw
      go_wp2_with fail
      go_ret
      exact ⟨by rw [← HF.out.1]; rfl, HBB.out, HF.out.2⟩
    | left p =>
      have y1 := fun v w => typeOfS (E := 55) (.inr (.inl rfl)) v w
      have y3 : ∀ w, (ReflectliteType.relation "AssignableTo" ReflectliteType.assignableTo #[.agg #[.pointer (some ⟨1, 55, none⟩)], .iface 87 (.agg #[.pointer (some ⟨1, 55, none⟩)])]).run Tryd.prog w = .ok (.bool true) w := fun w => assignS hT (.inr (.inl rfl)) w
      have y7 := fun w => valueOfL p w
      have hpw : wr.cell? ⟨pb, 0, none⟩ = some (.pointer (some ⟨tb, 0, none⟩)) := (hb.cell (p := ⟨pb, 0, none⟩) hpl).trans HP.out
      have y8 := elemV hT ⟨pb, 0, none⟩ ⟨tb, 0, none⟩ wr hpw
      rw [show pT 55 = 57 from rfl] at y8
      have htl2 : tb < wr.heap.size := Rw.lt_of_get htw
      have hta : (wr.alloc (.cells #[.int .i64 p.d, .int .i64 p.c, .int .i64 p.n, .int .i64 p.b] 55)).heap[tb]? = some (.cells #[.int .i64 0, .int .i64 0, .int .i64 0, .int .i64 0] 55 (0, 0)) := (Go.Deep.blk_alloc_lt wr _ tb htl2).trans htw
      have y9 := setL tb wr.heap.size p _ _ _ _ (wr.alloc (.cells #[.int .i64 p.d, .int .i64 p.c, .int .i64 p.n, .int .i64 p.b] 55)) (heap_alloc_new wr _) hta
      have HF : Hid (true = e.has ∧ p = e.rem) := Lib.hid hl.out
      have hBr : B ≤ wr.heap.size := by omega
      have HWF : Hid (∀ W, W = ((((wr.setCell ⟨tb, 0, none⟩ (.int .i64 p.d)).setCell ⟨tb, 1, none⟩ (.int .i64 p.c)).setCell ⟨tb, 2, none⟩ (.int .i64 p.n)).setCell ⟨tb, 3, none⟩ (.int .i64 p.b)).alloc (.cells #[.int .i64 p.d, .int .i64 p.c, .int .i64 p.n, .int .i64 p.b] 55) → Below B w W ∧ LBlk W tb p) := Lib.hid (by
        rintro W rfl
        have hb2 := Below.put4 (HB.out.mono (by omega : B ≤ w.heap.size)) hB (.int .i64 p.d) (.int .i64 p.c) (.int .i64 p.n) (.int .i64 p.b)
        refine ⟨hb2.alloc (Nat.le_trans (by omega) hb2.size) _, ?_⟩
        unfold LBlk
        rw [Go.Deep.blk_alloc_lt _ _ _ (by simpa using htl2), heap_setCell_same _ _ _ _ _ _ (heap_setCell_same _ _ _ _ _ _ (heap_setCell_same _ _ _ _ _ _ (heap_setCell_same _ _ _ _ _ _ htw)))]
        simp)
      simp only [PErr.val, PErr.pay, PErr.typ]
      obtain ⟨r, b, l, t⟩ := p
      simp only [BP.val] at *
      clear hl hb hk htw hpw hta
      go_wp2_with fail
      go_ret
      have HZ := HWF.out _ rfl
      exact ⟨by rw [← HF.out.1]; rfl, HZ.1, by rw [← HF.out.2]; exact HZ.2⟩
    | refused c p =>
      have y1 := fun v w => typeOfS (E := 70) (.inr (.inr rfl)) v w
      have y3 : ∀ w, (ReflectliteType.relation "AssignableTo" ReflectliteType.assignableTo #[.agg #[.pointer (some ⟨1, 70, none⟩)], .iface 87 (.agg #[.pointer (some ⟨1, 55, none⟩)])]).run Tryd.prog w = .ok (.bool false) w := fun w => assignS hT (.inr (.inr rfl)) w
      have y4 := fun v xT w => noAs (E := 70) (.inr (.inr rfl)) v xT w
      have y5 := hasUnwrap
      have y6 := mUnwrap
      have CU0 := Lib.hid (fun w => unwrap c p w)
      have HL : Hid ((PErr.left p).has = e.has ∧ (PErr.left p).rem = e.rem) := Lib.hid hl.out
      have HEV := Lib.hid (show (PErr.left p).val = .iface 55 p.val from rfl)
      obtain ⟨ev, hev⟩ : ∃ ev, (PErr.left p).val = ev := ⟨_, rfl⟩
      have HEV2 := Lib.hid hev
      have CU : Hid (∀ w, Calls Tryd.prog 62 #[(PErr.refused c p).pay] w fun en w' => en = .returned ev ∧ Below w.heap.size w w') := Lib.hid fun w => by rw [← hev]; exact unwrap c p w
      have y7 : ∀ w, (binOp .eql 50 ev .nilIface).run Tryd.prog w = .ok (.bool false) w := fun w => by rw [← hev]; exact neNil _ w
      have y8 : ∀ o1 o2 w, (eqGuard .eql 50 o1 o2 ev .nilIface).run Tryd.prog w = .ok () w := fun o1 o2 w => by rw [← hev]; exact neNilG _ o1 o2 w
      have HRK : Hid (rankV ev < rankV (PErr.refused c p).val) := Lib.hid (by rw [← hev]; simp [rankV, PErr.val, PErr.typ])
      simp only [PErr.val, PErr.typ] at HRK ⊢
      generalize (PErr.refused c p).pay = pay at *
      clear hev hb hl htw CU0 HEV
      go_wp2_with fail
      refine (CU.out _).mono ?_
      rintro en w3 ⟨rfl, hb3⟩
      have HB3 := Lib.hid (HB.out.trans (hb3.mono HB.out.size))
      have hk3 := (hb3.block w.heap.size hkl).trans HK.out
      clear hb3 hk
      go_wp2_with fail
      go_roundw
      case rel => exact ⟨.left p, HEV2.out.symm, HL, hk3, HB3.out⟩
      case measure => exact HRK.out
end Go.Proofs.YtlbjnblbjbdaaaaDoor.Pur
