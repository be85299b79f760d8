/-
  Contracts: errors.As, errors.Is at the types of what is wrong. Condition: the library's variable errors.errorType holds the handle of the type error.
-/
import Derived.Test.YtceabbbmgfeofaaGreatDoorRows
import Derived.Test.YtceabbbmgfeofaaGreatDoorErrV
import Derived.WalkKit
import Derived.Outline
import Derived.LaidEql
import Derived.Stop.Asserts
import Derived.RowKitTokens
import Derived.Lib.Hide
namespace Go.Proofs.YtceabbbmgfeofaaGreatDoor.ErrW
open Go.RowKit Go.Extern.Stop Go.Stop Go.Extern
set_option linter.unusedVariables false
set_option maxRecDepth 100000
/-- The library's variable holds the handle of 'error'. -/
def ErrVar (w : World) : Prop := w.cell? ⟨0, 0, none⟩ = some (.iface 264 (.agg #[.pointer (some ⟨9, 79, none⟩)]))
theorem ErrVar.lt {w : World} (h : ErrVar w) : 0 < w.heap.size := by
  rcases Nat.lt_or_ge 0 w.heap.size with k | k
  · exact k
  · unfold ErrVar World.cell? at h; rw [Array.getElem?_eq_none k] at h; simp at h
theorem ErrVar.below {w w' : World} (h : ErrVar w) (hb : Below w.heap.size w w') : ErrVar w' := by
  unfold ErrVar; rw [hb.cell (p := ⟨0, 0, none⟩) h.lt]; exact h
/-- The four types of texts that are errors, and the pointers to them. -/
def Wrong (T : TypeId) : Prop := T = 136 ∨ T = 137 ∨ T = 138 ∨ T = 139
def pT (T : TypeId) : TypeId := if T = 136 then 141 else if T = 137 then 142 else if T = 138 then 143 else 144
def Errs (E : TypeId) : Prop := E = 147 ∨ E = 136 ∨ E = 137 ∨ E = 138 ∨ E = 139
theorem Leaf.errs (l : Leaf) : Errs l.typ := by cases l <;> simp [Errs, Leaf.typ]
/-! ### Closed facts on the model's entries for internal/reflectlite, at the types of this dump -/
section
variable {T : TypeId} (hT : Wrong T)
include hT
theorem valueOfP (t : Addr) (w : World) : (ReflectliteValue.unpack (.iface (pT T) (.pointer (some t)))).run Tryz.prog w
    = .ok (.agg #[.pointer (some ⟨9, pT T, none⟩), .pointer (some ⟨w.heap.size, 0, none⟩), .int .u64 150]) (w.alloc (.cells #[.pointer (some t)] (pT T))) := by rcases hT with rfl | rfl | rfl | rfl <;> kernel_rfl
theorem typeP (a : Addr) (w : World) : (ReflectliteValue.methodAny (ReflectliteValue.valueError "reflectlite.Value.Type" 0) (fun t _ _ _ => ReflectliteType.toType t) #[.agg #[.pointer (some ⟨9, pT T, none⟩), .pointer (some a), .int .u64 150]]).run Tryz.prog w
    = .ok (.iface 264 (.agg #[.pointer (some ⟨9, pT T, none⟩)])) w := by rcases hT with rfl | rfl | rfl | rfl <;> kernel_rfl
theorem kindP (w : World) : ((ReflectliteType.abiMethod fun t => Functor.map (fun a : Nat => Value.int IntKind.u8 (a : Int)) (Rtype.kind t)) #[.pointer (some ⟨9, pT T, none⟩)]).run Tryz.prog w = .ok (.int .u8 22) w := by rcases hT with rfl | rfl | rfl | rfl <;> kernel_rfl
theorem kindS (w : World) : ((ReflectliteType.abiMethod fun t => Functor.map (fun a : Nat => Value.int IntKind.u8 (a : Int)) (Rtype.kind t)) #[.pointer (some ⟨9, T, none⟩)]).run Tryz.prog w = .ok (.int .u8 24) w := by rcases hT with rfl | rfl | rfl | rfl <;> kernel_rfl
theorem elemP (w : World) : (ReflectliteType.method ReflectliteType.elem #[.agg #[.pointer (some ⟨9, pT T, none⟩)]]).run Tryz.prog w = .ok (.iface 264 (.agg #[.pointer (some ⟨9, T, none⟩)])) w := by rcases hT with rfl | rfl | rfl | rfl <;> kernel_rfl
theorem implementsS (w : World) : (ReflectliteType.relation "Implements" ReflectliteType.implements_ #[.agg #[.pointer (some ⟨9, T, none⟩)], .iface 264 (.agg #[.pointer (some ⟨9, 79, none⟩)])]).run Tryz.prog w = .ok (.bool true) w := by rcases hT with rfl | rfl | rfl | rfl <;> kernel_rfl
theorem valueOfS (s : ByteArray) (w : World) : (ReflectliteValue.unpack (.iface T (.string s))).run Tryz.prog w
    = .ok (.agg #[.pointer (some ⟨9, T, none⟩), .pointer (some ⟨w.heap.size, 0, none⟩), .int .u64 152]) (w.alloc (.cells #[.string s] T)) := by rcases hT with rfl | rfl | rfl | rfl <;> kernel_rfl
theorem partsP (a : Addr) (w : World) : (ReflectliteValue.parts (.agg #[.pointer (some ⟨9, pT T, none⟩), .pointer (some a), .int .u64 150])).run Tryz.prog w = .ok (some (pT T, a, 150)) w := by rcases hT with rfl | rfl | rfl | rfl <;> kernel_rfl
theorem partsA (a : Addr) (w : World) : (ReflectliteValue.parts (.agg #[.pointer (some ⟨9, T, none⟩), .pointer (some a), .int .u64 408])).run Tryz.prog w = .ok (some (T, a, 408)) w := by rcases hT with rfl | rfl | rfl | rfl <;> kernel_rfl
theorem partsS (a : Addr) (w : World) : (ReflectliteValue.parts (.agg #[.pointer (some ⟨9, T, none⟩), .pointer (some a), .int .u64 152])).run Tryz.prog w = .ok (some (T, a, 152)) w := by rcases hT with rfl | rfl | rfl | rfl <;> kernel_rfl
theorem elemOfP (w : World) : (Rtype.elem? (pT T)).run Tryz.prog w = .ok (some T) w := by rcases hT with rfl | rfl | rfl | rfl <;> kernel_rfl
theorem mkS (p : Addr) (w : World) : (ReflectliteValue.mk T p ReflectliteValue.flagAddr).run Tryz.prog w = .ok (.agg #[.pointer (some ⟨9, T, none⟩), .pointer (some p), .int .u64 408]) w := by rcases hT with rfl | rfl | rfl | rfl <;> kernel_rfl
theorem directS (w : World) : (Rtype.directlyAssignable T T).run Tryz.prog w = .ok true w := by rcases hT with rfl | rfl | rfl | rfl <;> kernel_rfl
theorem sizeS (w : World) : (sizeOf T).run Tryz.prog w = .ok 1 w := by rcases hT with rfl | rfl | rfl | rfl <;> kernel_rfl
theorem aggS (w : World) : (isAgg T).run Tryz.prog w = .ok false w := by rcases hT with rfl | rfl | rfl | rfl <;> kernel_rfl
theorem aggP (w : World) : (isAgg (pT T)).run Tryz.prog w = .ok false w := by rcases hT with rfl | rfl | rfl | rfl <;> kernel_rfl
theorem assignS {E : TypeId} (hE : Errs E) (w : World) : (ReflectliteType.relation "AssignableTo" ReflectliteType.assignableTo #[.agg #[.pointer (some ⟨9, E, none⟩)], .iface 264 (.agg #[.pointer (some ⟨9, T, none⟩)])]).run Tryz.prog w = .ok (.bool (decide (E = T))) w := by
  rcases hT with rfl | rfl | rfl | rfl <;> rcases hE with rfl | rfl | rfl | rfl | rfl <;> kernel_rfl
theorem assignQ (w : World) : (ReflectliteType.relation "AssignableTo" ReflectliteType.assignableTo #[.agg #[.pointer (some ⟨9, 160, none⟩)], .iface 264 (.agg #[.pointer (some ⟨9, T, none⟩)])]).run Tryz.prog w = .ok (.bool false) w := by
  rcases hT with rfl | rfl | rfl | rfl <;> kernel_rfl
end
theorem mKind (h : Value) (w : World) : (Go.method 475 264 (.agg #[h]) "Kind").run Tryz.prog w = .ok (252, h) w := by kernel_rfl
theorem mElem (h : Value) (w : World) : (Go.method 475 264 (.agg #[h]) "Elem").run Tryz.prog w = .ok (292, .agg #[h]) w := by kernel_rfl
theorem mImplements (h : Value) (w : World) : (Go.method 475 264 (.agg #[h]) "Implements").run Tryz.prog w = .ok (293, .agg #[h]) w := by kernel_rfl
theorem mAssignableTo (h : Value) (w : World) : (Go.method 475 264 (.agg #[h]) "AssignableTo").run Tryz.prog w = .ok (290, .agg #[h]) w := by kernel_rfl
theorem mComparable (h : Value) (w : World) : (Go.method 475 264 (.agg #[h]) "Comparable").run Tryz.prog w = .ok (291, .agg #[h]) w := by kernel_rfl
theorem mUnwrap (i : ByteArray) (x : Value) (w : World) : (Go.method 475 160 (.agg #[.string i, x]) "Unwrap").run Tryz.prog w = .ok (274, .agg #[.string i, x]) w := by kernel_rfl
theorem typeOfS {E : TypeId} (hE : Errs E) (v : Value) (w : World) : (ReflectliteType.typeOf #[.iface E v]).run Tryz.prog w = .ok (.iface 264 (.agg #[.pointer (some ⟨9, E, none⟩)])) w := by rcases hE with rfl | rfl | rfl | rfl | rfl <;> kernel_rfl
theorem typeOfQ (v : Value) (w : World) : (ReflectliteType.typeOf #[.iface 160 v]).run Tryz.prog w = .ok (.iface 264 (.agg #[.pointer (some ⟨9, 160, none⟩)])) w := by kernel_rfl
theorem noAs {E : TypeId} (hE : Errs E) (v : Value) (xT : TypeId) (w : World) : (Instr.typeAssert (.iface E v) xT 268 true).run Tryz.prog w = .ok (.tuple #[.nilIface, .bool false]) w := by
  rcases hE with rfl | rfl | rfl | rfl | rfl <;> exact run_typeAssert_lacksB Tryz.underlying268 (by kernel_rfl) (by kernel_rfl) v xT w
theorem noUnwrap {E : TypeId} (hE : Errs E) (v : Value) (xT : TypeId) (w : World) : (Instr.typeAssert (.iface E v) xT 271 true).run Tryz.prog w = .ok (.tuple #[.nilIface, .bool false]) w := by
  rcases hE with rfl | rfl | rfl | rfl | rfl <;> exact run_typeAssert_lacksB Tryz.underlying271 (by kernel_rfl) (by kernel_rfl) v xT w
theorem noUnwraps {E : TypeId} (hE : Errs E) (v : Value) (xT : TypeId) (w : World) : (Instr.typeAssert (.iface E v) xT 273 true).run Tryz.prog w = .ok (.tuple #[.nilIface, .bool false]) w := by
  rcases hE with rfl | rfl | rfl | rfl | rfl <;> exact run_typeAssert_lacksB Tryz.underlying273 (by kernel_rfl) (by kernel_rfl) v xT w
theorem noAsQ (v : Value) (xT : TypeId) (w : World) : (Instr.typeAssert (.iface 160 v) xT 268 true).run Tryz.prog w = .ok (.tuple #[.nilIface, .bool false]) w := run_typeAssert_lacksB Tryz.underlying268 (by kernel_rfl) (by kernel_rfl) v xT w
theorem hasUnwrap (v : Value) (xT : TypeId) (w : World) : (Instr.typeAssert (.iface 160 v) xT 271 true).run Tryz.prog w = .ok (.tuple #[.iface 160 v, .bool true]) w := run_typeAssert_hasB Tryz.underlying271 (by kernel_rfl) v xT w
/-! ### The entries that read or write memory -/
theorem method_one (z : Sem Value) (f : TypeId → Addr → Nat → Nat → Sem Value) (v : Value) :
    ReflectliteValue.method z f #[v] = (do match ← ReflectliteValue.parts v with | none => z | some (t, a, fl) => f t a fl (fl % 32)) := rfl
theorem isNilP {T : TypeId} (hT : Wrong T) (a p : Addr) (W : World) (ha : W.cell? a = some (.pointer (some p))) :
    (ReflectliteValue.method (ReflectliteValue.valueError "reflectlite.Value.IsNil" 0) ReflectliteValue.isNil #[.agg #[.pointer (some ⟨9, pT T, none⟩), .pointer (some a), .int .u64 150]]).run Tryz.prog W = .ok (.bool false) W := by
  rw [method_one]
  simp only [Sem.run_bind, partsP hT, Result.andThen]
  simp [ReflectliteValue.isNil, loadVar, aggP hT, ha, Result.andThen]
theorem elemV {T : TypeId} (hT : Wrong T) (a p : Addr) (W : World) (ha : W.cell? a = some (.pointer (some p))) :
    (ReflectliteValue.method (ReflectliteValue.valueError "reflectlite.Value.Elem" 0) ReflectliteValue.elem #[.agg #[.pointer (some ⟨9, pT T, none⟩), .pointer (some a), .int .u64 150]]).run Tryz.prog W
      = .ok (.agg #[.pointer (some ⟨9, T, none⟩), .pointer (some p), .int .u64 408]) W := by
  rw [method_one]
  simp only [Sem.run_bind, partsP hT, Result.andThen]
  simp [ReflectliteValue.elem, loadVar, aggP hT, ha, Result.andThen, elemOfP hT, mkS hT]
theorem set_two (v x : Value) : ReflectliteValue.set #[v, x] = (do
    let (some (dst, a, fl), some (src, b, _)) := (← ReflectliteValue.parts v, ← ReflectliteValue.parts x)
      | unsupported (.noEntry "extern/(internal/reflectlite.Value).Set.zeroValue")
    if fl / ReflectliteValue.flagAddr % 2 == 0 then unsupported (.noEntry "extern/(internal/reflectlite.Value).Set.unaddressable")
    let val ← loadVar src b
    if ← Rtype.directlyAssignable dst src then storeVar dst a val
    else if ← Rtype.implements dst src then
      if (← Rtype.kind src) == 20 then
        match val with
        | .nilIface => unsupported (.noEntry "extern/reflectlite: a nil value of one interface type handed on as a value of another")
        | _ => storeVar dst a val
      else storeVar dst a (.iface src val)
    else panicString ("reflectlite.Set: value of type " ++ (← Rtype.spelt src) ++ " is not assignable to type " ++ (← Rtype.spelt dst))
    pure (.tuple #[])) := rfl
theorem loadS {T : TypeId} (hT : Wrong T) (b : Addr) (s : ByteArray) (W : World) (hb : W.cell? b = some (.string s)) : (loadVar T b).run Tryz.prog W = .ok (.string s) W := by
  unfold loadVar
  simp only [Sem.run_bind, aggS hT, Result.andThen]
  simp [hb]
theorem setS {T : TypeId} (hT : Wrong T) (ta b : Addr) (s : ByteArray) (old : Value) (W : World) (hb : W.cell? b = some (.string s)) (ht : W.cell? ta = some old) (hf : W.frozen? ta = false) :
    (ReflectliteValue.set #[.agg #[.pointer (some ⟨9, T, none⟩), .pointer (some ta), .int .u64 408], .agg #[.pointer (some ⟨9, T, none⟩), .pointer (some b), .int .u64 152]]).run Tryz.prog W
      = .ok (.tuple #[]) (W.setCell ta (.string s)) := by
  rw [set_two]
  simp only [Sem.run_bind, partsA hT, partsS hT, Result.andThen]
  simp [ReflectliteValue.flagAddr, loadS hT b s W hb, Result.andThen, directS hT, storeVar, sizeS hT, Value.cells, storeCells, Addr.add]
  rw [run_store Tryz.prog W ta _ _ (by rfl)]
  simp [ht, hf]
theorem keep3 {w1 : World} {g : Nat} {v0 v1 v2 : Value} {T : TypeId} (h1 : w1.heap[g]? = some (.cells #[v0, v1, v2] T (0, 0))) :
    (w1.cell? ⟨g, 0, none⟩ = some v0 ∧ w1.cell? ⟨g, 1, none⟩ = some v1 ∧ w1.cell? ⟨g, 2, none⟩ = some v2) ∧ (w1.frozen? ⟨g, 0, none⟩ = false ∧ w1.frozen? ⟨g, 1, none⟩ = false ∧ w1.frozen? ⟨g, 2, none⟩ = false) := by
  simp [World.cell?, World.frozen?, h1]
theorem keep1 {w1 : World} {g : Nat} {v0 : Value} {T : TypeId} (h1 : w1.heap[g]? = some (.cells #[v0] T (0, 0))) : w1.cell? ⟨g, 0, none⟩ = some v0 ∧ w1.frozen? ⟨g, 0, none⟩ = false := by
  simp [World.cell?, World.frozen?, h1]
theorem sizeOf_stand (i : ByteArray) (e : ErrP) : SizeOf.sizeOf e.val < SizeOf.sizeOf (ErrP.stand i e).val := by
  simp only [ErrP.val, Value.iface.sizeOf_spec, Value.agg.sizeOf_spec, Array.mk.sizeOf_spec, List.cons.sizeOf_spec, List.nil.sizeOf_spec]; omega
theorem unwrap (i : ByteArray) (e : ErrP) (w : World) : Calls Tryz.prog 274 #[.agg #[.string i, e.val]] w fun en w' => en = .returned e.val ∧ Below w.heap.size w w' := by
  go_enter Tryz.func274, Tryz.ntmps274
  go_wp2_with fail
  go_ret
  exact ⟨rfl, (Below.refl _ _).alloc (Nat.le_refl _) _⟩
theorem neNil (e : ErrP) (w : World) : (binOp .eql 79 e.val .nilIface).run Tryz.prog w = .ok (.bool false) w := by cases e <;> rfl
theorem neNilG (e : ErrP) (o1 o2 : Operand) (w : World) : (eqGuard .eql 79 o1 o2 e.val .nilIface).run Tryz.prog w = .ok () w := by cases e <;> rfl
set_option maxHeartbeats 4000000 in
theorem asLoop {T : TypeId} (hT : Wrong T) (e : ErrP) (tb pb : Nat) (w : World) (hp : w.cell? ⟨pb, 0, none⟩ = some (.pointer (some ⟨tb, 0, none⟩))) (ht : w.heap[tb]? = some (.cells #[.string ⟨#[]⟩] T (0, 0))) :
    Calls Tryz.prog 130 #[e.val, .iface (pT T) (.pointer (some ⟨tb, 0, none⟩)), .agg #[.pointer (some ⟨9, pT T, none⟩), .pointer (some ⟨pb, 0, none⟩), .int .u64 150], .iface 264 (.agg #[.pointer (some ⟨9, T, none⟩)])] w
      fun en w' => en = .returned (.bool (decide (e.last.typ = T))) ∧ Rw.Within tb (tb + 1) w w' ∧ w'.heap[tb]? = some (.cells #[.string (if e.last.typ = T then e.last.txt else ⟨#[]⟩)] T (0, 0)) := by
  have x1 := @run_callFunc_extern Tryz.prog 127 _ (fun args => ReflectliteValue.unpack (args.getD 0 (.tuple #[]))) Tryz.func127 (by kernel_rfl) (by kernel_rfl) (by kernel_rfl) (by kernel_rfl)
  have x7 := @run_callFunc_extern Tryz.prog 131 _ (ReflectliteType.typeOf) Tryz.func131 (by kernel_rfl) (by kernel_rfl) (by kernel_rfl) (by kernel_rfl)
  have x8 := @run_callFunc_extern Tryz.prog 290 _ (ReflectliteType.relation "AssignableTo" ReflectliteType.assignableTo) Tryz.func290 (by kernel_rfl) (by kernel_rfl) (by kernel_rfl) (by kernel_rfl)
  have x9 := @run_callFunc_extern Tryz.prog 174 _ (ReflectliteValue.method (ReflectliteValue.valueError "reflectlite.Value.Elem" 0) ReflectliteValue.elem) Tryz.func174 (by kernel_rfl) (by kernel_rfl) (by kernel_rfl) (by kernel_rfl)
  have x0 := @run_callFunc_extern Tryz.prog 175 _ (ReflectliteValue.set) Tryz.func175 (by kernel_rfl) (by kernel_rfl) (by kernel_rfl) (by kernel_rfl)
  have y2 := mAssignableTo
  have hpl := Rw.lt_of_cell hp
  have htl := Rw.lt_of_get ht
  have HP := Lib.hid hp
  have HTB := Lib.hid ht
  clear hp ht
  have HB0 : Hid (Below w.heap.size w (w.alloc (.cells #[.pointer (some ⟨9, pT T, none⟩), .pointer (some ⟨pb, 0, none⟩), .int .u64 150] 213))) := Lib.hid ((Below.refl _ _).alloc (Nat.le_refl _) _)
  have HK0 := Lib.hid (heap_alloc_new w (.cells #[.pointer (some ⟨9, pT T, none⟩), .pointer (some ⟨pb, 0, none⟩), .int .u64 150] 213))
  go_enter Tryz.func130, Tryz.ntmps130
  go_wp2_with fail
  go_loopw [0] (fun v wr => ∃ (e' : ErrP), v = e'.val ∧ Hid (e'.last = e.last) ∧ wr.heap[w.heap.size]? = some (.cells #[.pointer (some ⟨9, pT T, none⟩), .pointer (some ⟨pb, 0, none⟩), .int .u64 150] 213 (0, 0)) ∧ Below w.heap.size w wr) (fun v _ => SizeOf.sizeOf v)
  case atStart => exact ⟨e, rfl, Lib.hid rfl, HK0.out, HB0.out⟩
  case round =>
    obtain ⟨e', rfl, hl, hk, hb⟩ := hrel
    have HB := Lib.hid hb
    have hkl := Rw.lt_of_get hk
    have HK := Lib.hid hk
    cases e' with
    | leaf l =>
      have hE := l.errs
      have y1 := fun v w => typeOfS hE v w
      have y3 := fun w => assignS hT hE w
      have y4 := fun v xT w => noAs hE v xT w
      have y5 := fun v xT w => noUnwrap hE v xT w
      have y6 := fun v xT w => noUnwraps hE v xT w
      have ⟨⟨c0, c1, c2⟩, _⟩ := keep3 hk
      by_cases hlT : l.typ = T
      · have HL : Hid (e.last.typ = T) := Lib.hid (by rw [← hl.out]; exact hlT)
        have HLS : Hid (l.pay = .string l.txt ∧ e.last.txt = l.txt) := Lib.hid ⟨by cases l <;> first | rfl | (exfalso; rcases hT with rfl | rfl | rfl | rfl <;> exact absurd hlT (by decide)), by rw [← hl.out]; rfl⟩
        have y3' : ∀ w, (ReflectliteType.relation "AssignableTo" ReflectliteType.assignableTo #[.agg #[.pointer (some ⟨9, T, none⟩)], .iface 264 (.agg #[.pointer (some ⟨9, T, none⟩)])]).run Tryz.prog w = .ok (.bool true) w := fun w => by
          have := y3 w; rw [hlT, decide_eq_true rfl] at this; exact this
        have y1' : ∀ v w, (ReflectliteType.typeOf #[.iface T v]).run Tryz.prog w = .ok (.iface 264 (.agg #[.pointer (some ⟨9, T, none⟩)])) w := fun v w => by have := y1 v w; rw [hlT] at this; exact this
        have HV : (ErrP.leaf l).val = .iface T (.string l.txt) := by show Value.iface l.typ l.pay = _; rw [hlT, HLS.out.1]
        rw [HV]
        have y7 := fun s w => valueOfS hT s w
        have hpw : wr.cell? ⟨pb, 0, none⟩ = some (.pointer (some ⟨tb, 0, none⟩)) := (hb.cell (p := ⟨pb, 0, none⟩) hpl).trans HP.out
        have htw : wr.heap[tb]? = some (.cells #[.string ⟨#[]⟩] T (0, 0)) := (hb.block tb htl).trans HTB.out
        have y8 := elemV hT ⟨pb, 0, none⟩ ⟨tb, 0, none⟩ wr hpw
        have htl2 : tb < wr.heap.size := Rw.lt_of_get htw
        have hta : (wr.alloc (.cells #[.string l.txt] T)).heap[tb]? = some (.cells #[.string ⟨#[]⟩] T (0, 0)) := (Go.Deep.blk_alloc_lt wr _ tb htl2).trans htw
        have ⟨t0, t1⟩ := keep1 hta
        have y9 := setS hT ⟨tb, 0, none⟩ ⟨wr.heap.size, 0, none⟩ l.txt _ (wr.alloc (.cells #[.string l.txt] T)) (by simp) t0 t1
        have HWI : Hid (Rw.Within tb (tb + 1) w ((wr.setCell ⟨tb, 0, none⟩ (.string l.txt)).alloc (.cells #[.string l.txt] T))) := Lib.hid (((Rw.Within.of_below HB.out).set (p := ⟨tb, 0, none⟩) (Nat.le_refl _) (Nat.lt_succ_self _) _).trans (Rw.Within.of_below ((Below.refl _ _).alloc (Nat.le_refl _) _)))
        have HTF : Hid (((wr.setCell ⟨tb, 0, none⟩ (.string l.txt)).alloc (.cells #[.string l.txt] T)).heap[tb]? = some (.cells #[.string l.txt] T (0, 0))) := Lib.hid (by
          rw [Go.Deep.blk_alloc_lt _ _ tb (by simpa using htl2)]
          have := heap_setCell_same wr tb 0 _ _ (.string l.txt) htw
          simpa using this)
        generalize l.txt = tx at *
        clear y1 y3 y4 y5 y6 hlT HV hpw htw hta t0 t1 hb hk
        go_wp2_with fail
        go_ret
        exact ⟨by first | rfl | (rw [decide_eq_true HL.out]; rfl), HWI.out, by first | (rw [HLS.out.2]; exact HTF.out) | (rw [if_pos HL.out, HLS.out.2]; exact HTF.out)⟩
      · have HL : Hid (¬ e.last.typ = T) := Lib.hid (by rw [← hl.out]; exact hlT)
        have y3' : ∀ w, (ReflectliteType.relation "AssignableTo" ReflectliteType.assignableTo #[.agg #[.pointer (some ⟨9, l.typ, none⟩)], .iface 264 (.agg #[.pointer (some ⟨9, T, none⟩)])]).run Tryz.prog w = .ok (.bool false) w := fun w => by
          have := y3 w; rw [decide_eq_false hlT] at this; exact this
        have HT2 : Hid (wr.heap[tb]? = some (.cells #[.string ⟨#[]⟩] T (0, 0))) := Lib.hid ((hb.block tb htl).trans HTB.out)
        simp only [ErrP.val]
        generalize l.typ = E at *
        generalize l.pay = V at *
        clear y3 hlT hb hk
        go_wp2_with fail
        go_ret
        exact ⟨by first | rfl | (rw [decide_eq_false HL.out]; rfl), Rw.Within.of_below HB.out, by first | exact HT2.out | (rw [if_neg HL.out]; exact HT2.out)⟩
    | stand i e' =>
      have y1 := typeOfQ
      have y3 := fun w => assignQ hT w
      have y4 := noAsQ
      have y5 := hasUnwrap
      have y6 := mUnwrap
      have HS := Lib.hid (sizeOf_stand i e')
      have HL : Hid (e'.last = e.last) := Lib.hid hl.out
      have HV := Lib.hid (show (ErrP.stand i e').val = .iface 160 (.agg #[.string i, e'.val]) from rfl)
      simp only [ErrP.val]
      simp only [ErrP.val] at HS
      obtain ⟨ev, hev⟩ : ∃ ev, e'.val = ev := ⟨_, rfl⟩
      have HEV := Lib.hid hev
      have CU : Hid (∀ w, Calls Tryz.prog 274 #[.agg #[.string i, ev]] w fun en w' => en = .returned ev ∧ Below w.heap.size w w') := Lib.hid fun w => by rw [← hev]; exact unwrap i e' w
      have y7 : ∀ w, (binOp .eql 79 ev .nilIface).run Tryz.prog w = .ok (.bool false) w := fun w => by rw [← hev]; exact neNil e' w
      have y8 : ∀ o1 o2 w, (eqGuard .eql 79 o1 o2 ev .nilIface).run Tryz.prog w = .ok () w := fun o1 o2 w => by rw [← hev]; exact neNilG e' o1 o2 w
      rw [hev]
      rw [hev] at HS
      clear hev hb HV
      go_wp2_with fail
      refine (CU.out _).mono ?_
      rintro en w3 ⟨rfl, hb3⟩
      have HB3 := Lib.hid (HB.out.trans (hb3.mono HB.out.size))
      have hk3 := (hb3.block w.heap.size hkl).trans HK.out
      clear hb3 hk
      go_wp2_with fail
      go_roundw
      case rel => exact ⟨e', HEV.out.symm, HL, hk3, HB3.out⟩
      case measure => exact HS.out
theorem asNil (x : Value) (w : World) :
    Calls Tryz.prog 80 #[.nilIface, x] w fun e w' => e = .returned (.bool false) ∧ w = w' := by
  go_enter Tryz.func80, Tryz.ntmps80
  go_wp2
  go_ret
  exact ⟨rfl, rfl⟩
set_option maxHeartbeats 4000000 in
theorem asErr {T : TypeId} (hT : Wrong T) (e : ErrP) (tb : Nat) (w : World) (hg : ErrVar w) (ht : w.heap[tb]? = some (.cells #[.string ⟨#[]⟩] T (0, 0))) :
    Calls Tryz.prog 80 #[e.val, .iface (pT T) (.pointer (some ⟨tb, 0, none⟩))] w
      fun en w' => en = .returned (.bool (decide (e.last.typ = T))) ∧ Rw.Within tb (tb + 1) w w' ∧ w'.heap[tb]? = some (.cells #[.string (if e.last.typ = T then e.last.txt else ⟨#[]⟩)] T (0, 0)) := by
  have x1 := @run_callFunc_extern Tryz.prog 127 _ (fun args => ReflectliteValue.unpack (args.getD 0 (.tuple #[]))) Tryz.func127 (by kernel_rfl) (by kernel_rfl) (by kernel_rfl) (by kernel_rfl)
  have x2 := @run_callFunc_extern Tryz.prog 128 _ (ReflectliteValue.methodAny (ReflectliteValue.valueError "reflectlite.Value.Type" 0) (fun t _ _ _ => ReflectliteType.toType t)) Tryz.func128 (by kernel_rfl) (by kernel_rfl) (by kernel_rfl) (by kernel_rfl)
  have x3 := @run_callFunc_extern Tryz.prog 129 _ (ReflectliteValue.method (ReflectliteValue.valueError "reflectlite.Value.IsNil" 0) ReflectliteValue.isNil) Tryz.func129 (by kernel_rfl) (by kernel_rfl) (by kernel_rfl) (by kernel_rfl)
  have x4 := @run_callFunc_extern Tryz.prog 252 _ (ReflectliteType.abiMethod fun t => do pure (.int .u8 (← Rtype.kind t))) Tryz.func252 (by kernel_rfl) (by kernel_rfl) (by kernel_rfl) (by kernel_rfl)
  have x5 := @run_callFunc_extern Tryz.prog 292 _ (ReflectliteType.method ReflectliteType.elem) Tryz.func292 (by kernel_rfl) (by kernel_rfl) (by kernel_rfl) (by kernel_rfl)
  have x6 := @run_callFunc_extern Tryz.prog 293 _ (ReflectliteType.relation "Implements" ReflectliteType.implements_) Tryz.func293 (by kernel_rfl) (by kernel_rfl) (by kernel_rfl) (by kernel_rfl)
  have y5 := fun t w => valueOfP hT t w
  have y6 := fun a w => typeP hT a w
  have y7 := mKind
  have y8 := mElem
  have y9 := mImplements
  have z1 := fun w => kindP hT w
  have z2 := fun w => kindS hT w
  have z3 := fun w => elemP hT w
  have z4 := fun w => implementsS hT w
  have z5 := isNilP hT ⟨w.heap.size, 0, none⟩ ⟨tb, 0, none⟩ ((w.alloc (.cells #[.pointer (some ⟨tb, 0, none⟩)] (pT T))).alloc (.cells #[.pointer (some ⟨9, pT T, none⟩), .pointer (some ⟨w.heap.size, 0, none⟩), .int .u64 150] 213)) (by simp)
  have hlt := hg.lt
  have hg2 : ((w.alloc (.cells #[.pointer (some ⟨tb, 0, none⟩)] (pT T))).alloc (.cells #[.pointer (some ⟨9, pT T, none⟩), .pointer (some ⟨w.heap.size, 0, none⟩), .int .u64 150] 213)).cell? ⟨0, 0, none⟩ = some (.iface 264 (.agg #[.pointer (some ⟨9, 79, none⟩)])) := by
    rw [World.cell?_alloc_lt _ _ ⟨0, 0, none⟩ (by simp <;> omega), World.cell?_alloc_lt _ _ ⟨0, 0, none⟩ hlt]; exact hg
  have htl := Rw.lt_of_get ht
  have HL := Lib.hid (asLoop hT e tb w.heap.size ((w.alloc (.cells #[.pointer (some ⟨tb, 0, none⟩)] (pT T))).alloc (.cells #[.pointer (some ⟨9, pT T, none⟩), .pointer (some ⟨w.heap.size, 0, none⟩), .int .u64 150] 213)) (by simp) (by rw [Go.Deep.blk_alloc_lt _ _ _ (by simp; omega), Go.Deep.blk_alloc_lt _ _ _ htl]; exact ht))
  have HWI : Hid (Rw.Within tb (tb + 1) w ((w.alloc (.cells #[.pointer (some ⟨tb, 0, none⟩)] (pT T))).alloc (.cells #[.pointer (some ⟨9, pT T, none⟩), .pointer (some ⟨w.heap.size, 0, none⟩), .int .u64 150] 213))) := Lib.hid (Rw.Within.of_below (((Below.refl _ _).alloc (Nat.le_refl _) _).alloc (by simp) _))
  obtain ⟨ev, hev⟩ : ∃ ev, e.val = ev := ⟨_, rfl⟩
  have q1 : ∀ w, (binOp .eql 79 ev .nilIface).run Tryz.prog w = .ok (.bool false) w := fun w => by rw [← hev]; exact neNil e w
  have q2 : ∀ o1 o2 w, (eqGuard .eql 79 o1 o2 ev .nilIface).run Tryz.prog w = .ok () w := fun o1 o2 w => by rw [← hev]; exact neNilG e o1 o2 w
  rw [hev] at HL
  rw [hev]
  generalize decide (e.last.typ = T) = db at *
  generalize (if e.last.typ = T then e.last.txt else (⟨#[]⟩ : ByteArray)) = tx at *
  clear hev hg ht
  go_enter Tryz.func80, Tryz.ntmps80
  go_wp2_with fail
  refine HL.out.mono ?_
  rintro en w1 ⟨rfl, hw1, ht1⟩
  have HW1 := Lib.hid (HWI.out.trans hw1)
  have HT1 := Lib.hid ht1
  clear hw1 ht1
  go_wp2_with fail
  go_ret
  exact ⟨rfl, HW1.out, HT1.out⟩
/-! ### errors.Is of a fault of form -/
theorem isNil (w : World) :
    Calls Tryz.prog 81 #[.nilIface, .iface 147 (.agg #[.int .i64 1])] w fun e w' => e = .returned (.bool false) ∧ w = w' := by
  have y1 : ∀ w, (binOp .eql 79 .nilIface (.iface 147 (.agg #[.int .i64 1]))).run Tryz.prog w = .ok (.bool false) w := fun w => by rfl
  go_enter Tryz.func81, Tryz.ntmps81
  go_wp2_with fail
  go_ret
  exact ⟨rfl, rfl⟩
theorem comparable (w : World) : (ReflectliteType.method (fun t => do Rtype.noPackHeld "Comparable" t; Functor.map (fun a => Value.bool a.comparable) (typeInfo t)) #[.agg #[.pointer (some ⟨9, 147, none⟩)]]).run Tryz.prog w = .ok (.bool true) w := by kernel_rfl
theorem eqForm (w : World) : (binOp .eql 79 (.iface 147 (.agg #[.int .i64 1])) (.iface 147 (.agg #[.int .i64 1]))).run Tryz.prog w = .ok (.bool true) w := by kernel_rfl
theorem eqFormG (o1 o2 : Operand) (w : World) : (eqGuard .eql 79 o1 o2 (.iface 147 (.agg #[.int .i64 1])) (.iface 147 (.agg #[.int .i64 1]))).run Tryz.prog w = .ok () w := by rfl
theorem isForm (w : World) :
    Calls Tryz.prog 81 #[.iface 147 (.agg #[.int .i64 1]), .iface 147 (.agg #[.int .i64 1])] w fun e w' => e = .returned (.bool true) ∧ w = w' := by
  have x7 := @run_callFunc_extern Tryz.prog 131 _ (ReflectliteType.typeOf) Tryz.func131 (by kernel_rfl) (by kernel_rfl) (by kernel_rfl) (by kernel_rfl)
  have x8 := @run_callFunc_extern Tryz.prog 291 _ (ReflectliteType.method (fun t => do Rtype.noPackHeld "Comparable" t; pure (.bool (← typeInfo t).comparable))) Tryz.func291 (by kernel_rfl) (by kernel_rfl) (by kernel_rfl) (by kernel_rfl)
  have y0 := fun v w => typeOfS (E := 147) (.inl rfl) v w
  have y1 := comparable
  have y2 := mComparable
  have y3 := eqForm
  have y4 := eqFormG
  go_enter Tryz.func81, Tryz.ntmps81
  go_wp2
  refine wp_loop_rounds 1 ?_
  rw [rounds_succ]
  go_wp2
  go_ret
  exact ⟨rfl, rfl⟩
end Go.Proofs.YtceabbbmgfeofaaGreatDoor.ErrW
