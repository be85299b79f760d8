/-
  Contracts: errors.As at impl.remaining and at impl.fault, over what a purse's errors are; impl.codeOf. Condition: the library's variable errors.errorType holds the handle of the type error.
-/
import Derived.Test.YtlbjnblbjbdaaaaDoorRows
import Derived.Test.YtlbjnblbjbdaaaaDoorPurF
import Derived.Stop.Asserts
import Derived.RowKitTokens
namespace Go.Proofs.YtlbjnblbjbdaaaaDoor.Pur
open Go.RowKit Go.Extern.Stop Go.Stop Go.Extern Rw Bnd
set_option linter.unusedVariables false
set_option maxRecDepth 100000

/-- The library's variable holds the handle of 'error'. -/
def ErrVar (w : World) : Prop := w.cell? ⟨0, 0, none⟩ = some (.iface 87 (.agg #[.pointer (some ⟨1, 50, none⟩)]))
theorem ErrVar.lt {w : World} (h : ErrVar w) : 0 < w.heap.size := by
  rcases Nat.lt_or_ge 0 w.heap.size with k | k
  · exact k
  · unfold ErrVar World.cell? at h; rw [Array.getElem?_eq_none k] at h; simp at h
theorem ErrVar.below {w w' : World} (h : ErrVar w) (hb : Below w.heap.size w w') : ErrVar w' := by
  unfold ErrVar; rw [hb.cell (p := ⟨0, 0, none⟩) h.lt]; exact h

/-- What a purse's errors are: a fault with a code; what is left; a refusal, which stands around what is left. -/
inductive PErr where
  | fault (k : Int)
  | left (p : BP)
  | refused (c : Int) (p : BP)
def PErr.typ : PErr → TypeId
  | .fault _ => 68
  | .left _ => 55
  | .refused _ _ => 70
def PErr.pay : PErr → Value
  | .fault k => .agg #[.int .i64 k]
  | .left p => p.val
  | .refused c p => .agg #[.int .i64 c, .int .i64 p.d, .int .i64 p.c, .int .i64 p.n, .int .i64 p.b]
def PErr.val (e : PErr) : Value := .iface e.typ e.pay
/-- The two types that are asked for. -/
def Wrong (T : TypeId) : Prop := T = 68 ∨ T = 55
def pT (T : TypeId) : TypeId := if T = 68 then 84 else 57
def Errs (E : TypeId) : Prop := E = 68 ∨ E = 55 ∨ E = 70
theorem PErr.errs (l : PErr) : Errs l.typ := by cases l <;> simp [Errs, PErr.typ]

section
variable {T : TypeId} (hT : Wrong T)
include hT
theorem valueOfP (t : Addr) (w : World) : (ReflectliteValue.unpack (.iface (pT T) (.pointer (some t)))).run Tryd.prog w
    = .ok (.agg #[.pointer (some ⟨1, pT T, none⟩), .pointer (some ⟨w.heap.size, 0, none⟩), .int .u64 150]) (w.alloc (.cells #[.pointer (some t)] (pT T))) := by rcases hT with rfl | rfl <;> kernel_rfl
theorem typeP (a : Addr) (w : World) : (ReflectliteValue.methodAny (ReflectliteValue.valueError "reflectlite.Value.Type" 0) (fun t _ _ _ => ReflectliteType.toType t) #[.agg #[.pointer (some ⟨1, pT T, none⟩), .pointer (some a), .int .u64 150]]).run Tryd.prog w
    = .ok (.iface 87 (.agg #[.pointer (some ⟨1, pT T, none⟩)])) w := by rcases hT with rfl | rfl <;> kernel_rfl
theorem kindP (w : World) : ((ReflectliteType.abiMethod fun t => Functor.map (fun a : Nat => Value.int IntKind.u8 (a : Int)) (Rtype.kind t)) #[.pointer (some ⟨1, pT T, none⟩)]).run Tryd.prog w = .ok (.int .u8 22) w := by rcases hT with rfl | rfl <;> kernel_rfl
theorem kindS (w : World) : ((ReflectliteType.abiMethod fun t => Functor.map (fun a : Nat => Value.int IntKind.u8 (a : Int)) (Rtype.kind t)) #[.pointer (some ⟨1, T, none⟩)]).run Tryd.prog w = .ok (.int .u8 25) w := by rcases hT with rfl | rfl <;> kernel_rfl
theorem elemP (w : World) : (ReflectliteType.method ReflectliteType.elem #[.agg #[.pointer (some ⟨1, pT T, none⟩)]]).run Tryd.prog w = .ok (.iface 87 (.agg #[.pointer (some ⟨1, T, none⟩)])) w := by rcases hT with rfl | rfl <;> kernel_rfl
theorem implementsS (w : World) : (ReflectliteType.relation "Implements" ReflectliteType.implements_ #[.agg #[.pointer (some ⟨1, T, none⟩)], .iface 87 (.agg #[.pointer (some ⟨1, 50, none⟩)])]).run Tryd.prog w = .ok (.bool true) w := by rcases hT with rfl | rfl <;> kernel_rfl
theorem partsP (a : Addr) (w : World) : (ReflectliteValue.parts (.agg #[.pointer (some ⟨1, pT T, none⟩), .pointer (some a), .int .u64 150])).run Tryd.prog w = .ok (some (pT T, a, 150)) w := by rcases hT with rfl | rfl <;> kernel_rfl
theorem partsA (a : Addr) (w : World) : (ReflectliteValue.parts (.agg #[.pointer (some ⟨1, T, none⟩), .pointer (some a), .int .u64 409])).run Tryd.prog w = .ok (some (T, a, 409)) w := by rcases hT with rfl | rfl <;> kernel_rfl
theorem partsS (a : Addr) (w : World) : (ReflectliteValue.parts (.agg #[.pointer (some ⟨1, T, none⟩), .pointer (some a), .int .u64 153])).run Tryd.prog w = .ok (some (T, a, 153)) w := by rcases hT with rfl | rfl <;> kernel_rfl
theorem elemOfP (w : World) : (Rtype.elem? (pT T)).run Tryd.prog w = .ok (some T) w := by rcases hT with rfl | rfl <;> kernel_rfl
theorem mkS (p : Addr) (w : World) : (ReflectliteValue.mk T p ReflectliteValue.flagAddr).run Tryd.prog w = .ok (.agg #[.pointer (some ⟨1, T, none⟩), .pointer (some p), .int .u64 409]) w := by rcases hT with rfl | rfl <;> kernel_rfl
theorem directS (w : World) : (Rtype.directlyAssignable T T).run Tryd.prog w = .ok true w := by rcases hT with rfl | rfl <;> kernel_rfl
theorem aggS (w : World) : (isAgg T).run Tryd.prog w = .ok true w := by rcases hT with rfl | rfl <;> kernel_rfl
theorem aggP (w : World) : (isAgg (pT T)).run Tryd.prog w = .ok false w := by rcases hT with rfl | rfl <;> kernel_rfl
theorem assignS {E : TypeId} (hE : Errs E) (w : World) : (ReflectliteType.relation "AssignableTo" ReflectliteType.assignableTo #[.agg #[.pointer (some ⟨1, E, none⟩)], .iface 87 (.agg #[.pointer (some ⟨1, T, none⟩)])]).run Tryd.prog w = .ok (.bool (decide (E = T))) w := by
  rcases hT with rfl | rfl <;> rcases hE with rfl | rfl | rfl <;> kernel_rfl
end
theorem sizeF (w : World) : (sizeOf 68).run Tryd.prog w = .ok 1 w := by kernel_rfl
theorem sizeL (w : World) : (sizeOf 55).run Tryd.prog w = .ok 4 w := by kernel_rfl
theorem valueOfF (k : Int) (w : World) : (ReflectliteValue.unpack (.iface 68 (.agg #[.int .i64 k]))).run Tryd.prog w
    = .ok (.agg #[.pointer (some ⟨1, 68, none⟩), .pointer (some ⟨w.heap.size, 0, none⟩), .int .u64 153]) (w.alloc (.cells #[.int .i64 k] 68)) := by kernel_rfl
theorem valueOfL (p : BP) (w : World) : (ReflectliteValue.unpack (.iface 55 p.val)).run Tryd.prog w
    = .ok (.agg #[.pointer (some ⟨1, 55, none⟩), .pointer (some ⟨w.heap.size, 0, none⟩), .int .u64 153]) (w.alloc (.cells #[.int .i64 p.d, .int .i64 p.c, .int .i64 p.n, .int .i64 p.b] 55)) := by kernel_rfl
theorem mKind (h : Value) (w : World) : (Go.method 230 87 (.agg #[h]) "Kind").run Tryd.prog w = .ok (56, h) w := by kernel_rfl
theorem mElem (h : Value) (w : World) : (Go.method 230 87 (.agg #[h]) "Elem").run Tryd.prog w = .ok (69, .agg #[h]) w := by kernel_rfl
theorem mImplements (h : Value) (w : World) : (Go.method 230 87 (.agg #[h]) "Implements").run Tryd.prog w = .ok (70, .agg #[h]) w := by kernel_rfl
theorem mAssignableTo (h : Value) (w : World) : (Go.method 230 87 (.agg #[h]) "AssignableTo").run Tryd.prog w = .ok (67, .agg #[h]) w := by kernel_rfl
theorem mUnwrap (v : Value) (w : World) : (Go.method 230 70 v "Unwrap").run Tryd.prog w = .ok (62, v) w := by kernel_rfl
theorem typeOfS {E : TypeId} (hE : Errs E) (v : Value) (w : World) : (ReflectliteType.typeOf #[.iface E v]).run Tryd.prog w = .ok (.iface 87 (.agg #[.pointer (some ⟨1, E, none⟩)])) w := by rcases hE with rfl | rfl | rfl <;> kernel_rfl
theorem noAs {E : TypeId} (hE : Errs E) (v : Value) (xT : TypeId) (w : World) : (Instr.typeAssert (.iface E v) xT 92 true).run Tryd.prog w = .ok (.tuple #[.nilIface, .bool false]) w := by
  rcases hE with rfl | rfl | rfl <;> exact run_typeAssert_lacksB Tryd.underlying92 (by kernel_rfl) (by kernel_rfl) v xT w
theorem noUnwrap {E : TypeId} (hE : E = 68 ∨ E = 55) (v : Value) (xT : TypeId) (w : World) : (Instr.typeAssert (.iface E v) xT 95 true).run Tryd.prog w = .ok (.tuple #[.nilIface, .bool false]) w := by
  rcases hE with rfl | rfl <;> exact run_typeAssert_lacksB Tryd.underlying95 (by kernel_rfl) (by kernel_rfl) v xT w
theorem noUnwraps {E : TypeId} (hE : E = 68 ∨ E = 55) (v : Value) (xT : TypeId) (w : World) : (Instr.typeAssert (.iface E v) xT 97 true).run Tryd.prog w = .ok (.tuple #[.nilIface, .bool false]) w := by
  rcases hE with rfl | rfl <;> exact run_typeAssert_lacksB Tryd.underlying97 (by kernel_rfl) (by kernel_rfl) v xT w
theorem hasUnwrap (v : Value) (xT : TypeId) (w : World) : (Instr.typeAssert (.iface 70 v) xT 95 true).run Tryd.prog w = .ok (.tuple #[.iface 70 v, .bool true]) w := run_typeAssert_hasB Tryd.underlying95 (by kernel_rfl) v xT w

/-! ### The entries that read or write memory -/
theorem method_one (z : Sem Value) (f : TypeId → Addr → Nat → Nat → Sem Value) (v : Value) :
    ReflectliteValue.method z f #[v] = (do match ← ReflectliteValue.parts v with | none => z | some (t, a, fl) => f t a fl (fl % 32)) := rfl
theorem isNilP {T : TypeId} (hT : Wrong T) (a p : Addr) (W : World) (ha : W.cell? a = some (.pointer (some p))) :
    (ReflectliteValue.method (ReflectliteValue.valueError "reflectlite.Value.IsNil" 0) ReflectliteValue.isNil #[.agg #[.pointer (some ⟨1, pT T, none⟩), .pointer (some a), .int .u64 150]]).run Tryd.prog W = .ok (.bool false) W := by
  rw [method_one]
  simp only [Sem.run_bind, partsP hT, Result.andThen]
  simp [ReflectliteValue.isNil, loadVar, aggP hT, ha, Result.andThen]
theorem elemV {T : TypeId} (hT : Wrong T) (a p : Addr) (W : World) (ha : W.cell? a = some (.pointer (some p))) :
    (ReflectliteValue.method (ReflectliteValue.valueError "reflectlite.Value.Elem" 0) ReflectliteValue.elem #[.agg #[.pointer (some ⟨1, pT T, none⟩), .pointer (some a), .int .u64 150]]).run Tryd.prog W
      = .ok (.agg #[.pointer (some ⟨1, T, none⟩), .pointer (some p), .int .u64 409]) W := by
  rw [method_one]
  simp only [Sem.run_bind, partsP hT, Result.andThen]
  simp [ReflectliteValue.elem, loadVar, aggP hT, ha, Result.andThen, elemOfP hT, mkS hT]
theorem set_two (v x : Value) : ReflectliteValue.set #[v, x] = (do
    let (some (dst, a, fl), some (src, b, _)) := (← ReflectliteValue.parts v, ← ReflectliteValue.parts x)
      | unsupported (.noEntry "extern/(internal/reflectlite.Value).Set.zeroValue")
    if fl / ReflectliteValue.flagAddr % 2 == 0 then unsupported (.noEntry "extern/(internal/reflectlite.Value).Set.unaddressable")
    let val ← loadVar src b
    if ← Rtype.directlyAssignable dst src then storeVar dst a val
    else if ← Rtype.implements dst src then
      if (← Rtype.kind src) == 20 then
        match val with
        | .nilIface => unsupported (.noEntry "extern/reflectlite: a nil value of one interface type handed on as a value of another")
        | _ => storeVar dst a val
      else storeVar dst a (.iface src val)
    else panicString ("reflectlite.Set: value of type " ++ (← Rtype.spelt src) ++ " is not assignable to type " ++ (← Rtype.spelt dst))
    pure (.tuple #[])) := rfl
theorem loadF (b : Addr) (c : Int) (W : World) (hb : W.cell? b = some (.int .i64 c)) : (loadVar 68 b).run Tryd.prog W = .ok (.agg #[.int .i64 c]) W := by
  unfold loadVar
  have h := run_loadCells_list (P := Tryd.prog) W b [.int .i64 c] (fun j v hj => by
    match j, hj with
    | 0, hj => simp at hj; subst hj; simpa [Addr.add] using hb)
  simp only [List.length_cons, List.length_nil] at h
  simp only [Sem.run_bind, aggS (.inl rfl), Result.andThen, sizeF, if_true]
  simp [h]
theorem setF (ta b : Addr) (c : Int) (old : Value) (W : World) (hb : W.cell? b = some (.int .i64 c)) (ht : W.cell? ta = some old) (hf : W.frozen? ta = false) :
    (ReflectliteValue.set #[.agg #[.pointer (some ⟨1, 68, none⟩), .pointer (some ta), .int .u64 409], .agg #[.pointer (some ⟨1, 68, none⟩), .pointer (some b), .int .u64 153]]).run Tryd.prog W
      = .ok (.tuple #[]) (W.setCell ta (.int .i64 c)) := by
  rw [set_two]
  simp only [Sem.run_bind, partsA (.inl rfl), partsS (.inl rfl), Result.andThen]
  simp [ReflectliteValue.flagAddr, loadF b c W hb, Result.andThen, directS (.inl rfl), storeVar, Value.cells, storeCells, Addr.add]
  rw [run_store Tryd.prog W ta _ _ (by rfl)]
  simp [ht, hf]
end Go.Proofs.YtlbjnblbjbdaaaaDoor.Pur
