/-
  Contracts: errors.As at the types of what is wrong, over an error that may stand within others. Condition: the library's variable errors.errorType holds the handle of the type error.
-/
import Derived.Test.YthdncjdopejkkaaDoorRows
import Derived.Test.YthdncjdopejkkaaDoorErrV
import Derived.WalkKit
import Derived.Outline
import Derived.LaidEql
import Derived.Stop.Asserts
import Derived.RowKitTokens
import Derived.Lib.Hide
namespace Go.Proofs.YthdncjdopejkkaaDoor.ErrW
open Go.RowKit Go.Extern.Stop Go.Stop Go.Extern
set_option linter.unusedVariables false
set_option maxRecDepth 100000

/-- The library's variable holds the handle of 'error'. -/
def ErrVar (w : World) : Prop := w.cell? ⟨0, 0, none⟩ = some (.iface 122 (.agg #[.pointer (some ⟨1, 44, none⟩)]))
theorem ErrVar.lt {w : World} (h : ErrVar w) : 0 < w.heap.size := by
  rcases Nat.lt_or_ge 0 w.heap.size with k | k
  · exact k
  · unfold ErrVar World.cell? at h; rw [Array.getElem?_eq_none k] at h; simp at h
theorem ErrVar.below {w w' : World} (h : ErrVar w) (hb : Below w.heap.size w w') : ErrVar w' := by
  unfold ErrVar; rw [hb.cell (p := ⟨0, 0, none⟩) h.lt]; exact h

/-- The four types of texts that are errors, and the pointers to them. -/
def Wrong (T : TypeId) : Prop := T = 69 ∨ T = 70 ∨ T = 71 ∨ T = 72
def pT (T : TypeId) : TypeId := if T = 69 then 74 else if T = 70 then 75 else if T = 71 then 76 else 77
def Errs (E : TypeId) : Prop := E = 80 ∨ E = 69 ∨ E = 70 ∨ E = 71 ∨ E = 72
theorem Leaf.errs (l : Leaf) : Errs l.typ := by cases l <;> simp [Errs, Leaf.typ]

/-! ### Closed facts on the model's entries for internal/reflectlite, at the types of this dump -/
section
variable {T : TypeId} (hT : Wrong T)
include hT
theorem valueOfP (t : Addr) (w : World) : (ReflectliteValue.unpack (.iface (pT T) (.pointer (some t)))).run Tryd.prog w
    = .ok (.agg #[.pointer (some ⟨1, pT T, none⟩), .pointer (some ⟨w.heap.size, 0, none⟩), .int .u64 150]) (w.alloc (.cells #[.pointer (some t)] (pT T))) := by rcases hT with rfl | rfl | rfl | rfl <;> kernel_rfl
theorem typeP (a : Addr) (w : World) : (ReflectliteValue.methodAny (ReflectliteValue.valueError "reflectlite.Value.Type" 0) (fun t _ _ _ => ReflectliteType.toType t) #[.agg #[.pointer (some ⟨1, pT T, none⟩), .pointer (some a), .int .u64 150]]).run Tryd.prog w
    = .ok (.iface 122 (.agg #[.pointer (some ⟨1, pT T, none⟩)])) w := by rcases hT with rfl | rfl | rfl | rfl <;> kernel_rfl
theorem kindP (w : World) : ((ReflectliteType.abiMethod fun t => Functor.map (fun a : Nat => Value.int IntKind.u8 (a : Int)) (Rtype.kind t)) #[.pointer (some ⟨1, pT T, none⟩)]).run Tryd.prog w = .ok (.int .u8 22) w := by rcases hT with rfl | rfl | rfl | rfl <;> kernel_rfl
theorem kindS (w : World) : ((ReflectliteType.abiMethod fun t => Functor.map (fun a : Nat => Value.int IntKind.u8 (a : Int)) (Rtype.kind t)) #[.pointer (some ⟨1, T, none⟩)]).run Tryd.prog w = .ok (.int .u8 24) w := by rcases hT with rfl | rfl | rfl | rfl <;> kernel_rfl
theorem elemP (w : World) : (ReflectliteType.method ReflectliteType.elem #[.agg #[.pointer (some ⟨1, pT T, none⟩)]]).run Tryd.prog w = .ok (.iface 122 (.agg #[.pointer (some ⟨1, T, none⟩)])) w := by rcases hT with rfl | rfl | rfl | rfl <;> kernel_rfl
theorem implementsS (w : World) : (ReflectliteType.relation "Implements" ReflectliteType.implements_ #[.agg #[.pointer (some ⟨1, T, none⟩)], .iface 122 (.agg #[.pointer (some ⟨1, 44, none⟩)])]).run Tryd.prog w = .ok (.bool true) w := by rcases hT with rfl | rfl | rfl | rfl <;> kernel_rfl
theorem valueOfS (s : ByteArray) (w : World) : (ReflectliteValue.unpack (.iface T (.string s))).run Tryd.prog w
    = .ok (.agg #[.pointer (some ⟨1, T, none⟩), .pointer (some ⟨w.heap.size, 0, none⟩), .int .u64 152]) (w.alloc (.cells #[.string s] T)) := by rcases hT with rfl | rfl | rfl | rfl <;> kernel_rfl
theorem partsP (a : Addr) (w : World) : (ReflectliteValue.parts (.agg #[.pointer (some ⟨1, pT T, none⟩), .pointer (some a), .int .u64 150])).run Tryd.prog w = .ok (some (pT T, a, 150)) w := by rcases hT with rfl | rfl | rfl | rfl <;> kernel_rfl
theorem partsA (a : Addr) (w : World) : (ReflectliteValue.parts (.agg #[.pointer (some ⟨1, T, none⟩), .pointer (some a), .int .u64 408])).run Tryd.prog w = .ok (some (T, a, 408)) w := by rcases hT with rfl | rfl | rfl | rfl <;> kernel_rfl
theorem partsS (a : Addr) (w : World) : (ReflectliteValue.parts (.agg #[.pointer (some ⟨1, T, none⟩), .pointer (some a), .int .u64 152])).run Tryd.prog w = .ok (some (T, a, 152)) w := by rcases hT with rfl | rfl | rfl | rfl <;> kernel_rfl
theorem elemOfP (w : World) : (Rtype.elem? (pT T)).run Tryd.prog w = .ok (some T) w := by rcases hT with rfl | rfl | rfl | rfl <;> kernel_rfl
theorem mkS (p : Addr) (w : World) : (ReflectliteValue.mk T p ReflectliteValue.flagAddr).run Tryd.prog w = .ok (.agg #[.pointer (some ⟨1, T, none⟩), .pointer (some p), .int .u64 408]) w := by rcases hT with rfl | rfl | rfl | rfl <;> kernel_rfl
theorem directS (w : World) : (Rtype.directlyAssignable T T).run Tryd.prog w = .ok true w := by rcases hT with rfl | rfl | rfl | rfl <;> kernel_rfl
theorem sizeS (w : World) : (sizeOf T).run Tryd.prog w = .ok 1 w := by rcases hT with rfl | rfl | rfl | rfl <;> kernel_rfl
theorem aggS (w : World) : (isAgg T).run Tryd.prog w = .ok false w := by rcases hT with rfl | rfl | rfl | rfl <;> kernel_rfl
theorem aggP (w : World) : (isAgg (pT T)).run Tryd.prog w = .ok false w := by rcases hT with rfl | rfl | rfl | rfl <;> kernel_rfl
theorem assignS {E : TypeId} (hE : Errs E) (w : World) : (ReflectliteType.relation "AssignableTo" ReflectliteType.assignableTo #[.agg #[.pointer (some ⟨1, E, none⟩)], .iface 122 (.agg #[.pointer (some ⟨1, T, none⟩)])]).run Tryd.prog w = .ok (.bool (decide (E = T))) w := by
  rcases hT with rfl | rfl | rfl | rfl <;> rcases hE with rfl | rfl | rfl | rfl | rfl <;> kernel_rfl
theorem assignQ (w : World) : (ReflectliteType.relation "AssignableTo" ReflectliteType.assignableTo #[.agg #[.pointer (some ⟨1, 94, none⟩)], .iface 122 (.agg #[.pointer (some ⟨1, T, none⟩)])]).run Tryd.prog w = .ok (.bool false) w := by
  rcases hT with rfl | rfl | rfl | rfl <;> kernel_rfl
end
theorem mKind (h : Value) (w : World) : (Go.method 272 122 (.agg #[h]) "Kind").run Tryd.prog w = .ok (83, h) w := by kernel_rfl
theorem mElem (h : Value) (w : World) : (Go.method 272 122 (.agg #[h]) "Elem").run Tryd.prog w = .ok (99, .agg #[h]) w := by kernel_rfl
theorem mImplements (h : Value) (w : World) : (Go.method 272 122 (.agg #[h]) "Implements").run Tryd.prog w = .ok (100, .agg #[h]) w := by kernel_rfl
theorem mAssignableTo (h : Value) (w : World) : (Go.method 272 122 (.agg #[h]) "AssignableTo").run Tryd.prog w = .ok (97, .agg #[h]) w := by kernel_rfl
theorem mComparable (h : Value) (w : World) : (Go.method 272 122 (.agg #[h]) "Comparable").run Tryd.prog w = .ok (98, .agg #[h]) w := by kernel_rfl
theorem mUnwrap (i : ByteArray) (x : Value) (w : World) : (Go.method 272 94 (.agg #[.string i, x]) "Unwrap").run Tryd.prog w = .ok (92, .agg #[.string i, x]) w := by kernel_rfl
theorem typeOfS {E : TypeId} (hE : Errs E) (v : Value) (w : World) : (ReflectliteType.typeOf #[.iface E v]).run Tryd.prog w = .ok (.iface 122 (.agg #[.pointer (some ⟨1, E, none⟩)])) w := by rcases hE with rfl | rfl | rfl | rfl | rfl <;> kernel_rfl
theorem typeOfQ (v : Value) (w : World) : (ReflectliteType.typeOf #[.iface 94 v]).run Tryd.prog w = .ok (.iface 122 (.agg #[.pointer (some ⟨1, 94, none⟩)])) w := by kernel_rfl
theorem noAs {E : TypeId} (hE : Errs E) (v : Value) (xT : TypeId) (w : World) : (Instr.typeAssert (.iface E v) xT 126 true).run Tryd.prog w = .ok (.tuple #[.nilIface, .bool false]) w := by
  rcases hE with rfl | rfl | rfl | rfl | rfl <;> exact run_typeAssert_lacksB Tryd.underlying126 (by kernel_rfl) (by kernel_rfl) v xT w
theorem noUnwrap {E : TypeId} (hE : Errs E) (v : Value) (xT : TypeId) (w : World) : (Instr.typeAssert (.iface E v) xT 129 true).run Tryd.prog w = .ok (.tuple #[.nilIface, .bool false]) w := by
  rcases hE with rfl | rfl | rfl | rfl | rfl <;> exact run_typeAssert_lacksB Tryd.underlying129 (by kernel_rfl) (by kernel_rfl) v xT w
theorem noUnwraps {E : TypeId} (hE : Errs E) (v : Value) (xT : TypeId) (w : World) : (Instr.typeAssert (.iface E v) xT 131 true).run Tryd.prog w = .ok (.tuple #[.nilIface, .bool false]) w := by
  rcases hE with rfl | rfl | rfl | rfl | rfl <;> exact run_typeAssert_lacksB Tryd.underlying131 (by kernel_rfl) (by kernel_rfl) v xT w
theorem noAsQ (v : Value) (xT : TypeId) (w : World) : (Instr.typeAssert (.iface 94 v) xT 126 true).run Tryd.prog w = .ok (.tuple #[.nilIface, .bool false]) w := run_typeAssert_lacksB Tryd.underlying126 (by kernel_rfl) (by kernel_rfl) v xT w
theorem hasUnwrap (v : Value) (xT : TypeId) (w : World) : (Instr.typeAssert (.iface 94 v) xT 129 true).run Tryd.prog w = .ok (.tuple #[.iface 94 v, .bool true]) w := run_typeAssert_hasB Tryd.underlying129 (by kernel_rfl) v xT w

/-! ### The entries that read or write memory -/
theorem method_one (z : Sem Value) (f : TypeId → Addr → Nat → Nat → Sem Value) (v : Value) :
    ReflectliteValue.method z f #[v] = (do match ← ReflectliteValue.parts v with | none => z | some (t, a, fl) => f t a fl (fl % 32)) := rfl
theorem isNilP {T : TypeId} (hT : Wrong T) (a p : Addr) (W : World) (ha : W.cell? a = some (.pointer (some p))) :
    (ReflectliteValue.method (ReflectliteValue.valueError "reflectlite.Value.IsNil" 0) ReflectliteValue.isNil #[.agg #[.pointer (some ⟨1, pT T, none⟩), .pointer (some a), .int .u64 150]]).run Tryd.prog W = .ok (.bool false) W := by
  rw [method_one]
  simp only [Sem.run_bind, partsP hT, Result.andThen]
  simp [ReflectliteValue.isNil, loadVar, aggP hT, ha, Result.andThen]
theorem elemV {T : TypeId} (hT : Wrong T) (a p : Addr) (W : World) (ha : W.cell? a = some (.pointer (some p))) :
    (ReflectliteValue.method (ReflectliteValue.valueError "reflectlite.Value.Elem" 0) ReflectliteValue.elem #[.agg #[.pointer (some ⟨1, pT T, none⟩), .pointer (some a), .int .u64 150]]).run Tryd.prog W
      = .ok (.agg #[.pointer (some ⟨1, T, none⟩), .pointer (some p), .int .u64 408]) W := by
  rw [method_one]
  simp only [Sem.run_bind, partsP hT, Result.andThen]
  simp [ReflectliteValue.elem, loadVar, aggP hT, ha, Result.andThen, elemOfP hT, mkS hT]
theorem set_two (v x : Value) : ReflectliteValue.set #[v, x] = (do
    let (some (dst, a, fl), some (src, b, _)) := (← ReflectliteValue.parts v, ← ReflectliteValue.parts x)
      | unsupported (.noEntry "extern/(internal/reflectlite.Value).Set.zeroValue")
    if fl / ReflectliteValue.flagAddr % 2 == 0 then unsupported (.noEntry "extern/(internal/reflectlite.Value).Set.unaddressable")
    let val ← loadVar src b
    if ← Rtype.directlyAssignable dst src then storeVar dst a val
    else if ← Rtype.implements dst src then
      if (← Rtype.kind src) == 20 then
        match val with
        | .nilIface => unsupported (.noEntry "extern/reflectlite: a nil value of one interface type handed on as a value of another")
        | _ => storeVar dst a val
      else storeVar dst a (.iface src val)
    else panicString ("reflectlite.Set: value of type " ++ (← Rtype.spelt src) ++ " is not assignable to type " ++ (← Rtype.spelt dst))
    pure (.tuple #[])) := rfl
theorem loadS {T : TypeId} (hT : Wrong T) (b : Addr) (s : ByteArray) (W : World) (hb : W.cell? b = some (.string s)) : (loadVar T b).run Tryd.prog W = .ok (.string s) W := by
  unfold loadVar
  simp only [Sem.run_bind, aggS hT, Result.andThen]
  simp [hb]
theorem setS {T : TypeId} (hT : Wrong T) (ta b : Addr) (s : ByteArray) (old : Value) (W : World) (hb : W.cell? b = some (.string s)) (ht : W.cell? ta = some old) (hf : W.frozen? ta = false) :
    (ReflectliteValue.set #[.agg #[.pointer (some ⟨1, T, none⟩), .pointer (some ta), .int .u64 408], .agg #[.pointer (some ⟨1, T, none⟩), .pointer (some b), .int .u64 152]]).run Tryd.prog W
      = .ok (.tuple #[]) (W.setCell ta (.string s)) := by
  rw [set_two]
  simp only [Sem.run_bind, partsA hT, partsS hT, Result.andThen]
  simp [ReflectliteValue.flagAddr, loadS hT b s W hb, Result.andThen, directS hT, storeVar, sizeS hT, Value.cells, storeCells, Addr.add]
  rw [run_store Tryd.prog W ta _ _ (by rfl)]
  simp [ht, hf]
end Go.Proofs.YthdncjdopejkkaaDoor.ErrW
