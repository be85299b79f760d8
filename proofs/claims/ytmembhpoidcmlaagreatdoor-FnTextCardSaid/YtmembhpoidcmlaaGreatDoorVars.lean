/-
  What the library's variables hold, as the calls need it, and that it lasts; no program. Conditions: as each theorem says.
-/
import Derived.Test.YtmembhpoidcmlaaGreatDoorRows
import Derived.WalkKit
import Derived.Outline
import Derived.LaidEql
import Derived.Stop.Asserts
import Derived.RowKitTokens
import Derived.Lib.Hide
import Derived.Test.YtmembhpoidcmlaaGreatDoorFmt
namespace Go.Proofs.YtmembhpoidcmlaaGreatDoor.ErrAs
open Go.RowKit Go.Extern.Stop Go.Stop Go.Extern
set_option linter.unusedVariables false
def ErrVar(w:World):Prop:=w.cell? ⟨0,0,none⟩=some (.iface 177 (.agg #[.pointer (some ⟨9,61,none⟩)]))
theorem ErrVar.lt{w:World}(h:ErrVar w):0<w.heap.size:=by
 rcases Nat.lt_or_ge 0 w.heap.size with k|k
 ·exact k
 ·unfold ErrVar World.cell? at h;rw[Array.getElem?_eq_none k] at h;simp at h
theorem ErrVar.below{w w':World}(h:ErrVar w)(hb:Below w.heap.size w w'):ErrVar w':=by
 unfold ErrVar;rw[hb.cell (p:=⟨0,0,none⟩) h.lt];exact h
theorem valueOfP(t:Addr)(w:World):(ReflectliteValue.unpack (.iface 120 (.pointer (some t)))).run Tryz.prog w
  = .ok (.agg #[.pointer (some ⟨9,120,none⟩),.pointer (some ⟨w.heap.size,0,none⟩),.int .u64 150]) (w.alloc (.cells #[.pointer (some t)] 120)):=by kernel_rfl
theorem typeP (a : Addr) (w : World) : (ReflectliteValue.methodAny (ReflectliteValue.valueError "reflectlite.Value.Type" 0) (fun t _ _ _ => ReflectliteType.toType t) #[.agg #[.pointer (some ⟨9, 120, none⟩), .pointer (some a), .int .u64 150]]).run Tryz.prog w
  = .ok (.iface 177 (.agg #[.pointer (some ⟨9,120,none⟩)])) w:=by kernel_rfl
theorem mKind (h : Value) (w : World) : (Go.method 371 177 (.agg #[h]) "Kind").run Tryz.prog w = .ok (181, h) w := by kernel_rfl
theorem mElem (h : Value) (w : World) : (Go.method 371 177 (.agg #[h]) "Elem").run Tryz.prog w = .ok (217, .agg #[h]) w := by kernel_rfl
theorem mImplements (h : Value) (w : World) : (Go.method 371 177 (.agg #[h]) "Implements").run Tryz.prog w = .ok (218, .agg #[h]) w := by kernel_rfl
theorem mAssignableTo (h : Value) (w : World) : (Go.method 371 177 (.agg #[h]) "AssignableTo").run Tryz.prog w = .ok (215, .agg #[h]) w := by kernel_rfl
theorem kindP(w:World):((ReflectliteType.abiMethod fun t=>Functor.map (fun a:Nat=>Value.int IntKind.u8 (a:Int)) (Rtype.kind t)) #[.pointer (some ⟨9,120,none⟩)]).run Tryz.prog w=.ok (.int .u8 22) w:=by kernel_rfl
theorem kindS(w:World):((ReflectliteType.abiMethod fun t=>Functor.map (fun a:Nat=>Value.int IntKind.u8 (a:Int)) (Rtype.kind t)) #[.pointer (some ⟨9,116,none⟩)]).run Tryz.prog w=.ok (.int .u8 25) w:=by kernel_rfl
theorem elemP(w:World):(ReflectliteType.method ReflectliteType.elem #[.agg #[.pointer (some ⟨9,120,none⟩)]]).run Tryz.prog w=.ok (.iface 177 (.agg #[.pointer (some ⟨9,116,none⟩)])) w:=by kernel_rfl
theorem implementsS (w : World) : (ReflectliteType.relation "Implements" ReflectliteType.implements_ #[.agg #[.pointer (some ⟨9, 116, none⟩)], .iface 177 (.agg #[.pointer (some ⟨9, 61, none⟩)])]).run Tryz.prog w = .ok (.bool true) w := by kernel_rfl
theorem typeOfS(v:Value)(w:World):(ReflectliteType.typeOf #[.iface 116 v]).run Tryz.prog w=.ok (.iface 177 (.agg #[.pointer (some ⟨9,116,none⟩)])) w:=by kernel_rfl
theorem assignableS (w : World) : (ReflectliteType.relation "AssignableTo" ReflectliteType.assignableTo #[.agg #[.pointer (some ⟨9, 116, none⟩)], .iface 177 (.agg #[.pointer (some ⟨9, 116, none⟩)])]).run Tryz.prog w = .ok (.bool true) w := by kernel_rfl
theorem valueOfS(c:Int)(w:World):(ReflectliteValue.unpack (.iface 116 (.agg #[.int .i64 c]))).run Tryz.prog w
  = .ok (.agg #[.pointer (some ⟨9,116,none⟩),.pointer (some ⟨w.heap.size,0,none⟩),.int .u64 153]) (w.alloc (.cells #[.int .i64 c] 116)):=by kernel_rfl
theorem partsP(a:Addr)(w:World):(ReflectliteValue.parts (.agg #[.pointer (some ⟨9,120,none⟩),.pointer (some a),.int .u64 150])).run Tryz.prog w=.ok (some (120,a,150)) w:=by kernel_rfl
theorem partsA(a:Addr)(w:World):(ReflectliteValue.parts (.agg #[.pointer (some ⟨9,116,none⟩),.pointer (some a),.int .u64 409])).run Tryz.prog w=.ok (some (116,a,409)) w:=by kernel_rfl
theorem partsS(a:Addr)(w:World):(ReflectliteValue.parts (.agg #[.pointer (some ⟨9,116,none⟩),.pointer (some a),.int .u64 153])).run Tryz.prog w=.ok (some (116,a,153)) w:=by kernel_rfl
theorem elemOfP(w:World):(Rtype.elem? 120).run Tryz.prog w=.ok (some 116) w:=by kernel_rfl
theorem mkS(p:Addr)(w:World):(ReflectliteValue.mk 116 p ReflectliteValue.flagAddr).run Tryz.prog w=.ok (.agg #[.pointer (some ⟨9,116,none⟩),.pointer (some p),.int .u64 409]) w:=by kernel_rfl
theorem directS(w:World):(Rtype.directlyAssignable 116 116).run Tryz.prog w=.ok true w:=by kernel_rfl
theorem sizeS(w:World):(sizeOf 116).run Tryz.prog w=.ok 1 w:=by kernel_rfl
theorem aggS(w:World):(isAgg 116).run Tryz.prog w=.ok true w:=by kernel_rfl
theorem method_one(z:Sem Value)(f:TypeId→Addr→Nat→Nat→Sem Value)(v:Value) :
  ReflectliteValue.method z f #[v]=(do match ←ReflectliteValue.parts v with | none=>z | some (t,a,fl)=>f t a fl (fl % 32)):=rfl
theorem isNilP(a p:Addr)(W:World)(ha:W.cell? a=some (.pointer (some p))) :
  (ReflectliteValue.method (ReflectliteValue.valueError "reflectlite.Value.IsNil" 0) ReflectliteValue.isNil #[.agg #[.pointer (some ⟨9, 120, none⟩), .pointer (some a), .int .u64 150]]).run Tryz.prog W = .ok (.bool false) W := by
 rw[method_one]
 simp only[Sem.run_bind,partsP,Result.andThen]
 simp[ReflectliteValue.isNil,loadVar,isAgg,underlying,Tryz.underlying120,ha,Result.andThen]
theorem elemV(a p:Addr)(W:World)(ha:W.cell? a=some (.pointer (some p))) :
  (ReflectliteValue.method (ReflectliteValue.valueError "reflectlite.Value.Elem" 0) ReflectliteValue.elem #[.agg #[.pointer (some ⟨9, 120, none⟩), .pointer (some a), .int .u64 150]]).run Tryz.prog W
   = .ok (.agg #[.pointer (some ⟨9,116,none⟩),.pointer (some p),.int .u64 409]) W:=by
 rw[method_one]
 simp only[Sem.run_bind,partsP,Result.andThen]
 simp[ReflectliteValue.elem,loadVar,isAgg,underlying,Tryz.underlying120,ha,Result.andThen,elemOfP,mkS]
theorem set_two(v x:Value):ReflectliteValue.set #[v,x]=(do
  let (some (dst,a,fl),some (src,b,_)):=(←ReflectliteValue.parts v,←ReflectliteValue.parts x)
   | unsupported (.noEntry "extern/(internal/reflectlite.Value).Set.zeroValue")
  if fl / ReflectliteValue.flagAddr % 2 == 0 then unsupported (.noEntry "extern/(internal/reflectlite.Value).Set.unaddressable")
  let val ←loadVar src b
  if ←Rtype.directlyAssignable dst src then storeVar dst a val
  else if ←Rtype.implements dst src then
   if (←Rtype.kind src) == 20 then
    match val with
    | .nilIface => unsupported (.noEntry "extern/reflectlite: a nil value of one interface type handed on as a value of another")
    | _=>storeVar dst a val
   else storeVar dst a (.iface src val)
  else panicString ("reflectlite.Set: value of type " ++ (← Rtype.spelt src) ++ " is not assignable to type " ++ (← Rtype.spelt dst))
  pure (.tuple #[])):=rfl
theorem loadS(b:Addr)(c:Int)(W:World)(hb:W.cell? b=some (.int .i64 c)):(loadVar 116 b).run Tryz.prog W=.ok (.agg #[.int .i64 c]) W:=by
 unfold loadVar
 have h:=run_loadCells_list (P:=Tryz.prog) W b [.int .i64 c] (fun j v hj=>by
  match j,hj with
  | 0,hj=>simp at hj;subst hj;simpa [Addr.add] using hb)
 simp only[List.length_cons,List.length_nil] at h
 simp only[Sem.run_bind,aggS,Result.andThen,sizeS,if_true]
 simp[h]
theorem setS(ta b:Addr)(c:Int)(old:Value)(W:World)(hb:W.cell? b=some (.int .i64 c))(ht:W.cell? ta=some old)(hf:W.frozen? ta=false) :
  (ReflectliteValue.set #[.agg #[.pointer (some ⟨9,116,none⟩),.pointer (some ta),.int .u64 409],.agg #[.pointer (some ⟨9,116,none⟩),.pointer (some b),.int .u64 153]]).run Tryz.prog W
   = .ok (.tuple #[]) (W.setCell ta (.int .i64 c)):=by
 rw[set_two]
 simp only[Sem.run_bind,partsA,partsS,Result.andThen]
 simp[ReflectliteValue.flagAddr,loadS b c W hb,Result.andThen,directS,storeVar,Value.cells,storeCells,Addr.add]
 rw[run_store Tryz.prog W ta _ _ (by rfl)]
 simp[ht,hf]
theorem asNil(x:Value)(w:World) :
  Calls Tryz.prog 71 #[.nilIface,x] w fun e w'=>e=.returned (.bool false)∧w=w':=by
 go_enter Tryz.func71,Tryz.ntmps71
 go_wp2
 go_ret
 exact⟨rfl,rfl⟩
theorem codeNil(w:World):Calls Tryz.prog 40 #[.nilIface] w fun e w'=>e=.returned (.int .i64 0)∧Below w.heap.size w w':=by
 go_enter Tryz.func40,Tryz.ntmps40
 go_wp2_with (go_at_call 71;refine(asNil _ _).mono ?_;rintro e w' ⟨rfl,rfl⟩)
 go_ret
 exact⟨rfl,(Below.refl _ _).alloc (Nat.le_refl _) _⟩
end Go.Proofs.YtmembhpoidcmlaaGreatDoor.ErrAs
namespace Go.Proofs.YtmembhpoidcmlaaGreatDoor.Decs
open Go.RowKit ErrAs
set_option linter.unusedVariables false
structure VarsNow(w:World):Prop where
 pow : Lib.TabIs Tryz.prog w "internal/strconv.uint64pow10" .u64 Lib.pow10Tab
 max:∃ m,w.cell? ⟨1,0,none⟩=some (.int .i64 m)
 syn:∃ t x,w.cell? ⟨5,0,none⟩=some (.iface t x)
 rng:∃ t x,w.cell? ⟨6,0,none⟩=some (.iface t x)
 err:ErrVar w
def Vars(B:Nat)(w:World):Prop:=∀ w',Below B w w'→VarsNow w'
theorem Vars.here{B:Nat}{w:World}(h:Vars B w):VarsNow w:=h w (Below.refl _ _)
theorem Vars.on{B:Nat}{w w1:World}(h:Vars B w)(hb:Below B w w1):Vars B w1:=fun w' g=>h w' (hb.trans g)
theorem Vars.mono{B C:Nat}{w:World}(h:Vars B w)(hB:B≤C):Vars C w:=fun w' hb=>h w' (hb.mono hB)
theorem Vars.over{B:Nat}{w w1:World}(h:Vars B w)(hB:B≤w.heap.size)(hb:Below w.heap.size w w1):Vars B w1:=h.on (hb.mono hB)
theorem Vars.new{w w1:World}(h:Vars w.heap.size w)(hb:Below w.heap.size w w1):Vars w1.heap.size w1:=(h.on hb).mono hb.size
theorem Vars.pow{B:Nat}{w:World}(h:Vars B w):Pow B w:=fun w' hb=>(h w' hb).pow
end Go.Proofs.YtmembhpoidcmlaaGreatDoor.Decs
