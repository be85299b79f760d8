/-
  A []byte of the call's own that reads as a list of bytes: append of one byte, string(b). Used by the contracts. Conditions: as each theorem says.
-/
import Derived.Test.YtmembhpoidcmlaaGreatDoorRows
import Derived.WalkKit
import Derived.Outline
import Derived.Lib.Hide
import Derived.Lib.Strings
import Derived.Lib.BufferWrite
import Derived.Lib.UnsafeStr
import Derived.Laws.MakeOwn
import Derived.Laws.IdiomStrings
import Derived.Lib.SlBytesRow
import Derived.Deep.OwnRows
import Derived.Laws.BytesArg
import Derived.Laws.OwnMore
namespace Go.Proofs.YtmembhpoidcmlaaGreatDoor.Texts
open Go.RowKit
set_option linter.unusedVariables false
theorem info5:(Tryz.prog.info? 5).map (fun i=>(i.zero,i.size,i.bytes))=some (some (.int .u8 0),1,1):=by kernel_rfl
theorem size5:(Tryz.prog.info? 5).map (·.size)=some 1:=by kernel_rfl
theorem cells5:Tryz.prog.cellsOf 5=1:=by kernel_rfl
def zeros(n:Nat):Array Value:=madeCells #[.int .u8 0] n
theorem zeros_size(n:Nat):(zeros n).size=n:=by simp[zeros,size_madeCells]
theorem make_bytes(n:Nat)(h:n≤281474976710656)(W:World) :
  (Instr.makeSlice 22 (.int .i64 (n:Int)) (.int .i64 (n:Int))).run Tryz.prog W=.ok (.slice (some ⟨W.heap.size,0,none⟩) n n) (W.alloc (.cells (zeros n) 5)) :=
 run_make_row' (P:=Tryz.prog) 22 5 (.int .u8 0) 1 Tryz.underlying22 info5 rfl .i64 .i64 n (by omega) (by omega) W
theorem empty_of_size{b:ByteArray}(h:b.size=0):b=ByteArray.empty:=by
 apply ByteArray.ext
 exact Array.eq_empty_of_size_eq_zero h
theorem below_row(w:World)(M Y:Array Value)(t:TypeId):Below w.heap.size w ((w.alloc (.cells M t)).setRow w.heap.size Y) :=
 ((Below.refl _ w).alloc (Nat.le_refl _) _).trans ⟨rfl,rfl,rfl,by simp,fun k hk=>setRow_other _ _ _ _ (by omega)⟩
theorem row_heap(w:World)(M Y:Array Value)(t:TypeId):((w.alloc (.cells M t)).setRow w.heap.size Y).heap[w.heap.size]?=some (.cells Y t (0,0)) :=
 setRow_heap _ _ M _ t (0,0) (heap_alloc_new w _)
theorem string_of_row{W:World}{g n:Nat}{Y:Array Value}{T:TypeId}{l:List UInt8}(h:W.heap[g]?=some (.cells Y T (0,0)))(hY:Y.toList=Lib.byteCells l)(hn:l.length=n)(cap:Nat) :
  (convert 22 9 (.slice (some ⟨g,0,none⟩) n cap)).run Tryz.prog W=.ok (.string ⟨l.toArray⟩) W:=by
 subst hn
 refine run_convert_bytes_back (P:=Tryz.prog) W 22 9 5 ⟨g,0,none⟩ cap l Tryz.underlying22 Tryz.underlying5 Tryz.underlying9 (fun j hj=>?_)
 exact Lib.cells_of_row h Y.size j _ (by rw[List.take_of_length_le (by rw[Array.length_toList];exact Nat.le_refl _),hY];simp[Lib.byteCells,hj])
theorem str_eq(s:ByteArray):(⟨s.data.toList.toArray⟩:ByteArray)=s:=by simp
end Go.Proofs.YtmembhpoidcmlaaGreatDoor.Texts
namespace Go.Proofs.YtmembhpoidcmlaaGreatDoor.Bytes
open Go.RowKit Texts
set_option linter.unusedVariables false
def u8of(n:Int):UInt8:=n.toNat.toUInt8
def OwnB(w:World)(base:Nat)(v:Value)(l:List UInt8):Prop:=w.ownsRow base 5 1 v l.length (Lib.byteCells l)
theorem OwnB.none_(w:World)(base:Nat):OwnB w base (.slice none 0 0) []:=World.ownsRow_nil w base _ _
theorem OwnB.made(w:World)(base:Nat)(hb:base≤w.heap.size):OwnB (w.alloc (.cells #[] 5)) base (.slice (some ⟨w.heap.size,0,none⟩) 0 0) [] :=
 World.ownsRow_lit (size:=1) w #[] 0 hb (by simp) rfl
theorem OwnB.alloc{w:World}{base:Nat}{v:Value}{l:List UInt8}(h:OwnB w base v l)(o:Obj):OwnB (w.alloc o) base v l:=World.ownsRow.alloc h o
theorem OwnB.drew{w:World}{base:Nat}{v:Value}{l:List UInt8}(h:OwnB w base v l):OwnB w.drew base v l:=h
theorem OwnB.string{w:World}{base:Nat}{v:Value}{l:List UInt8}(h:OwnB w base v l) :
  (convert 22 9 v).run Tryz.prog w=.ok (.string ⟨l.toArray⟩) w:=by
 obtain ⟨hl,⟨rfl,hn⟩|⟨g,cap,cur,rfl,hb,hg,hc,hm,hs,ht⟩⟩:=h
 ·obtain rfl:l=[]:=List.eq_nil_of_length_eq_zero hn
  exact run_convert_bytes_nil (P:=Tryz.prog) w 22 5 Tryz.underlying22 Tryz.underlying5 0 0 9 Tryz.underlying9
 ·refine run_convert_bytes_back (P:=Tryz.prog) w 22 9 5 ⟨g,0,none⟩ cap l Tryz.underlying22 Tryz.underlying5 Tryz.underlying9 (fun j hj=>?_)
  rw[Nat.mul_one] at ht
  exact Lib.cells_of_row hg l.length j _ (by rw[ht];simp[Lib.byteCells,hj])
theorem one_new(w:World)(v:Value)(T:TypeId):(w.alloc (.cells #[v] T)).cell? ⟨w.heap.size,0,none⟩=some v:=by simp
theorem row_cell{W:World}{g k:Nat}{C:Array Value}{T:TypeId}(h:W.heap[g]?=some (.cells C T (0,0)))(hk:k<C.size):W.cell? ⟨g,k,none⟩=some C[k]:=by
 simp[World.cell?,h,hk]
end Go.Proofs.YtmembhpoidcmlaaGreatDoor.Bytes
