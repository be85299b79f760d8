/-
  The field of a name, plainly. Conditions: none.
-/
import Derived.Test.YtmembhpoidcmlaaGreatDoorRows
import Derived.Test.YtmembhpoidcmlaaGreatDoorKindF
namespace Go.Proofs.YtmembhpoidcmlaaGreatDoor.Rw
open Go.RowKit Words Go.Maps
set_option linter.unusedVariables false
set_option maxRecDepth 100000
def zeroField:FieldP:=⟨⟨#[]⟩,⟨#[]⟩,false,false,0,0⟩
def fieldIn(nm:ByteArray):List FieldP→FieldP
 | []=>zeroField
 | x::l=>if x.name=nm then x else fieldIn nm l
def FieldP.tiny(x:FieldP):Prop:=x.name.size≤1048576∧x.typ.size≤1048576
theorem row6z{w:World}{b:Nat}{v0 v1 v2 v3 v4 v5:Value}(h:RowN w b 0 [v0,v1,v2,v3,v4,v5]) :
  w.cell? ⟨b,0,none⟩=some v0∧w.cell? ⟨b,1,none⟩=some v1∧w.cell? ⟨b,2,none⟩=some v2∧w.cell? ⟨b,3,none⟩=some v3∧w.cell? ⟨b,4,none⟩=some v4∧w.cell? ⟨b,5,none⟩=some v5 :=
 ⟨h 0 _ rfl,h 1 _ rfl,h 2 _ rfl,h 3 _ rfl,h 4 _ rfl,h 5 _ rfl⟩
theorem kept2z{w w1:World}{o1 o2:Obj}(hb:Below ((w.alloc o1).alloc o2).heap.size ((w.alloc o1).alloc o2) w1):w1.heap[w.heap.size]?=some o1∧w1.heap[w.heap.size+1]?=some o2:=by
 refine⟨by rw[hb.block _ (by simp;omega),Go.Deep.blk_alloc_lt _ _ _ (by simp)];exact heap_alloc_new w _,?_⟩
 rw[hb.block _ (by simp)]
 have:=heap_alloc_new (w.alloc o1) o2
 simpa using this
theorem rows_all{α:Type}{n:Nat}{L:World→Nat→Nat→Nat→Nat→α→Prop}{w:World}{A B len:Nat}{a:Option Addr}{l:List α}(h:RowsAt n L w A B a len l){P:α→Prop}(hp:∀ b o x,L w A B b o x→P x):∀ x∈l,P x:=fun x hx=>by
 obtain ⟨i,hi⟩:=List.mem_iff_getElem?.1 hx
 rcases h.2.2 with rfl|⟨b,off,_,_,_,hl⟩
 ·simp at hx
 ·exact hp _ _ _ (hl i x hi)
end Go.Proofs.YtmembhpoidcmlaaGreatDoor.Rw
