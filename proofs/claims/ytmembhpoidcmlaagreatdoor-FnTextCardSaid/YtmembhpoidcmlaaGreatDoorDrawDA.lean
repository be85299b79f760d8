/-
  Selections that are being drawn: rows of the call's own, each with what is within it of its own; an append that tells which block has grown; what is right of a schema, as the draws ask it. Conditions: as each theorem says.
-/
import Derived.Test.YtmembhpoidcmlaaGreatDoorRows
import Derived.Test.YtmembhpoidcmlaaGreatDoorOwnRw
import Derived.Test.YtmembhpoidcmlaaGreatDoorOwnAll
import Derived.Test.YtmembhpoidcmlaaGreatDoorFieldP
import Derived.Test.YtmembhpoidcmlaaGreatDoorSchT
import Derived.Test.YtmembhpoidcmlaaGreatDoorOwnSel
import Derived.Test.YtmembhpoidcmlaaGreatDoorReadS
import Derived.Test.YtmembhpoidcmlaaGreatDoorDrawSch
namespace Go.Proofs.YtmembhpoidcmlaaGreatDoor.Rw
open Go.RowKit
set_option linter.unusedVariables false
def TextsNew(w w':World)(l:List ByteArray)(e:Ending):Prop:=∃ a cap,e=.returned (.slice a l.length cap)∧l.length≤cap∧TextsX w' w.heap.size w'.heap.size a l.length l
end Go.Proofs.YtmembhpoidcmlaaGreatDoor.Rw
namespace Go.Proofs.YtmembhpoidcmlaaGreatDoor.Rw
open Lib (hid)
open Go.RowKit Words
set_option linter.unusedVariables false
set_option maxRecDepth 100000
def membersM(s:List TypeP)(t:ByteArray):List ByteArray:=if (typeIn t s).kind=2 then [t] else (typeIn t s).members
set_option maxHeartbeats 1000000 in
theorem specMembers(w:World)(A B:Nat)(v:Value)(s:List TypeP)(t:ByteArray)(htk:OkS t)(hv:SchemaAt w A B v s)(hB:B≤w.heap.size)(hml:(typeIn t s).members.length≤1048576) :
  Calls Tryz.prog 109 #[v,.string t] w fun e w'=>TextsNew w w' (membersM s t) e∧Below w.heap.size w w':=by
 have C:=hid (fun o1=>specType (w.alloc o1) A B v s t htk (hv.below (C:=w.heap.size) hB ((Below.refl _ _).alloc (Nat.le_refl _) o1)) (Nat.le_trans hB (by simp)))
 have HA:Hid (∀ o1,Below w.heap.size w (w.alloc o1)):=hid fun o1=>(Below.refl _ _).alloc (Nat.le_refl _) o1
 have HOK:=hid htk
 unfold OkS at htk
 have HMM:=hid (show membersM s t=if (typeIn t s).kind=2 then [t] else (typeIn t s).members from rfl)
 obtain ⟨a,ca,rfl,_,_⟩:=hv
 generalize membersM s t=mm at *
 generalize typeIn t s=y at *
 obtain ⟨tn,tk,tb,tf,tm⟩:=y
 go_enter Tryz.func109,Tryz.ntmps109
 go_wp2_with fail
 refine(C.out _).mono ?_
 rintro e w1 ⟨⟨ta,tca,tc,tcc,rfl,hty⟩,hb1⟩
 have HB1:=hid ((HA.out _).trans (hb1.mono (HA.out _).size))
 obtain ⟨_,_,_,_,hve,hk,_,h3,h3c⟩:=hty
 simp[TypeP.cells] at hve
 obtain ⟨⟨rfl,rfl⟩,rfl,rfl⟩:=hve
 simp only[TypeP.cells] at h3 h3c hml HMM ⊢
 have HT:=hid h3
 have hrows:∀ x∈tm,OkS x:=rows_all h3 fun _ _ _ h=>h.1
 have HR:=hid hrows
 have hB1:=hid (Nat.le_trans hB HB1.out.size)
 clear hb1 h3 hrows hk
 by_cases hk:tk=2
 ·have hkb:(tk == 2)=true:=by rw[hk];rfl
  have hf:=hid (show mm=[t] by rw[HMM.out,if_pos hk])
  clear hk
  go_wp2_with fail
  go_ret
  have hg1:w1.heap.size+1<((w1.alloc (.cells #[.string tn,.int .i64 tk,.int .i64 tb,.slice ta tf.length tca,.slice tc tm.length tcc] 77)).alloc (.cells #[.string t] 9)).heap.size:=by simp
  have hge:(w1.alloc (.cells #[.string tn,.int .i64 tk,.int .i64 tb,.slice ta tf.length tca,.slice tc tm.length tcc] 77)).heap.size=w1.heap.size+1:=by simp
  have hn:=heap_alloc_new (w1.alloc (.cells #[.string tn,.int .i64 tk,.int .i64 tb,.slice ta tf.length tca,.slice tc tm.length tcc] 77)) (.cells #[.string t] 9)
  rw[hge] at hn
  have hz:=HB1.out.size
  refine⟨?_,(HB1.out.alloc hz _).alloc (by simp;omega) _⟩
  rw[hf.out]
  refine⟨some ⟨w1.heap.size+1,0,none⟩,1,rfl,Nat.le_refl _,rfl,by simp,by omega,.inr ⟨w1.heap.size+1,0,rfl,by omega,hg1,LieRX.flat ⟨_,_,hn⟩ hg1 (by omega) fun j y hj=>?_⟩⟩
  have e:j=0:=by have:=(List.getElem?_eq_some_iff.1 hj).1;simp at this;exact this
  subst e;cases hj
  exact⟨HOK.out,cell_of hn rfl⟩
 ·have hkb:(tk == 2)=false:=by rw[beq_eq_false_iff_ne];exact hk
  have hf:=hid (show mm=tm by rw[HMM.out,if_neg hk])
  clear hk
  have HX:Hid (∀ o1 o2,Below w.heap.size w ((w1.alloc o1).alloc o2)):=hid fun o1 o2=>(HB1.out.alloc HB1.out.size o1).alloc (by have:=HB1.out.size;simp;omega) o2
  have HO:Hid (∀ o1,OwnTs ((w1.alloc o1).alloc (.cells #[] 9)) w.heap.size (.slice (some ⟨w1.heap.size+1,0,none⟩) 0 0) []):=hid fun o1=>by
   have:=World.ownsRow_lit (base:=w.heap.size) (e:=9) (size:=1) (w1.alloc o1) #[] 0 (by have:=HB1.out.size;simp;omega) (by simp) rfl
   simpa [OwnTs] using this
  have HT2:Hid (∀ o1 o2,TextsAt ((w1.alloc o1).alloc o2) A B tc tm.length tm):=hid fun o1 o2=>HT.out.below textLies (C:=w1.heap.size) hB1.out (((Below.refl _ _).alloc (Nat.le_refl _) o1).alloc (by simp) o2)
  go_wp2_with (at_builtin;refine app_texts rfl _ _ rfl w.heap.size _ [] rfl (HO.out _) A B tc _ _ tm rfl (HT2.out _ _) (by simp;omega) (HX.out _ _).size ?_;intro a9 c9 w9 hown9 hb9;simp only[List.length_nil,Nat.zero_add,List.nil_append] at hown9)
  have HB9:=(HX.out _ _).trans hb9
  obtain ⟨a8,c8,he,h1,h2⟩:=hown9.textsX HR.out hml HB9.size
  have HX9:=hid h2
  have HE:=hid he
  have H1:=hid h1
  have HB:=hid HB9
  clear hb9 hown9 he h1 h2 HB9
  go_wp2_with fail
  go_ret
  exact⟨by rw[hf.out];exact⟨a8,c8,by rw[←HE.out];rfl,H1.out,HX9.out⟩,HB.out⟩
end Go.Proofs.YtmembhpoidcmlaaGreatDoor.Rw
namespace Go.Proofs.YtmembhpoidcmlaaGreatDoor.Rw
open Lib (hid)
open Go.RowKit Words Go.Maps
set_option linter.unusedVariables false
set_option maxRecDepth 100000
theorem tiny_at{s:List TypeP}(h:schWt s≤1048576){x:TypeP}(hx:x∈s):x.name.size≤1048576∧x.fields.length≤1048576∧x.members.length≤1048576∧(∀ f∈x.fields,f.tiny)∧∀ m∈x.members,m.size≤1048576:=by
 unfold schWt at h
 obtain ⟨i,hi⟩:=List.mem_iff_getElem?.1 hx
 have h1:=sumOf_mem (f:=TypeP.wt) hi
 have e:TypeP.wt x=x.name.size+(x.fields.length+sumOf FieldP.wt x.fields)+(x.members.length+sumOf ByteArray.size x.members):=rfl
 refine⟨by omega,by omega,by omega,fun f hf=>?_,fun m hm=>?_⟩
 ·obtain ⟨j,hj⟩:=List.mem_iff_getElem?.1 hf
  have h2:=sumOf_mem (f:=FieldP.wt) hj
  have e2:FieldP.wt f=f.name.size+f.typ.size:=rfl
  exact⟨by omega,by omega⟩
 ·obtain ⟨j,hj⟩:=List.mem_iff_getElem?.1 hm
  have h2:=sumOf_mem (f:=ByteArray.size) hj
  omega
theorem fresh_big{s:List TypeP}{t:ByteArray}(h:schemaB s=true)(ht:8000<t.size):freshB t s=true:=by
 cases hf:freshB t s with
 | true=>rfl
 | false =>
  obtain ⟨h1,_,h2⟩:=right_at h hf
  have:=type_small h1
  rw[h2] at this;omega
noncomputable def membersOfP(s:List TypeP)(t:ByteArray):List ByteArray:=if (schemaB s && !freshB t s)=true then (if (typeIn t s).kind=2 then [t] else (typeIn t s).members) else []
theorem fresh_members{s:List TypeP}{t:ByteArray}(h:schemaB s=true):membersOfP s t=if (typeIn t s).kind=2 then [t] else (typeIn t s).members:=by
 unfold membersOfP
 cases hf:freshB t s with
 | true=>rw[typeIn_zero hf,h];rfl
 | false=>rw[h];rfl
theorem membersOfP_big{s:List TypeP}{t:ByteArray}(ht:8000<t.size):membersOfP s t=[]:=by
 unfold membersOfP
 cases h:schemaB s with
 | false=>rfl
 | true=>rw[fresh_big h ht];rfl
theorem membersOfP_no{s:List TypeP}(t:ByteArray)(h:schemaB s=false):membersOfP s t=[]:=by unfold membersOfP;rw[h];rfl
theorem members_len{s:List TypeP}(hw:schWt s≤1048576)(t:ByteArray):(typeIn t s).members.length≤1048576:=by
 cases hf:freshB t s with
 | true=>rw[typeIn_zero hf];simp[zeroType]
 | false=>exact(tiny_at hw (typeIn_in hf)).2.2.1
theorem fields_len{s:List TypeP}(hw:schWt s≤1048576)(t:ByteArray):(typeIn t s).fields.length≤1048576:=by
 cases hf:freshB t s with
 | true=>rw[typeIn_zero hf];simp[zeroType]
 | false=>exact(tiny_at hw (typeIn_in hf)).2.1
set_option maxHeartbeats 1000000 in
theorem specMembersOf(w:World)(A B:Nat)(v:Value)(s:List TypeP)(t:ByteArray)(htk:OkS t)(hv:SchemaAt w A B v s)(hB:B≤w.heap.size)(hw:schWt s≤1048576) :
  Calls Tryz.prog 89 #[v,.string t] w fun e w'=>TextsNew w w' (membersOfP s t) e∧Below w.heap.size w w':=by
 have C:=hid (fun o1=>specSchemaRight (w.alloc o1) A B v s (hv.below (C:=w.heap.size) hB ((Below.refl _ _).alloc (Nat.le_refl _) o1)) (Nat.le_trans hB (by simp)))
 have C2:Hid (∀ w',Below w.heap.size w w'→Calls Tryz.prog 109 #[v,.string t] w' fun e w''=>TextsNew w' w'' (membersM s t) e∧Below w'.heap.size w' w''):=hid fun w' g=>specMembers w' A B v s t htk (hv.below hB g) (Nat.le_trans hB g.size) (members_len hw t)
 have HA:Hid (∀ o1,Below w.heap.size w (w.alloc o1)):=hid fun o1=>(Below.refl _ _).alloc (Nat.le_refl _) o1
 obtain ⟨a,ca,rfl,_,_⟩:=hv
 unfold OkS at htk
 have HP:Hid ((schemaB s=false→membersOfP s t=[])∧(schemaB s=true→membersOfP s t=membersM s t)∧(8000<t.size→membersOfP s t=[])):=hid ⟨membersOfP_no t,fun h=>(fresh_members h).trans rfl,membersOfP_big⟩
 generalize membersM s t=mm at *
 generalize membersOfP s t=mo at *
 have hno:Hid (∀ w1:World,Below w.heap.size w w1→mo=[]→TextsNew w (w1.alloc (.cells #[] 9)) mo (.returned (.slice (some ⟨w1.heap.size,0,none⟩) 0 0))∧Below w.heap.size w (w1.alloc (.cells #[] 9))):=hid fun w1 g e=>by
  rw[e];exact⟨⟨_,0,rfl,Nat.le_refl _,RowsX.nil (by have:=g.size;simp;omega)⟩,g.alloc g.size _⟩
 go_enter Tryz.func89,Tryz.ntmps89
 go_wp2_with fail
 refine(C.out _).mono ?_
 rintro e w1 ⟨rfl,hb1⟩
 have HB1:=hid ((HA.out _).trans (hb1.mono (HA.out _).size))
 have hk1:=(hb1.block w.heap.size (by simp)).trans (heap_alloc_new w _)
 have ⟨k0,_⟩:=keep1 hk1
 clear hb1 hk1
 cases hsb:schemaB s with
 | false =>
  have HFI:=hid (HP.out.1 hsb)
  clear hsb
  go_wp2_with fail
  go_ret
  exact hno.out _ HB1.out HFI.out
 | true =>
  have HFY:=hid (HP.out.2.1 hsb)
  clear hsb
  by_cases q1:8000<t.size
  ·have q1i:(8000:Int)<(t.size:Int):=by omega
   have HFI:=hid (HP.out.2.2 q1)
   clear q1
   go_wp2_with fail
   go_ret
   exact hno.out _ HB1.out HFI.out
  have q1i:¬ (8000:Int)<(t.size:Int):=by omega
  clear q1
  go_wp2_with fail
  refine(C2.out _ HB1.out).mono ?_
  rintro e w2 ⟨⟨a9,c9,rfl,hc9,hx9⟩,hb2⟩
  have HB2:=hid (HB1.out.trans (hb2.mono HB1.out.size))
  have HX9:=hid (hx9.wide (A':=w.heap.size) (B':=w2.heap.size) HB1.out.size (Nat.le_refl _))
  have HC9:=hid hc9
  clear hb2 hx9 hc9
  go_wp2_with fail
  go_ret
  exact⟨by rw[HFY.out];exact⟨a9,c9,rfl,HC9.out,HX9.out⟩,HB2.out⟩
def TypeNew(w w':World)(x:TypeP)(e:Ending):Prop:=∃ a ca c cc,e=.returned (.agg (x.cells a ca c cc).toArray)∧TypeX w' w.heap.size w'.heap.size (.agg (x.cells a ca c cc).toArray) x
noncomputable def typeOfP(s:List TypeP)(nm:ByteArray):TypeP:=if (schemaB s && !freshB nm s)=true then typeIn nm s else zeroType
theorem zeroX(w:World){A B:Nat}(h:A≤B):TypeX w A B (.agg #[.string ⟨#[]⟩,.int .i64 0,.int .i64 0,.slice none 0 0,.slice none 0 0]) zeroType :=
 ⟨none,0,none,0,A,rfl,⟨by unfold OkS;decide,by unfold OkI zeroType;simp,by unfold OkI zeroType;simp⟩,⟨RowsX.nil (Nat.le_refl _),Nat.le_refl _⟩,RowsX.nil h,Nat.le_refl _⟩
set_option maxHeartbeats 2000000 in
theorem specCopy(w:World)(A B:Nat)(x:TypeP)(a:Option Addr)(ca:Nat)(c:Option Addr)(cc:Nat)(hx:TypeAt w A B (.agg (x.cells a ca c cc).toArray) x)(hB:B≤w.heap.size)(hfl:x.fields.length≤1048576)(hml:x.members.length≤1048576) :
  Calls Tryz.prog 108 #[.agg (x.cells a ca c cc).toArray] w fun e w'=>TypeNew w w' x e∧Below w.heap.size w w':=by
 obtain ⟨a',ca',c',cc',hve,hk,⟨hf,hca⟩,hm,hcc⟩:=hx
 obtain ⟨nm,kd,by_,fs,ms⟩:=x
 simp[TypeP.cells] at hve
 obtain ⟨⟨rfl,rfl⟩,rfl,rfl⟩:=hve
 simp only[TypeP.cells] at hf hca hm hcc hfl hml ⊢
 have HK:=hid hk
 have HOF:Hid (∀ f∈fs,f.ok):=hid (rows_all hf fun _ _ _ h=>h.1)
 have HOM:Hid (∀ m∈ms,OkS m):=hid (rows_all hm fun _ _ _ h=>h.1)
 have HA:Hid (∀ o1 o2 o3,Below w.heap.size w (((w.alloc o1).alloc o2).alloc o3)):=hid fun o1 o2 o3=>(((Below.refl _ _).alloc (Nat.le_refl _) o1).alloc (by simp) o2).alloc (by simp;omega) o3
 have HF:Hid (∀ o1 o2 o3,FieldsAt (((w.alloc o1).alloc o2).alloc o3) A B a fs.length fs):=hid fun o1 o2 o3=>hf.below fieldLies hB (HA.out o1 o2 o3)
 have HM:=hid hm
 have HO:Hid (∀ o1 o2,OwnFs (((w.alloc o1).alloc o2).alloc (.cells #[] 84)) (w.heap.size+2) (.slice (some ⟨w.heap.size+2,0,none⟩) 0 0) []):=hid fun o1 o2=>by
  have:=World.ownsRow_lit (base:=w.heap.size+2) (e:=84) (size:=6) ((w.alloc o1).alloc o2) #[] 0 (by simp) (by simp) rfl
  simpa [OwnFs] using this
 have hB1:Hid (∀ o1 o2 o3,w.heap.size+2≤(((w.alloc o1).alloc o2).alloc o3).heap.size):=hid fun o1 o2 o3=>by simp
 have HKK:Hid (∀ o1 o2 o3,(((w.alloc o1).alloc o2).alloc o3).heap[w.heap.size]?=some o1∧(((w.alloc o1).alloc o2).alloc o3).heap[w.heap.size+1]?=some o2):=hid fun o1 o2 o3=>by
  refine⟨by rw[Go.Deep.blk_alloc_lt _ _ _ (by simp;omega),Go.Deep.blk_alloc_lt _ _ _ (by simp)];exact heap_alloc_new w _,?_⟩
  rw[Go.Deep.blk_alloc_lt _ _ _ (by simp)]
  have:=heap_alloc_new (w.alloc o1) o2
  simpa using this
 clear hf hm hk
 go_enter Tryz.func108,Tryz.ntmps108
 go_wp2_with (first
  | (at_builtin;refine app_fields rfl _ _ rfl (w.heap.size+2) _ [] rfl (HO.out _ _) A B a _ _ fs rfl (HF.out _ _ _) (by simp;omega) (hB1.out _ _ _) ?_;intro a3 c3 w3 hown3 hb3;simp only[List.length_nil,Nat.zero_add,List.nil_append] at hown3;have hk3:=(hb3.block w.heap.size (by omega)).trans (HKK.out _ _ _).1;have hz3:=(hb3.block (w.heap.size+1) (by omega)).trans (HKK.out _ _ _).2;have ⟨⟨y0,y1,y2,y3,y4⟩,f0,f1,f2,f3,f4⟩:=keep5 hk3;have hl3:=lt_of_get hk3;have hl31:=lt_of_get hz3;have HB3:=hid ((HA.out _ _ _).trans (hb3.mono (by omega)));have HOW3:=hid hown3;have HL3:=hid (Nat.le_trans (hB1.out _ _ _) hb3.size);clear hown3 hb3;have HK4:=hid (heap_setCell_same w3 w.heap.size 3 _ _ (.slice a3 fs.length c3) hk3);have HZ4:=hid ((Go.Deep.blk_setCell_other w3 ⟨w.heap.size,3,none⟩ (.slice a3 fs.length c3) (w.heap.size+1) (by simp)).trans hz3);have HB4:=hid ((HB3.out.setCell (p:=⟨w.heap.size,3,none⟩) (Nat.le_refl _) (.slice a3 fs.length c3)).alloc (by have:=HB3.out.size;simpa using this) (.cells #[] 9));have hsz4:Hid (((w3.setCell ⟨w.heap.size,3,none⟩ (.slice a3 fs.length c3)).alloc (.cells #[] 9)).heap.size=w3.heap.size+1):=hid (by simp);have HO4:Hid (OwnTs ((w3.setCell ⟨w.heap.size,3,none⟩ (.slice a3 fs.length c3)).alloc (.cells #[] 9)) w3.heap.size (.slice (some ⟨w3.heap.size,0,none⟩) 0 0) []):=hid (by have:=World.ownsRow_lit (base:=w3.heap.size) (e:=9) (size:=1) (w3.setCell ⟨w.heap.size,3,none⟩ (.slice a3 fs.length c3)) #[] 0 (by simp) (by simp) rfl;simpa [OwnTs] using this);have HF4:=hid (OwnFs.frame HOW3.out (w':=(w3.setCell ⟨w.heap.size,3,none⟩ (.slice a3 fs.length c3)).alloc (.cells #[] 9)) fun q q1 q2=>(Go.Deep.blk_alloc_lt _ _ _ (by simpa using q2)).trans (Go.Deep.blk_setCell_other _ ⟨w.heap.size,3,none⟩ _ q (by show q≠w.heap.size;omega)));clear hk3 hz3)
  | (at_builtin;refine app_texts rfl _ _ rfl w3.heap.size _ [] rfl HO4.out A B c _ _ ms rfl (HM.out.below textLies hB HB4.out) (by simp;omega) (by rw[hsz4.out];omega) ?_;intro a5 c5 w5 hown5 hb5;simp only[List.length_nil,Nat.zero_add,List.nil_append] at hown5;have hk5:=(hb5.block w.heap.size hl3).trans ((Go.Deep.blk_alloc_lt _ _ _ (by simpa using hl3)).trans HK4.out);have hz5:=(hb5.block (w.heap.size+1) hl31).trans ((Go.Deep.blk_alloc_lt _ _ _ (by simpa using hl31)).trans HZ4.out);have ⟨⟨k0,k1,k2,k3,k4⟩,p0,p1,p2,p3,p4⟩:=keep5 (v0:=.string nm) (v1:=.int .i64 kd) (v2:=.int .i64 by_) (v3:=.slice a3 fs.length c3) (v4:=.slice c ms.length cc) hk5;have ⟨⟨z0,z1,z2,z3,z4⟩,g0,g1,g2,g3,g4⟩:=keep5 hz5;have HB5:=hid (HB4.out.trans (hb5.mono (by omega)));have HOW5:=hid hown5;have HL5:=hid (show w3.heap.size+1≤w5.heap.size by rw[←hsz4.out];exact hb5.size);have HF5:=hid (OwnFs.fieldsX (w:=w3) HOW3.out HOF.out (by omega) HL3.out);have HBB5:=hid hb5;have HK5:=hid hk5;have HZ5:=hid hz5;clear hown5 hb5 hk5 hz5))
 change bodyPost _ _ _ _ _ (putL (w5.setCell ⟨w.heap.size,4,none⟩ (.slice a5 ms.length c5)) (w.heap.size+1) 0 [.string nm,.int .i64 kd,.int .i64 by_,.slice a3 fs.length c3,.slice a5 ms.length c5])
 obtain ⟨b3,d3,he3,hd3,hx3⟩:=HF5.out
 obtain ⟨rfl,rfl⟩:a3=b3∧c3=d3:=by cases he3;exact⟨rfl,rfl⟩
 obtain ⟨b5,d5,he5,hd5,hx5⟩:=HOW5.out.textsX HOM.out hml (by have:=HL5.out;omega)
 obtain ⟨rfl,rfl⟩:a5=b5∧c5=d5:=by cases he5;exact⟨rfl,rfl⟩
 have hz6:(w5.setCell ⟨w.heap.size,4,none⟩ (.slice a5 ms.length c5)).heap[w.heap.size+1]?=_:=(Go.Deep.blk_setCell_other w5 ⟨w.heap.size,4,none⟩ (.slice a5 ms.length c5) (w.heap.size+1) (by simp)).trans HZ5.out
 obtain ⟨hr,_,_⟩:=putL_cells (g:=w.heap.size+1) (o:=0) (l:=[.string nm,.int .i64 kd,.int .i64 by_,.slice a3 fs.length c3,.slice a5 ms.length c5]) hz6 (by simp)
 have HBF:=putL_below (g:=w.heap.size+1) (B:=w.heap.size) (by omega) [.string nm,.int .i64 kd,.int .i64 by_,.slice a3 fs.length c3,.slice a5 ms.length c5] 0 (HB5.out.setCell (p:=⟨w.heap.size,4,none⟩) (Nat.le_refl _) (.slice a5 ms.length c5))
 have hsz:=putL_size [.string nm,.int .i64 kd,.int .i64 by_,.slice a3 fs.length c3,.slice a5 ms.length c5] (w5.setCell ⟨w.heap.size,4,none⟩ (.slice a5 ms.length c5)) (w.heap.size+1) 0
 have hoth:∀ q,w.heap.size+2≤q→(putL (w5.setCell ⟨w.heap.size,4,none⟩ (.slice a5 ms.length c5)) (w.heap.size+1) 0 [.string nm,.int .i64 kd,.int .i64 by_,.slice a3 fs.length c3,.slice a5 ms.length c5]).heap[q]?=w5.heap[q]?:=fun q hq=>(putL_other _ _ _ _ q (by omega)).trans (Go.Deep.blk_setCell_other w5 ⟨w.heap.size,4,none⟩ _ q (by show q≠w.heap.size;omega))
 have HFZ:=hx3.block (w':=putL (w5.setCell ⟨w.heap.size,4,none⟩ (.slice a5 ms.length c5)) (w.heap.size+1) 0 [.string nm,.int .i64 kd,.int .i64 by_,.slice a3 fs.length c3,.slice a5 ms.length c5]) fieldLies fun q q1 q2=>(hoth q q1).trans ((HBB5.out.block q q2).trans ((Go.Deep.blk_alloc_lt _ _ _ (by simpa using q2)).trans (Go.Deep.blk_setCell_other _ ⟨w.heap.size,3,none⟩ _ q (by show q≠w.heap.size;omega))))
 have HTZ:=hx5.block (w':=putL (w5.setCell ⟨w.heap.size,4,none⟩ (.slice a5 ms.length c5)) (w.heap.size+1) 0 [.string nm,.int .i64 kd,.int .i64 by_,.slice a3 fs.length c3,.slice a5 ms.length c5]) textLies fun q q1 q2=>hoth q (by have:=HL3.out;omega)
 have hsz2:(putL (w5.setCell ⟨w.heap.size,4,none⟩ (.slice a5 ms.length c5)) (w.heap.size+1) 0 [.string nm,.int .i64 kd,.int .i64 by_,.slice a3 fs.length c3,.slice a5 ms.length c5]).heap.size=w5.heap.size:=hsz.trans (by simp)
 clear hoth hsz
 generalize putL (w5.setCell ⟨w.heap.size,4,none⟩ (.slice a5 ms.length c5)) (w.heap.size+1) 0 [.string nm,.int .i64 kd,.int .i64 by_,.slice a3 fs.length c3,.slice a5 ms.length c5]=wz at *
 have ⟨x0,x1,x2,x3,x4⟩:=row5z hr
 rw[←hsz2] at HTZ
 exact bodyPost_ret (v:=.agg #[.string nm,.int .i64 kd,.int .i64 by_,.slice a3 fs.length c3,.slice a5 ms.length c5]) (by simp[results,Tryz.results108,go_sem,x0,x1,x2,x3,x4]) rfl ⟨⟨a3,c3,a5,c5,rfl,a3,c3,a5,c5,w3.heap.size,rfl,HK.out,⟨HFZ.wide (by omega) (Nat.le_refl _),hd3⟩,HTZ,hd5⟩,HBF⟩
theorem typeOfP_no{s:List TypeP}(t:ByteArray)(h:schemaB s=false):typeOfP s t=zeroType:=by unfold typeOfP;rw[h];rfl
theorem typeOfP_yes{s:List TypeP}(t:ByteArray)(h:schemaB s=true):typeOfP s t=typeIn t s:=by
 unfold typeOfP
 cases hf:freshB t s with
 | true=>rw[typeIn_zero hf,h];rfl
 | false=>rw[h];rfl
theorem typeOfP_big{s:List TypeP}{t:ByteArray}(ht:8000<t.size):typeOfP s t=zeroType:=by
 unfold typeOfP
 cases h:schemaB s with
 | false=>rfl
 | true=>rw[fresh_big h ht];rfl
set_option maxHeartbeats 1000000 in
theorem specTypeOf(w:World)(A B:Nat)(v:Value)(s:List TypeP)(t:ByteArray)(htk:OkS t)(hv:SchemaAt w A B v s)(hB:B≤w.heap.size)(hw:schWt s≤1048576) :
  Calls Tryz.prog 88 #[v,.string t] w fun e w'=>TypeNew w w' (typeOfP s t) e∧Below w.heap.size w w':=by
 have C:=hid (fun o1 o2=>specSchemaRight ((w.alloc o1).alloc o2) A B v s (hv.below (C:=w.heap.size) hB (((Below.refl _ _).alloc (Nat.le_refl _) o1).alloc (by simp) o2)) (Nat.le_trans hB (by simp;omega)))
 have C2:Hid (∀ w',Below w.heap.size w w'→Calls Tryz.prog 83 #[v,.string t] w' fun e w''=>(∃ a ca c cc,e=.returned (.agg ((typeIn t s).cells a ca c cc).toArray)∧TypeAt w'' A B (.agg ((typeIn t s).cells a ca c cc).toArray) (typeIn t s))∧Below w'.heap.size w' w''):=hid fun w' g=>specType w' A B v s t htk (hv.below hB g) (Nat.le_trans hB g.size)
 have HL:=hid (⟨fields_len hw t,members_len hw t⟩:(typeIn t s).fields.length≤1048576∧(typeIn t s).members.length≤1048576)
 have HA:Hid (∀ o1 o2,Below w.heap.size w ((w.alloc o1).alloc o2)):=hid fun o1 o2=>((Below.refl _ _).alloc (Nat.le_refl _) o1).alloc (by simp) o2
 obtain ⟨a,ca,rfl,_,_⟩:=hv
 unfold OkS at htk
 have HP:Hid ((schemaB s=false→typeOfP s t=zeroType)∧(schemaB s=true→typeOfP s t=typeIn t s)∧(8000<t.size→typeOfP s t=zeroType)):=hid ⟨typeOfP_no t,typeOfP_yes t,typeOfP_big⟩
 generalize typeIn t s=mm at *
 generalize typeOfP s t=mo at *
 go_enter Tryz.func88,Tryz.ntmps88
 go_wp2_with fail
 refine(C.out _ _).mono ?_
 rintro e w1 ⟨rfl,hb1⟩
 have HB1:=hid ((HA.out _ _).trans (hb1.mono (HA.out _ _).size))
 obtain ⟨hk1,hz1⟩:=kept2z hb1
 have HZ1:=hid hz1
 have ⟨k0,_⟩:=keep1 hk1
 have ⟨⟨z0,z1,z2,z3,z4⟩,g0,g1,g2,g3,g4⟩:=keep5 hz1
 clear hb1 hk1 hz1
 cases hsb:schemaB s with
 | false =>
  have HFI:=hid (HP.out.1 hsb)
  clear hsb
  go_wp2_with fail
  change bodyPost _ _ _ _ _ (putL w1 (w.heap.size+1) 0 [.string ⟨#[]⟩,.int .i64 0,.int .i64 0,.slice none 0 0,.slice none 0 0])
  obtain ⟨hr,_,_⟩:=putL_cells (g:=w.heap.size+1) (o:=0) (l:=[.string ⟨#[]⟩,.int .i64 0,.int .i64 0,.slice none 0 0,.slice none 0 0]) HZ1.out (by simp)
  have HBF:=putL_below (g:=w.heap.size+1) (B:=w.heap.size) (by omega) [.string ⟨#[]⟩,.int .i64 0,.int .i64 0,.slice none 0 0,.slice none 0 0] 0 HB1.out
  generalize putL w1 (w.heap.size+1) 0 [.string ⟨#[]⟩,.int .i64 0,.int .i64 0,.slice none 0 0,.slice none 0 0]=wz at *
  have ⟨x0,x1,x2,x3,x4⟩:=row5z hr
  exact bodyPost_ret (v:=.agg #[.string ⟨#[]⟩,.int .i64 0,.int .i64 0,.slice none 0 0,.slice none 0 0]) (by simp[results,Tryz.results88,go_sem,x0,x1,x2,x3,x4]) rfl ⟨by rw[HFI.out];exact⟨none,0,none,0,rfl,zeroX wz HBF.size⟩,HBF⟩
 | true =>
  have HFY:=hid (HP.out.2.1 hsb)
  clear hsb
  by_cases q1:8000<t.size
  ·have q1i:(8000:Int)<(t.size:Int):=by omega
   have HFI:=hid (HP.out.2.2 q1)
   clear q1
   go_wp2_with fail
   change bodyPost _ _ _ _ _ (putL w1 (w.heap.size+1) 0 [.string ⟨#[]⟩,.int .i64 0,.int .i64 0,.slice none 0 0,.slice none 0 0])
   obtain ⟨hr,_,_⟩:=putL_cells (g:=w.heap.size+1) (o:=0) (l:=[.string ⟨#[]⟩,.int .i64 0,.int .i64 0,.slice none 0 0,.slice none 0 0]) HZ1.out (by simp)
   have HBF:=putL_below (g:=w.heap.size+1) (B:=w.heap.size) (by omega) [.string ⟨#[]⟩,.int .i64 0,.int .i64 0,.slice none 0 0,.slice none 0 0] 0 HB1.out
   generalize putL w1 (w.heap.size+1) 0 [.string ⟨#[]⟩,.int .i64 0,.int .i64 0,.slice none 0 0,.slice none 0 0]=wz at *
   have ⟨x0,x1,x2,x3,x4⟩:=row5z hr
   exact bodyPost_ret (v:=.agg #[.string ⟨#[]⟩,.int .i64 0,.int .i64 0,.slice none 0 0,.slice none 0 0]) (by simp[results,Tryz.results88,go_sem,x0,x1,x2,x3,x4]) rfl ⟨by rw[HFI.out];exact⟨none,0,none,0,rfl,zeroX wz HBF.size⟩,HBF⟩
  have q1i:¬ (8000:Int)<(t.size:Int):=by omega
  clear q1
  go_wp2_with fail
  refine(C2.out _ HB1.out).mono ?_
  rintro e w2 ⟨⟨ta,tca,tc,tcc,rfl,hx2⟩,hb2⟩
  have HB2:=hid (HB1.out.trans (hb2.mono HB1.out.size))
  have HX2:=hid hx2
  have hz2:=(hb2.block (w.heap.size+1) (lt_of_get HZ1.out)).trans HZ1.out
  clear hb2 hx2 z0 z1 z2 z3 z4 g0 g1 g2 g3 g4
  go_wp2_with fail
  refine(specCopy _ A B mm ta tca tc tcc HX2.out (Nat.le_trans hB HB2.out.size) HL.out.1 HL.out.2).mono ?_
  rintro e w3 ⟨⟨fa,fca,fc,fcc,rfl,hx3⟩,hb3⟩
  have HB3:=hid (HB2.out.trans (hb3.mono HB2.out.size))
  have hz3:=(hb3.block (w.heap.size+1) (lt_of_get hz2)).trans hz2
  have HZ3:=hid hz3
  have hl2:=lt_of_get hz2
  have HX3:=hid hx3
  have ⟨⟨z0,z1,z2,z3,z4⟩,g0,g1,g2,g3,g4⟩:=keep5 hz3
  clear hb3 hz3 hx3 hz2
  obtain ⟨yn,yk,yb,yf,ym⟩:=mm
  simp only[TypeP.cells] at HX3 ⊢
  go_wp2_with fail
  change bodyPost _ _ _ _ _ (putL w3 (w.heap.size+1) 0 [.string yn,.int .i64 yk,.int .i64 yb,.slice fa yf.length fca,.slice fc ym.length fcc])
  obtain ⟨hr,_,_⟩:=putL_cells (g:=w.heap.size+1) (o:=0) (l:=[.string yn,.int .i64 yk,.int .i64 yb,.slice fa yf.length fca,.slice fc ym.length fcc]) HZ3.out (by simp)
  have HBF:=putL_below (g:=w.heap.size+1) (B:=w.heap.size) (by omega) [.string yn,.int .i64 yk,.int .i64 yb,.slice fa yf.length fca,.slice fc ym.length fcc] 0 HB3.out
  have hsz:=putL_size [.string yn,.int .i64 yk,.int .i64 yb,.slice fa yf.length fca,.slice fc ym.length fcc] w3 (w.heap.size+1) 0
  have HTZ:=HX3.out.block (w':=putL w3 (w.heap.size+1) 0 [.string yn,.int .i64 yk,.int .i64 yb,.slice fa yf.length fca,.slice fc ym.length fcc]) fun q q1 q2=>putL_other _ _ _ _ q (by omega)
  generalize putL w3 (w.heap.size+1) 0 [.string yn,.int .i64 yk,.int .i64 yb,.slice fa yf.length fca,.slice fc ym.length fcc]=wz at *
  have ⟨x0,x1,x2,x3,x4⟩:=row5z hr
  rw[←hsz] at HTZ
  exact bodyPost_ret (v:=.agg #[.string yn,.int .i64 yk,.int .i64 yb,.slice fa yf.length fca,.slice fc ym.length fcc]) (by simp[results,Tryz.results88,go_sem,x0,x1,x2,x3,x4]) rfl ⟨by rw[HFY.out];exact⟨fa,fca,fc,fcc,rfl,HTZ.wide HB2.out.size (Nat.le_refl _)⟩,HBF⟩
end Go.Proofs.YtmembhpoidcmlaaGreatDoor.Rw
namespace Go.Proofs.YtmembhpoidcmlaaGreatDoor.Draws
open Lib (hid)
open Go.RowKit Texts Bytes Rw Words
open Selss (OwnSel RowS rowsSels SelsX Sels)
set_option linter.unusedVariables false
set_option maxRecDepth 100000
def OwnIn(w:World)(lo hi:Nat)(v:Value)(L:List RowS):Prop:=∃ w0:World,w0.heap.size=hi∧OwnSel w0 lo v L∧lo≤hi∧∀ c,lo≤c→c<hi→w.heap[c]?=w0.heap[c]?
theorem OwnIn.frame{w w':World}{lo hi:Nat}{v:Value}{L:List RowS}(h:OwnIn w lo hi v L)(g:∀ c,lo≤c→c<hi→w'.heap[c]?=w.heap[c]?):OwnIn w' lo hi v L:=by
 obtain ⟨w0,h1,h2,h3,h4⟩:=h
 exact⟨w0,h1,h2,h3,fun c c1 c2=>(g c c1 c2).trans (h4 c c1 c2)⟩
theorem OwnIn.of{w:World}{lo:Nat}{v:Value}{L:List RowS}(h:OwnSel w lo v L)(hl:lo≤w.heap.size):OwnIn w lo w.heap.size v L:=⟨w,rfl,h,hl,fun _ _ _=>rfl⟩
def RowsD(w:World)(L:List RowS):Prop:=∀ r∈L,∃ inn:List RowS,OwnIn w r.lo r.hi (.slice r.a r.u.len r.cap) inn∧rowsSels inn=r.u∧inn.length≤4
theorem RowsD.frame{w w':World}{L:List RowS}(h:RowsD w L)(g:∀ r∈L,∀ c,r.lo≤c→c<r.hi→w'.heap[c]?=w.heap[c]?):RowsD w' L:=fun r hr=>by
 obtain ⟨inn,h1,h2⟩:=h r hr
 exact⟨inn,h1.frame (g r hr),h2⟩
theorem RowsD.nil(w:World):RowsD w []:=fun r hr=>by cases hr
theorem rowNone(w:World)(k:Int)(key nm:ByteArray)(f:Int)(h:Nat)(hh:h=w.heap.size):RowsD w [⟨k,key,nm,f,none,0,.nil,h,h⟩]:=fun r hr=>by
 rw[List.mem_singleton] at hr;subst hr;subst hh
 exact⟨[],⟨w,rfl,OwnSel.none_ w _,Nat.le_refl _,fun _ _ _=>rfl⟩,rfl,by simp⟩
theorem OwnSel.mono{w:World}{base base':Nat}{v:Value}{L:List RowS}(h:OwnSel w base v L)(hb:base'≤base):OwnSel w base' v L:=by
 refine⟨?_,h.order,fun r hr=>?_⟩
 ·obtain ⟨hl,⟨hv,hn⟩|⟨gb,cap,cur,hv,hb',hg,hc,hm,hs,ht⟩⟩:=h.own
  ·exact⟨hl,.inl ⟨hv,hn⟩⟩
  ·exact⟨hl,.inr ⟨gb,cap,cur,hv,by omega,hg,hc,hm,hs,ht⟩⟩
 ·obtain ⟨h1,h2,h3,h4,h5⟩:=h.ok r hr
  exact⟨h1,h2,by omega,h4,h5⟩
theorem OwnSel.lit{w:World}{base:Nat}(hb:base≤w.heap.size)(k:Int)(key nm:ByteArray)(f:Int)(hok:Selss.OkI k∧Selss.OkS key∧Selss.OkS nm∧Selss.OkI f) :
  OwnSel (w.alloc (.cells #[.int .i64 k,.string key,.string nm,.int .i64 f,.slice none 0 0] 97)) base (.slice (some ⟨w.heap.size,0,none⟩) 1 1) [⟨k,key,nm,f,none,0,.nil,w.heap.size,w.heap.size⟩]:=by
 refine⟨?_,List.pairwise_singleton _ _,fun r hr=>?_⟩
 ·have:=World.ownsRow_lit (base:=base) (e:=97) (size:=5) w #[.int .i64 k,.string key,.string nm,.int .i64 f,.slice none 0 0] 1 hb (by unfold maxLen;omega) rfl
  simpa [RowS.cells,Sels.len] using this
 ·rw[List.mem_singleton] at hr;subst hr
  refine⟨hok,⟨rfl,Nat.zero_le _,Nat.le_refl _,.inl rfl⟩,hb,by simp,fun g hg=>?_⟩
  have:g=w.heap.size:=by simpa [Value.ownBlock] using hg.symm
  right;show w.heap.size≤g;omega
section
variable {w:World} {ops:Array Oper} {rest:List Oper} {o:Oper} {a:Act} {Q:Exit→Act→World→Prop}
theorem app_selG(hgd:o.guard=none)(s x:Operand)
  (ho:o.op=.call { callee:=.builtin .append,args:=#[s,x],argTypes:=#[23,23] })
  (base:Nat) (v:Value) (L:List RowS) (hs:a.eval s=v) (hown:OwnSel w base v L)
  (B c:Nat) (hx:a.eval x=.slice (some ⟨B,0,none⟩) 1 c) (r:RowS) (hc:w.heap[B]?=some (.cells r.cells.toArray 97 (0,0)))
  (hr:(Selss.OkI r.k∧Selss.OkS r.key∧Selss.OkS r.nm∧Selss.OkI r.f)∧SelsX w r.lo r.hi r.a r.u.len r.u∧base≤r.lo∧r.hi≤w.heap.size∧∀ g,v.ownBlock=some g→g<r.lo∨r.hi≤g) (hord:∀ q∈L,q.hi≤r.lo)
  (hsize:L.length+1≤1048576) (hbase:base≤w.heap.size)
  (h:∀ g cap w',OwnSel w' base (.slice (some ⟨g,0,none⟩) (L.length+1) cap) (L++[r])→w.grownBy w' v.ownBlock→(v.ownBlock=some g∨g=w.heap.size)→wpList Tryz.prog ops Q rest (a.put o.dst (.slice (some ⟨g,0,none⟩) (L.length+1) cap)) w'):wpList Tryz.prog ops Q (o::rest) a w:=by
 obtain ⟨i0,hi,hz0,hz1,hz2⟩:=info_parts Selss.infoSel5
 refine wpList_append_lies w hgd s x 23 ho base 97 i0 _ 5 72 Tryz.underlying23 hi hz0 hz1 hz2 rfl (by decide) v L.length (L.flatMap RowS.cells) hs hown.own ⟨B,0,none⟩ 1 c r.cells hx rfl
  (fun j u hj=>World.news_of_block hc j u (by simpa using hj)) (fun u hu=>?_) (by omega) (by unfold maxLen;omega) (by omega) hbase _ rfl ?_
 ·simp[RowS.cells] at hu
  rcases hu with rfl|rfl|rfl|rfl|rfl <;> rfl
 ·intro g cap w' hown' hgrow hat hlt
  have hblk:∀ c,c<w.heap.size→some c≠v.ownBlock→w'.heap[c]?=w.heap[c]?:=fun c h1 h2=>hgrow.block c h1 h2
  refine h g cap w' ⟨?_,List.pairwise_append.2 ⟨hown.order,List.pairwise_singleton _ _,fun q hq r' hr'=>by rw[List.mem_singleton] at hr';subst hr';exact hord q hq⟩,fun q hq=>?_⟩ hgrow hat
  ·rw[List.flatMap_append,List.length_append];simpa using hown'
  ·have hq2:(Selss.OkI q.k∧Selss.OkS q.key∧Selss.OkS q.nm∧Selss.OkI q.f)∧SelsX w q.lo q.hi q.a q.u.len q.u∧base≤q.lo∧q.hi≤w.heap.size∧∀ g,v.ownBlock=some g→g<q.lo∨q.hi≤g:=by
    rcases List.mem_append.1 hq with hq|hq
    ·exact hown.ok q hq
    ·rw[List.mem_singleton] at hq;subst hq;exact hr
   obtain ⟨h1,h2,h3,h4,h5⟩:=hq2
   have far:∀ c,q.lo≤c→c<q.hi→w'.heap[c]?=w.heap[c]?:=fun c c1 c2=>hblk c (by omega) fun e=>by
    have:=h5 c e.symm;omega
   have last:∀ g',(Value.slice (some ⟨g,0,none⟩) (L.length+1) cap).ownBlock=some g'→g' < q.lo∨q.hi≤g':=fun g' hg'=>by
    have e:g'=g:=by simpa [Value.ownBlock] using hg'.symm
    subst e
    rcases hat with hat|hat
    ·exact h5 _ hat
    ·right;omega
   exact⟨h1,h2.block far,h3,Nat.le_trans h4 hgrow.size,last⟩
end
theorem drwMin(a b:Int)(ha0:-9223372036854775808≤a)(ha1:a≤9223372036854775807)(hb0:-9223372036854775808≤b)(hb1:b≤9223372036854775807)(w:World) :
  Calls Tryz.prog 90 #[.int .i64 a,.int .i64 b] w fun e w'=>e=.returned (.int .i64 (min a b))∧w=w':=by
 by_cases h:a<b
 ·have hf:=hid (show a=min a b by omega)
  go_enter Tryz.func90,Tryz.ntmps90
  go_wp2_with fail
  go_ret
  exact⟨ret_i hf.out,rfl⟩
 ·have h':b≤a:=by omega
  have hf:=hid (show b=min a b by omega)
  clear h
  go_enter Tryz.func90,Tryz.ntmps90
  go_wp2_with fail
  go_ret
  exact⟨ret_i hf.out,rfl⟩
def Good(s:List TypeP)(t:ByteArray):Prop:=t.size≤20∧((typeIn t s).kind=2∨(typeIn t s).kind=3)
theorem good_fresh{s:List TypeP}{t:ByteArray}(h:Good s t):freshB t s=false:=by
 cases hf:freshB t s with
 | false=>rfl
 | true=>have:=h.2;rw[typeIn_zero hf] at this;simp[zeroType] at this
theorem part_kind{s:List TypeP}{x:TypeP}(h:partB s x=true):x.kind=1∨x.kind=2∨x.kind=3:=by
 unfold partB at h
 by_cases h1:x.kind=1
 ·exact .inl h1
 ·rw[if_neg h1] at h
  by_cases h2:x.kind=2
  ·exact .inr (.inl h2)
  ·rw[if_neg h2] at h
   by_cases h3:x.kind=3
   ·exact .inr (.inr h3)
   ·rw[if_neg h3] at h;cases h
theorem good_fields{s:List TypeP}{t:ByteArray}(hs:schemaB s=true)(h:Good s t)(h2:(typeIn t s).kind=2):1≤(typeIn t s).fields.length∧(typeIn t s).fields.length≤8 ∧
  ∀ f∈(typeIn t s).fields,f.name.size≤8∧f.typ.size≤8∧((typeIn f.typ s).kind≠1→Good s f.typ):=by
 obtain ⟨_,hp,_⟩:=right_at hs (good_fresh h)
 have hp':=hp
 unfold partB objB fieldsB at hp
 rw[if_neg (by omega),if_pos h2] at hp
 simp only[Bool.and_eq_true,decide_eq_true_eq] at hp
 refine⟨hp.2.2.1,hp.2.2.2,fun f hf=>?_⟩
 obtain ⟨hw,hk,_⟩:=part_field hp' hf
 have hk0:(typeIn f.typ s).kind≠0:=by simpa using hk
 have hfr:freshB f.typ s=false:=by
  cases hq:freshB f.typ s with
  | false=>rfl
  | true=>exact absurd (by rw[typeIn_zero hq];rfl) hk0
 obtain ⟨ht,hpp,hnm⟩:=right_at hs hfr
 have hsz:=type_small ht
 rw[hnm] at hsz
 refine⟨(word_small hw).2,hsz.2,fun h1=>⟨by omega,?_⟩⟩
 rcases part_kind hpp with e|e|e
 ·exact absurd e h1
 ·exact .inl e
 ·exact .inr e
theorem good_members{s:List TypeP}{t:ByteArray}(hs:schemaB s=true)(h:Good s t):1≤(membersOfP s t).length∧(membersOfP s t).length≤8∧∀ m∈membersOfP s t,Good s m:=by
 rw[fresh_members hs]
 rcases h.2 with h2|h3
 ·rw[if_pos h2];exact⟨Nat.le_refl _,by simp,fun m hm=>by rw[List.mem_singleton] at hm;subst hm;exact h⟩
 ·rw[if_neg (by omega)]
  obtain ⟨_,hp,_⟩:=right_at hs (good_fresh h)
  unfold partB oneTB at hp
  rw[if_neg (by omega),if_neg (by omega),if_pos h3] at hp
  simp only[Bool.and_eq_true,decide_eq_true_eq] at hp
  refine⟨hp.2.1.2,by omega,fun m hm=>?_⟩
  obtain ⟨j,hj⟩:=List.mem_iff_getElem?.1 hm
  have hb:=(membersAll_iff s _ _ 0).1 hp.1 j m hj
  unfold memberB at hb
  simp only[Bool.and_eq_true,beq_iff_eq] at hb
  have hfr:freshB m s=false:=by
   cases hq:freshB m s with
   | false=>rfl
   | true=>have:=hb.1;rw[typeIn_zero hq] at this;simp[zeroType] at this
  obtain ⟨ht,_,hnm⟩:=right_at hs hfr
  have hsz:=type_small ht
  rw[hnm] at hsz
  exact⟨by omega,.inl hb.1⟩
structure DrwS(w W:World)(p len cap:Nat)(a:Option Addr)(A B:Nat)(sa:Option Addr)(sn sc:Nat)(s:List TypeP)(X1 xb:Nat)(x:TypeP)(xa:Option Addr)(xca:Nat)(xc:Option Addr)(xcc:Nat)(v:Value)(L:List RowS):Prop where
 src:Src W p a len cap
 only:Only p w W
 sch:SchemaAt W A B (.agg #[.slice sa sn sc]) s
 box:W.heap[w.heap.size]?=some (.cells #[.slice sa sn sc] 35 (0,0))
 xbox:W.heap[xb]?=some (.cells #[.string x.name,.int .i64 x.kind,.int .i64 x.bytes,.slice xa x.fields.length xca,.slice xc x.members.length xcc] 77 (0,0))
 fields:FieldsAt W (w.heap.size+2) X1 xa x.fields.length x.fields
 own:OwnSel W (w.heap.size+1) v L
 rows:RowsD W L
 far:∀ g,v.ownBlock=some g→g=w.heap.size+1∨X1≤g
 xb1:w.heap.size+2≤xb
 xb2:xb<X1
 x1:X1≤W.heap.size
 pA:p<A
 pw:p<w.heap.size
 Bw:B≤w.heap.size
section
variable {w W W':World} {p len cap:Nat} {a:Option Addr} {A B:Nat} {sa:Option Addr} {sn sc:Nat} {s:List TypeP} {X1 xb:Nat} {x:TypeP} {xa:Option Addr} {xca:Nat} {xc:Option Addr} {xcc:Nat} {v:Value} {L:List RowS}
theorem SchemaAt.far{W W':World}{A B:Nat}{v:Value}{s:List TypeP}(h:SchemaAt W A B v s)(hw:∀ c,A≤c→c<B→W'.heap[c]?=W.heap[c]?):SchemaAt W' A B v s:=by
 obtain ⟨a,ca,hv,h1,h2⟩:=h
 exact⟨a,ca,hv,h1.block typeLies hw,h2⟩
theorem DrwS.step(h:DrwS w W p len cap a A B sa sn sc s X1 xb x xa xca xc xcc v L)(g:Only p W W')(hs:Src W' p a len cap):DrwS w W' p len cap a A B sa sn sc s X1 xb x xa xca xc xcc v L:=by
 have h1:=h.only.size
 have hk:∀ c,c<W.heap.size→c≠p→W'.heap[c]?=W.heap[c]?:=g.block
 have hpw:=h.pw
 have hx:=h.x1
 have hx1:=h.xb1
 have hx2:=h.xb2
 have hB:=h.Bw
 have hA:=h.pA
 refine⟨hs,h.only.trans g,SchemaAt.far h.sch fun c c1 c2=>hk c (by omega) (by omega),(hk _ (by omega) (by omega)).trans h.box,(hk _ (by omega) (by omega)).trans h.xbox,h.fields.block fieldLies fun c c1 c2=>hk c (by omega) (by omega),h.own.frame g.size fun c c1 c2=>hk c c2 (by omega),h.rows.frame fun r hr c c1 c2=>?_,h.far,hx1,hx2,Nat.le_trans hx g.size,hA,hpw,hB⟩
 obtain ⟨_,_,h3,h4,_⟩:=h.own.ok r hr
 exact hk c (by omega) (by omega)
theorem DrwS.below(h:DrwS w W p len cap a A B sa sn sc s X1 xb x xa xca xc xcc v L)(g:Below W.heap.size W W'):DrwS w W' p len cap a A B sa sn sc s X1 xb x xa xca xc xcc v L :=
 h.step ((Only.refl p W).of_below (Nat.le_refl _) g) (h.src.below h.src.lt g)
theorem DrwS.drew(h:DrwS w W p len cap a A B sa sn sc s X1 xb x xa xca xc xcc v L):DrwS w W.drew p len cap a A B sa sn sc s X1 xb x xa xca xc xcc v L:=h.below (Below.refl _ _).drew
theorem DrwS.app(h:DrwS w W p len cap a A B sa sn sc s X1 xb x xa xca xc xcc v L){g c:Nat}{r:RowS}(hown:OwnSel W' (w.heap.size+1) (.slice (some ⟨g,0,none⟩) (L.length+1) c) (L++[r]))(hgrow:W.grownBy W' v.ownBlock)(hat:v.ownBlock=some g∨g=W.heap.size)
  (hr:RowsD W [r]) (hlo:∀ g,v.ownBlock=some g→g<r.lo∨r.hi≤g) (hhi:r.hi≤W.heap.size):DrwS w W' p len cap a A B sa sn sc s X1 xb x xa xca xc xcc (.slice (some ⟨g,0,none⟩) (L.length+1) c) (L++[r]):=by
 have h1:=h.only.size
 have hpw:=h.pw
 have hx:=h.x1
 have hx1:=h.xb1
 have hx2:=h.xb2
 have hB:=h.Bw
 have hA:=h.pA
 have hk:∀ c,c<W.heap.size→c<X1→c≠w.heap.size+1→W'.heap[c]?=W.heap[c]?:=fun c c1 c2 c3=>hgrow.block c c1 fun e=>by
  rcases h.far c e.symm with e2|e2 <;> omega
 have hsz:=hgrow.size
 have hbel:Below (w.heap.size+1) W W':=⟨hgrow.os,hgrow.tape,hgrow.output,hsz,fun c hc=>hk c (by omega) (by omega) (by omega)⟩
 refine⟨h.src.below (by omega) hbel,h.only.of_below (by omega) hbel,SchemaAt.far h.sch fun c c1 c2=>hk c (by omega) (by omega) (by omega),(hk _ (by omega) (by omega) (by omega)).trans h.box,(hk _ (by omega) (by omega) (by omega)).trans h.xbox,h.fields.block fieldLies fun c c1 c2=>hk c (by omega) (by omega) (by omega),hown,?_,?_,hx1,hx2,by omega,hA,hpw,hB⟩
 ·intro q hq
  have far:∀ c,q.lo≤c→c<q.hi→W'.heap[c]?=W.heap[c]?:=by
   rcases List.mem_append.1 hq with hq|hq
   ·obtain ⟨_,_,h3,h4,h5⟩:=h.own.ok q hq
    exact fun c c1 c2=>hgrow.block c (by omega) fun e=>by have:=h5 c e.symm;omega
   ·rw[List.mem_singleton] at hq;subst hq
    exact fun c c1 c2=>hgrow.block c (by omega) fun e=>by have:=hlo c e.symm;omega
  have hin:∃ inn:List RowS,OwnIn W q.lo q.hi (.slice q.a q.u.len q.cap) inn∧rowsSels inn=q.u∧inn.length≤4:=by
   rcases List.mem_append.1 hq with hq|hq
   ·exact h.rows q hq
   ·exact hr q hq
  obtain ⟨inn,i1,i2⟩:=hin
  exact⟨inn,i1.frame far,i2⟩
 ·intro g' hg'
  have e:g'=g:=by simpa [Value.ownBlock] using hg'.symm
  subst e
  rcases hat with hat|hat
  ·exact h.far _ hat
  ·right;omega
theorem DrwS.putAt(h:DrwS w W p len cap a A B sa sn sc s X1 xb x xa xca xc xcc v L){g:Nat}(h1:X1≤g)(h2:∀ b,v.ownBlock=some b→b<g)(h3:∀ r∈L,r.hi≤g)(i:Nat)(u:Value):DrwS w (W.setCell ⟨g,i,none⟩ u) p len cap a A B sa sn sc s X1 xb x xa xca xc xcc v L:=by
 have hw1:=h.only.size
 have hpw:=h.pw
 have hx:=h.x1
 have hx1:=h.xb1
 have hx2:=h.xb2
 have hB:=h.Bw
 have hA:=h.pA
 have hk:∀ c,c≠g→(W.setCell ⟨g,i,none⟩ u).heap[c]?=W.heap[c]?:=fun c hc=>Go.Deep.blk_setCell_other _ ⟨g,i,none⟩ _ _ hc
 have hz:(W.setCell ⟨g,i,none⟩ u).heap.size=W.heap.size:=by simp
 have hbel:Below X1 W (W.setCell ⟨g,i,none⟩ u):=(Below.refl X1 W).setCell (p:=⟨g,i,none⟩) h1 u
 refine⟨h.src.below (by omega) hbel,h.only.of_below (by omega) hbel,SchemaAt.far h.sch fun c c1 c2=>hk c (by omega),(hk _ (by omega)).trans h.box,(hk _ (by omega)).trans h.xbox,h.fields.block fieldLies fun c c1 c2=>hk c (by omega),⟨?_,h.own.order,fun r hr=>?_⟩,h.rows.frame fun r hr c c1 c2=>hk c (by have:=h3 r hr;omega),h.far,hx1,hx2,by omega,hA,hpw,hB⟩
 ·obtain ⟨hl,⟨hv,hn⟩|⟨gb,cap',cur,hv,hb,hg,hc,hm,hs,ht⟩⟩:=h.own.own
  ·exact⟨hl,.inl ⟨hv,hn⟩⟩
  ·have hgb:gb≠g:=by have:=h2 gb (by rw[hv];rfl);omega
   exact⟨hl,.inr ⟨gb,cap',cur,hv,hb,(hk gb hgb).trans hg,hc,hm,hs,ht⟩⟩
 ·obtain ⟨g1,g2,g3,g4,g5⟩:=h.own.ok r hr
  exact⟨g1,g2.block fun c c1 c2=>hk c (by have:=h3 r hr;omega),g3,by omega,g5⟩
theorem DrwS.put6(h:DrwS w W p len cap a A B sa sn sc s X1 xb x xa xca xc xcc v L){g:Nat}(h1:X1≤g)(h2:∀ b,v.ownBlock=some b→b<g)(h3:∀ r∈L,r.hi≤g){u0 u1 u2 u3 u4 u5:Value}{T:TypeId}(hg:W.heap[g]?=some (.cells #[u0,u1,u2,u3,u4,u5] T (0,0)))(v0 v1 v2 v3 v4 v5:Value) :
  DrwS w (putL W g 0 [v0,v1,v2,v3,v4,v5]) p len cap a A B sa sn sc s X1 xb x xa xca xc xcc v L∧(putL W g 0 [v0,v1,v2,v3,v4,v5]).heap[g]?=some (.cells #[v0,v1,v2,v3,v4,v5] T (0,0)):=by
 refine⟨((((((h.putAt h1 h2 h3 0 v0).putAt h1 h2 h3 1 v1).putAt h1 h2 h3 2 v2).putAt h1 h2 h3 3 v3).putAt h1 h2 h3 4 v4).putAt h1 h2 h3 5 v5),?_⟩
 unfold putL putL putL putL putL putL putL
 rw[heap_setCell_same _ _ _ _ _ _ (heap_setCell_same _ _ _ _ _ _ (heap_setCell_same _ _ _ _ _ _ (heap_setCell_same _ _ _ _ _ _ (heap_setCell_same _ _ _ _ _ _ (heap_setCell_same _ _ _ _ _ _ hg)))))]
 simp
end
end Go.Proofs.YtmembhpoidcmlaaGreatDoor.Draws
