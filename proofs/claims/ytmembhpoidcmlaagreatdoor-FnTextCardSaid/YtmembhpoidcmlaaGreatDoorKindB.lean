/-
  Contracts: impl.placeOf (with slices.IndexFunc and its closure), slices.Index over texts, impl.fieldRight; of what was there nothing is changed. Conditions: in memory; a map of kinds.
-/
import Derived.Test.YtmembhpoidcmlaaGreatDoorRows
import Derived.Test.YtmembhpoidcmlaaGreatDoorSchC
import Derived.Deep.RegionHeld3
import Derived.Test.YtmembhpoidcmlaaGreatDoorImplWord
import Derived.Maps.Own
import Derived.Maps.OwnOps
import Derived.Maps.OwnSet
import Derived.Maps.Views
namespace Go.Proofs.YtmembhpoidcmlaaGreatDoor.Rw
open Lib (hid)
open Go.RowKit Words
set_option linter.unusedVariables false
set_option maxRecDepth 100000
noncomputable def memberB(s:List TypeP)(l:List ByteArray)(i:Nat)(m:ByteArray):Bool:=((typeIn m s).kind == 2) && !inB m (l.take i)
noncomputable def membersAll(s:List TypeP)(l:List ByteArray):List ByteArray→Nat→Bool
 | [],_=>true
 | x::r,i=>memberB s l i x && membersAll s l r (i+1)
theorem membersAll_drop{s:List TypeP}{l:List ByteArray}{i:Nat}{x:ByteArray}(h:l[i]?=some x):membersAll s l (l.drop i) i=(memberB s l i x && membersAll s l (l.drop (i+1)) (i+1)):=by
 obtain ⟨hl,rfl⟩:=List.getElem?_eq_some_iff.1 h
 rw[List.drop_eq_getElem_cons hl,membersAll]
noncomputable def leafB(t:TypeP):Bool:=(((decide (0≤t.bytes) && decide (t.bytes≤100)) && ((t.fields.length:Int) == 0))) && ((t.members.length:Int) == 0)
noncomputable def objB(s:List TypeP)(t:TypeP):Bool:=((t.bytes == 0) && ((t.members.length:Int) == 0)) && fieldsB s t.fields
noncomputable def oneTB(s:List TypeP)(t:TypeP):Bool:=membersAll s t.members t.members 0 && ((((t.bytes == 0) && ((t.fields.length:Int) == 0)) && decide (1≤t.members.length)) && decide (t.members.length≤5))
noncomputable def partB(s:List TypeP)(t:TypeP):Bool :=
 if t.kind=1 then leafB t else if t.kind=2 then objB s t else if t.kind=3 then oneTB s t else false
set_option maxHeartbeats 4000000 in
theorem specPart(w:World)(A B:Nat)(v:Value)(s:List TypeP)(hv:SchemaAt w A B v s)(u:Value)(t:TypeP)(hu:TypeAt w A B u t)(hB:B≤w.heap.size) :
  Calls Tryz.prog 60 #[v,u] w fun e w'=>e=.returned (.bool (partB s t))∧Below w.heap.size w w':=by
 have CT:Hid (∀ (w':World) (nm:ByteArray),OkS nm→Below w.heap.size w w'→Calls Tryz.prog 83 #[v,.string nm] w' fun e w''=>(∃ a ca c cc,e=.returned (.agg ((typeIn nm s).cells a ca c cc).toArray)∧TypeAt w'' A B (.agg ((typeIn nm s).cells a ca c cc).toArray) (typeIn nm s))∧Below w'.heap.size w' w''):=hid fun w' nm hn h=>specType w' A B v s nm hn (hv.below hB h) (Nat.le_trans hB h.size)
 obtain ⟨a,ca,c,cc,rfl,hk,⟨h2,hca⟩,h3,hcc⟩:=hu
 have CF:Hid (∀ (w':World),Below w.heap.size w w'→Calls Tryz.prog 82 #[v,.slice a t.fields.length ca] w' fun e w''=>e=.returned (.bool (fieldsB s t.fields))∧Below w'.heap.size w' w''):=hid fun w' h=>specFields w' A B v s (hv.below hB h) a _ ca t.fields (h2.below fieldLies hB h) (Nat.le_trans hB h.size)
 obtain ⟨av,cv,rfl,hd,hcv⟩:=hv
 obtain ⟨nm,kd,by_,fs,ms⟩:=t
 obtain ⟨hk,⟨hs1,hs2⟩,hs3,hs4⟩:=hk
 simp only[TypeP.cells] at hk hs1 hs2 hs3 hs4 h2 h3 hca hcc CF ⊢
 have HM:=hid h3
 have hml:=h3.2.1
 have hfl:=h2.2.1
 clear hd h2 h3
 have C1:Hid (∀ w,Calls Tryz.prog 81 #[.int .i64 by_,.int .i64 0,.int .i64 100] w fun e w'=>e=.returned (.bool (decide (0≤by_) && decide (by_≤100)))∧w=w'):=hid fun w=>specIs _ _ _ ⟨hs3,hs4⟩ (by unfold OkI;omega) (by unfold OkI;omega) _
 have HA:Hid (∀ o1 o2,Below w.heap.size w ((w.alloc o1).alloc o2)):=hid fun o1 o2=>((Below.refl _ _).alloc (Nat.le_refl _) o1).alloc (by simp) o2
 obtain ⟨e1,he1⟩:∃ p,(by_ == 0)=p:=⟨_,rfl⟩
 obtain ⟨e2,he2⟩:∃ p,((fs.length:Int) == 0)=p:=⟨_,rfl⟩
 obtain ⟨e3,he3⟩:∃ p,((ms.length:Int) == 0)=p:=⟨_,rfl⟩
 obtain ⟨p1,hp1⟩:∃ p,(decide (0≤by_) && decide (by_≤100))=p:=⟨_,rfl⟩
 obtain ⟨p2,hp2⟩:∃ p,fieldsB s fs=p:=⟨_,rfl⟩
 have hL:=hid (show leafB ⟨nm,kd,by_,fs,ms⟩=((p1 && e2) && e3) by unfold leafB;simp only[hp1,he2,he3])
 have hO:=hid (show objB s ⟨nm,kd,by_,fs,ms⟩=((e1 && e3) && p2) by unfold objB;simp only[hp2,he1,he3])
 rw[hp1] at C1
 rw[hp2] at CF
 have hP:=hid (show partB s ⟨nm,kd,by_,fs,ms⟩=if kd=1 then leafB ⟨nm,kd,by_,fs,ms⟩ else if kd=2 then objB s ⟨nm,kd,by_,fs,ms⟩ else if kd=3 then oneTB s ⟨nm,kd,by_,fs,ms⟩ else false from rfl)
 clear hp1 hp2
 by_cases k1:kd=1
 ·have hf:=hid (show partB s ⟨nm,kd,by_,fs,ms⟩=((p1 && e2) && e3) by rw[hP.out,if_pos k1,hL.out])
  have k1b:(kd == 1)=true:=by rw[k1];rfl
  have K1:=hid k1
  clear k1 hP hL hO
  go_enter Tryz.func60,Tryz.ntmps60
  cases p1
  ·go_wp2_with (go_at_call 81;refine(C1.out _).mono ?_;rintro e w' ⟨rfl,rfl⟩)
   go_ret
   exact⟨ret_bool hf.out.symm,HA.out _ _⟩
  cases e2
  ·go_wp2_with (go_at_call 81;refine(C1.out _).mono ?_;rintro e w' ⟨rfl,rfl⟩)
   go_ret
   exact⟨ret_bool hf.out.symm,HA.out _ _⟩
  ·go_wp2_with (go_at_call 81;refine(C1.out _).mono ?_;rintro e w' ⟨rfl,rfl⟩)
   go_ret
   exact⟨ret_bool hf.out.symm,HA.out _ _⟩
 have k1b:(kd == 1)=false:=by rw[beq_eq_false_iff_ne];exact k1
 by_cases k2:kd=2
 ·have hf:=hid (show partB s ⟨nm,kd,by_,fs,ms⟩=((e1 && e3) && p2) by rw[hP.out,if_neg k1,if_pos k2,hO.out])
  have k2b:(kd == 2)=true:=by rw[k2];rfl
  have K2:=hid k2
  clear k2 hP hL hO
  go_enter Tryz.func60,Tryz.ntmps60
  cases e1
  ·go_wp2_with fail
   go_ret
   exact⟨ret_bool hf.out.symm,HA.out _ _⟩
  cases e3
  ·go_wp2_with fail
   go_ret
   exact⟨ret_bool hf.out.symm,HA.out _ _⟩
  ·go_wp2_with fail
   refine(CF.out _ (HA.out _ _)).mono ?_
   rintro e w1 ⟨rfl,hb1⟩
   have HB1:=hid ((HA.out _ _).trans (hb1.mono (HA.out _ _).size))
   clear hb1
   go_wp2_with fail
   go_ret
   exact⟨ret_bool hf.out.symm,HB1.out⟩
 have k2b:(kd == 2)=false:=by rw[beq_eq_false_iff_ne];exact k2
 by_cases k3:kd=3
 ·have hf:=hid (show partB s ⟨nm,kd,by_,fs,ms⟩=(membersAll s ms ms 0 && (((e1 && e2) && decide (1≤ms.length)) && decide (ms.length≤5))) by rw[hP.out,if_neg k1,if_neg k2,if_pos k3];unfold oneTB;simp only[he1,he2])
  have k3b:(kd == 3)=true:=by rw[k3];rfl
  have K3:=hid k3
  clear k3 hP hL hO
  go_enter Tryz.func60,Tryz.ntmps60
  go_wp2_with fail
  have k0:((w.alloc (.cells #[.slice av s.length cv] 35)).alloc (.cells #[.string nm,.int .i64 kd,.int .i64 by_,.slice a fs.length ca,.slice c ms.length cc] 77)).heap[w.heap.size]?=some (.cells #[.slice av s.length cv] 35 (0,0)):=by
   rw[Go.Deep.blk_alloc_lt _ _ _ (by simp)];exact heap_alloc_new w _
  have k4:((w.alloc (.cells #[.slice av s.length cv] 35)).alloc (.cells #[.string nm,.int .i64 kd,.int .i64 by_,.slice a fs.length ca,.slice c ms.length cc] 77)).heap[w.heap.size+1]?=some (.cells #[.string nm,.int .i64 kd,.int .i64 by_,.slice a fs.length ca,.slice c ms.length cc] 77 (0,0)):=by
   have:=heap_alloc_new (w.alloc (.cells #[.slice av s.length cv] 35)) (.cells #[.string nm,.int .i64 kd,.int .i64 by_,.slice a fs.length ca,.slice c ms.length cc] 77)
   simpa using this
  go_loopw [5] (fun i wr=>∃ (i':Nat),i'≤ms.length∧Hid (membersAll s ms ms 0=membersAll s ms (ms.drop i') i')∧i=.int .i64 i'∧wr.heap[w.heap.size]?=some (.cells #[.slice av s.length cv] 35 (0,0))∧wr.heap[w.heap.size+1]?=some (.cells #[.string nm,.int .i64 kd,.int .i64 by_,.slice a fs.length ca,.slice c ms.length cc] 77 (0,0))∧Below w.heap.size w wr) (fun i _=>ms.length - (intOf i).toNat)
  case atStart=>exact⟨0,by omega,hid (by rw[List.drop_zero]),rfl,k0,k4,HA.out _ _⟩
  case round =>
   obtain ⟨i,hi,hm,rfl,hk0,hk4,hb⟩:=hrel
   have HB:=hid hb
   clear k0 k4
   have ⟨j0,_⟩:=keep1 hk0
   have ⟨⟨i0,i1,i2,i3,i4⟩,_⟩:=keep5 hk4
   by_cases hlt:i<ms.length
   ·have hli:(i:Int)<(ms.length:Int):=by omega
    have hlc:(i:Int)≤(cc:Int):=by omega
    obtain ⟨x,b,off,hd,rfl,hA,hbb,hok,hc⟩:=(HM.out.below textLies (Nat.le_refl _) (hb.mono hB)).at hlt
    rw[Nat.mul_one] at hc
    have hst:=hid (membersAll_drop (s:=s) hd)
    have HOK:=hid hok
    have HHK0:=hid hk0
    have HHK4:=hid hk4
    obtain ⟨tX,htX⟩:∃ p,typeIn x s=p:=⟨_,rfl⟩
    obtain ⟨tn,tk,tb,tf,tm⟩:=tX
    obtain ⟨b1,hb1e⟩:∃ p,(tk == 2)=p:=⟨_,rfl⟩
    obtain ⟨b2,hb2e⟩:∃ p,inB x (ms.take i)=p:=⟨_,rfl⟩
    have HFB:=hid (show memberB s ms i x=(b1 && !b2) by unfold memberB;simp only[htX,hb1e,hb2e])
    have CT1:=hid (fun w' h=>CT.out w' x HOK.out h)
    rw[htX] at CT1
    simp only[TypeP.cells] at CT1
    have HM1:Hid (TextsAt wr A B (some ⟨b,off,none⟩) i (ms.take i)):=hid (by
     have h:=HM.out.below textLies (Nat.le_refl _) (hb.mono hB)
     refine⟨by rw[List.length_take];omega,by omega,.inr ⟨b,off,rfl,hA,hbb,fun q y hy=>?_⟩⟩
     rcases h.2.2 with h0|⟨b',off',e,_,_,hl⟩
     ·rw[h0] at hlt;simp at hlt
     ·cases e
      have hq:q<i:=by have:=(List.getElem?_eq_some_iff.1 hy).1;rw[List.length_take] at this;omega
      exact hl q y (by rw[List.getElem?_take_of_lt hq] at hy;exact hy))
    have hfld:∀ (W:World) (ta tca tc tcc),(Instr.field 77 (.agg #[.string tn,.int .i64 tk,.int .i64 tb,.slice ta tf.length tca,.slice tc tm.length tcc]) 1).run Tryz.prog W=.ok (.int .i64 tk) W:=fun _ _ _ _ _=>rfl
    have CI:Hid (∀ w',Below wr.heap.size wr w'→Calls Tryz.prog 84 #[.slice (some ⟨b,off,none⟩) i cc,.string x] w' fun e w''=>e=.returned (.bool b2)∧Below w'.heap.size w' w''):=hid fun w' h=>by
     rw[←hb2e];exact specIn w' A B _ i cc _ x HOK.out (HM1.out.below textLies (Nat.le_trans hB HB.out.size) h) (Nat.le_trans (Nat.le_trans hB HB.out.size) h.size)
    have hl0:=lt_of_get hk0
    have hl4:=lt_of_get hk4
    have hbw:b<wr.heap.size:=Nat.lt_of_lt_of_le hbb (Nat.le_trans hB HB.out.size)
    clear hd hok htX hb2e hlt hb
    have x0:wr.drew.cell? ⟨w.heap.size,0,none⟩=some (.slice av s.length cv):=j0
    have x1:wr.drew.cell? ⟨w.heap.size+1,4,none⟩=some (.slice (some ⟨b,off,none⟩) ms.length cc):=i4
    have x2:wr.drew.cell? ⟨b,off+i,none⟩=some (.string x):=hc
    have y0:w.heap.size<wr.drew.heap.size:=hl0
    have y1:w.heap.size+1<wr.drew.heap.size:=hl4
    have y2:b<wr.drew.heap.size:=hbw
    have HZ:Hid (wr.drew.heap.size=wr.heap.size):=hid rfl
    have HWD:Hid (Below wr.heap.size wr wr.drew):=hid (Below.refl _ wr).drew
    cases b1
    ·have t2:¬ tk=2:=by simpa using hb1e
     have t2b:(tk != 2)=true:=by simp[bne,hb1e]
     have ho:=hid HFB.out
     go_wp2_with fail
     refine wp_region_held_drew (S:=(fun w'=>w'.cell? ⟨w.heap.size,0,none⟩=some (.slice av s.length cv)∧w'.cell? ⟨w.heap.size+1,4,none⟩=some (.slice (some ⟨b,off,none⟩) ms.length cc)∧w'.cell? ⟨b,off+i,none⟩=some (.string x))) (by kernel_rfl) ⟨x0,x1,x2⟩ (fun hHeld=>?_)
     simp only[List.size_toArray,List.length_cons,List.length_nil,Nat.reduceAdd,Array.replicate,List.replicate]
     refine wpAnyH_take (i:=0) (v:=?_) rfl (by kernel_rfl) (by kernel_rfl) (by kernel_rfl) (fun _ _ _ h=>h) (Or.inl ⟨by rfl,?_⟩) (by assumption) ?_
     rotate_left 1
     ·(intro w hSw;(try dsimp only at hSw);go_simp;(try with_reducible rfl))
     (try simp only[Act.put,List.getElem_toArray,List.getElem_cons_zero,List.setIfInBounds_toArray,List.set_cons_zero,List.set_cons_succ])
     refine wpAnyH_take (i:=1) (v:=?_) rfl (by kernel_rfl) (by kernel_rfl) (by kernel_rfl) (fun _ _ _ h=>h) (Or.inl ⟨by rfl,?_⟩) (by assumption) ?_
     rotate_left 1
     ·(intro w hSw;(try dsimp only at hSw);go_simp;(try with_reducible rfl))
     (try simp only[Act.put,List.getElem_toArray,List.getElem_cons_zero,List.getElem_cons_succ,List.setIfInBounds_toArray,List.set_cons_zero,List.set_cons_succ])
     refine wpAnyH_take (i:=2) (v:=?_) rfl (by kernel_rfl) (by kernel_rfl) (by kernel_rfl) (fun _ _ _ h=>h) (Or.inl ⟨by rfl,?_⟩) (by assumption) ?_
     rotate_left 1
     ·(intro w hSw;(try dsimp only at hSw);go_simp;(try with_reducible rfl))
     (try simp only[Act.put,List.getElem_toArray,List.getElem_cons_zero,List.getElem_cons_succ,List.setIfInBounds_toArray,List.set_cons_zero,List.set_cons_succ])
     refine wpAnyH_take (i:=3) (v:=?_) rfl (by kernel_rfl) (by kernel_rfl) (by kernel_rfl) (fun _ _ _ h=>h) (Or.inl ⟨by rfl,?_⟩) (by assumption) ?_
     rotate_left 1
     ·(intro w hSw;(try dsimp only at hSw);go_simp;(try with_reducible rfl))
     (try simp only[Act.put,List.getElem_toArray,List.getElem_cons_zero,List.getElem_cons_succ,List.setIfInBounds_toArray,List.set_cons_zero,List.set_cons_succ])
     refine wpAnyH_take (i:=4) (v:=?_) rfl (by kernel_rfl) (by kernel_rfl) (by kernel_rfl) (fun _ _ _ h=>h) (Or.inl ⟨by rfl,?_⟩) (by assumption) ?_
     rotate_left 1
     ·(intro w hSw;(try dsimp only at hSw);go_simp;(try with_reducible rfl))
     (try simp only[Act.put,List.getElem_toArray,List.getElem_cons_zero,List.getElem_cons_succ,List.setIfInBounds_toArray,List.set_cons_zero,List.set_cons_succ])
     refine wpAnyH_take (i:=5) (v:=?_) rfl (by kernel_rfl) (by kernel_rfl) (by kernel_rfl) (fun _ _ _ h=>h) (Or.inl ⟨by rfl,?_⟩) (by assumption) ?_
     rotate_left 1
     ·(intro w hSw;(try dsimp only at hSw);go_simp;(try with_reducible rfl))
     (try simp only[Act.put,List.getElem_toArray,List.getElem_cons_zero,List.getElem_cons_succ,List.setIfInBounds_toArray,List.set_cons_zero,List.set_cons_succ])
     refine wpAnyH_ready (rs:=[6]) (by kernel_rfl) (by simp) ?_
     refine AllReadyH.cons rfl (fun K hK=>?_) AllReadyH.nil
     (try simp only[Act.put,List.getElem_toArray,List.getElem_cons_zero,List.getElem_cons_succ,List.setIfInBounds_toArray,List.set_cons_zero,List.set_cons_succ])
     go_simp
     refine(CT1.out _ HB.out.drew).mono ?_
     rintro e w2 ⟨⟨ta,tca,tc,tcc,rfl,_⟩,hb2⟩
     refine hK.out _ _ ⟨kcell hb2 y0 x0,kcell hb2 y1 x1,kcell hb2 y2 x2⟩ (fun hHeld2=>?_)
     clear hK K
     (try simp only[List.setIfInBounds_toArray,List.set_cons_zero,List.set_cons_succ])
     refine wpAnyH_take (i:=7) (v:=?_) rfl (by kernel_rfl) (by kernel_rfl) (by kernel_rfl) (fun _ _ _ h=>h) (Or.inl ⟨by rfl,?_⟩) (by assumption) ?_
     rotate_left 1
     ·(intro w hSw;(try dsimp only at hSw);go_simp;(try with_reducible rfl))
     (try simp only[Act.put,List.getElem_toArray,List.getElem_cons_zero,List.getElem_cons_succ,List.setIfInBounds_toArray,List.set_cons_zero,List.set_cons_succ])
     refine wpAnyH_take (i:=8) (v:=?_) rfl (by kernel_rfl) (by kernel_rfl) (by kernel_rfl) (fun _ _ _ h=>h) (Or.inl ⟨by rfl,?_⟩) (by assumption) ?_
     rotate_left 1
     ·(intro w hSw;(try dsimp only at hSw);go_simp;(try with_reducible rfl))
     (try simp only[Act.put,List.getElem_toArray,List.getElem_cons_zero,List.getElem_cons_succ,List.setIfInBounds_toArray,List.set_cons_zero,List.set_cons_succ])
     refine wpAnyH_take (i:=9) (v:=?_) rfl (by kernel_rfl) (by kernel_rfl) (by kernel_rfl) (fun _ _ _ h=>h) (Or.inl ⟨by rfl,?_⟩) (by assumption) ?_
     rotate_left 1
     ·(intro w hSw;(try dsimp only at hSw);go_simp;(try with_reducible rfl))
     (try simp only[Act.put,List.getElem_toArray,List.getElem_cons_zero,List.getElem_cons_succ,List.setIfInBounds_toArray,List.set_cons_zero,List.set_cons_succ])
     refine wpAnyH_take (i:=10) (v:=undef) rfl (by kernel_rfl) (by kernel_rfl) (by kernel_rfl) (fun _ _ _ h=>h) (Or.inr ⟨by rfl,rfl⟩) (by assumption) ?_
     (try simp only[Act.put,List.getElem_toArray,List.getElem_cons_zero,List.getElem_cons_succ,List.setIfInBounds_toArray,List.set_cons_zero,List.set_cons_succ])
     refine wpAnyH_take (i:=11) (v:=undef) rfl (by kernel_rfl) (by kernel_rfl) (by kernel_rfl) (fun _ _ _ h=>h) (Or.inr ⟨by rfl,rfl⟩) (by assumption) ?_
     (try simp only[Act.put,List.getElem_toArray,List.getElem_cons_zero,List.getElem_cons_succ,List.setIfInBounds_toArray,List.set_cons_zero,List.set_cons_succ])
     refine wpAnyH_take (i:=12) (v:=undef) rfl (by kernel_rfl) (by kernel_rfl) (by kernel_rfl) (fun _ _ _ h=>h) (Or.inr ⟨by rfl,rfl⟩) (by assumption) ?_
     (try simp only[Act.put,List.getElem_toArray,List.getElem_cons_zero,List.getElem_cons_succ,List.setIfInBounds_toArray,List.set_cons_zero,List.set_cons_succ])
     refine wpAnyH_take (i:=13) (v:=undef) rfl (by kernel_rfl) (by kernel_rfl) (by kernel_rfl) (fun _ _ _ h=>h) (Or.inr ⟨by rfl,rfl⟩) (by assumption) ?_
     (try simp only[Act.put,List.getElem_toArray,List.getElem_cons_zero,List.getElem_cons_succ,List.setIfInBounds_toArray,List.set_cons_zero,List.set_cons_succ])
     refine wpAnyH_take (i:=14) (v:=undef) rfl (by kernel_rfl) (by kernel_rfl) (by kernel_rfl) (fun _ _ _ h=>h) (Or.inr ⟨by rfl,rfl⟩) (by assumption) ?_
     (try simp only[Act.put,List.getElem_toArray,List.getElem_cons_zero,List.getElem_cons_succ,List.setIfInBounds_toArray,List.set_cons_zero,List.set_cons_succ])
     refine wpAnyH_take (i:=15) (v:=undef) rfl (by kernel_rfl) (by kernel_rfl) (by kernel_rfl) (fun _ _ _ h=>h) (Or.inr ⟨by rfl,rfl⟩) (by assumption) ?_
     (try simp only[Act.put,List.getElem_toArray,List.getElem_cons_zero,List.getElem_cons_succ,List.setIfInBounds_toArray,List.set_cons_zero,List.set_cons_succ])
     refine wpAnyH_take (i:=16) (v:=undef) rfl (by kernel_rfl) (by kernel_rfl) (by kernel_rfl) (fun _ _ _ h=>h) (Or.inr ⟨by rfl,rfl⟩) (by assumption) ?_
     (try simp only[Act.put,List.getElem_toArray,List.getElem_cons_zero,List.getElem_cons_succ,List.setIfInBounds_toArray,List.set_cons_zero,List.set_cons_succ])
     refine wpAnyH_take (i:=17) (v:=undef) rfl (by kernel_rfl) (by kernel_rfl) (by kernel_rfl) (fun _ _ _ h=>h) (Or.inr ⟨by rfl,rfl⟩) (by assumption) ?_
     (try simp only[Act.put,List.getElem_toArray,List.getElem_cons_zero,List.getElem_cons_succ,List.setIfInBounds_toArray,List.set_cons_zero,List.set_cons_succ])
     refine wpAnyH_take (i:=18) (v:=undef) rfl (by kernel_rfl) (by kernel_rfl) (by kernel_rfl) (fun _ _ _ h=>h) (Or.inr ⟨by rfl,rfl⟩) (by assumption) ?_
     (try simp only[Act.put,List.getElem_toArray,List.getElem_cons_zero,List.getElem_cons_succ,List.setIfInBounds_toArray,List.set_cons_zero,List.set_cons_succ])
     refine wpAnyH_take (i:=19) (v:=undef) rfl (by kernel_rfl) (by kernel_rfl) (by kernel_rfl) (fun _ _ _ h=>h) (Or.inr ⟨by rfl,rfl⟩) (by assumption) ?_
     (try simp only[Act.put,List.getElem_toArray,List.getElem_cons_zero,List.getElem_cons_succ,List.setIfInBounds_toArray,List.set_cons_zero,List.set_cons_succ])
     refine wpAnyH_take (i:=20) (v:=?_) rfl (by kernel_rfl) (by kernel_rfl) (by kernel_rfl) (fun _ _ _ h=>h) (Or.inl ⟨by rfl,?_⟩) (by assumption) ?_
     rotate_left 1
     ·(intro w hSw;(try dsimp only at hSw);go_simp;(try with_reducible rfl))
     (try simp only[Act.put,List.getElem_toArray,List.getElem_cons_zero,List.getElem_cons_succ,List.setIfInBounds_toArray,List.set_cons_zero,List.set_cons_succ])
     refine wpAnyH_done (by kernel_rfl) ?_ _
     have hB2:=HB.out.drew.trans (hb2.mono HB.out.drew.size)
     go_wp2_with fail
     go_ret
     exact⟨ret_bool (by rw[hf.out,all_no hm.out hst.out ho.out];rfl),hB2⟩
    ·have t2b:(tk != 2)=false:=by simp[bne,hb1e]
     have ho:=hid HFB.out
     go_wp2_with fail
     go_region_held3 (fun w'=>w'.cell? ⟨w.heap.size,0,none⟩=some (.slice av s.length cv)∧w'.cell? ⟨w.heap.size+1,4,none⟩=some (.slice (some ⟨b,off,none⟩) ms.length cc)∧w'.cell? ⟨b,off+i,none⟩=some (.string x)) (go_keep)
      (first | (go_at_call 83;refine(CT1.out _ HB.out.drew).mono ?_;rintro e w2 ⟨⟨ta,tca,tc,tcc,rfl,_⟩,hb2⟩;have d0:=kcell hb2 y0 x0;have d1:=kcell hb2 y1 x1;have d2:=kcell hb2 y2 x2;have HB2:=hid (HWD.out.trans (hb2.mono HWD.out.size));have f0:=Nat.lt_of_lt_of_le y0 hb2.size;have f1:=Nat.lt_of_lt_of_le y1 hb2.size;have f2:=Nat.lt_of_lt_of_le y2 hb2.size) | (go_at_call 84;refine(CI.out _ HB2.out).mono ?_;rintro e w3 ⟨rfl,hb3⟩;have g0:=kcell hb3 f0 d0;have g1:=kcell hb3 f1 d1;have g2:=kcell hb3 f2 d2))
     all_goals
      have hB2:=HB.out.drew.trans (hb2.mono HB.out.drew.size)
      have hB3:=hB2.trans (hb3.mono hB2.size)
      have hk03:=(hb3.block w.heap.size f0).trans ((hb2.block w.heap.size y0).trans HHK0.out)
      have hk43:=(hb3.block (w.heap.size+1) f1).trans ((hb2.block (w.heap.size+1) y1).trans HHK4.out)
      cases b2
      ·go_wp2_with fail
       go_roundw
       case rel=>exact⟨i+1,by omega,hid (all_yes hm.out hst.out ho.out),by go_num,hk03,hk43,hB3⟩
       case measure=>simp[intOf];omega
      ·go_wp2_with fail
       go_ret
       exact⟨ret_bool (by rw[hf.out,all_no hm.out hst.out ho.out];rfl),hB3⟩
   ·obtain rfl:i=ms.length:=by omega
    have hf2:Hid (partB s ⟨nm,kd,by_,fs,ms⟩=(((e1 && e2) && decide (1≤ms.length)) && decide (ms.length≤5))):=hid (by rw[hf.out,hm.out,List.drop_length];rfl)
    clear hlt hb hk0 hk4 hf
    cases e1
    ·go_wp2_with fail
     go_ret
     exact⟨ret_bool hf2.out.symm,HB.out⟩
    cases e2
    ·go_wp2_with fail
     go_ret
     exact⟨ret_bool hf2.out.symm,HB.out⟩
    by_cases q1:1≤ms.length
    ·have q1i:1≤(ms.length:Int):=by omega
     by_cases q2:ms.length≤5
     ·have q2i:(ms.length:Int)≤5:=by omega
      have hf3:Hid (partB s ⟨nm,kd,by_,fs,ms⟩=true):=hid (by rw[hf2.out];simp[q1,q2])
      go_wp2_with fail
      go_ret
      exact⟨ret_bool hf3.out.symm,HB.out⟩
     ·have q2i:(5:Int)<(ms.length:Int):=by omega
      have hf3:Hid (partB s ⟨nm,kd,by_,fs,ms⟩=false):=hid (by rw[hf2.out];simp[q2])
      have q2b:decide ((ms.length:Int)≤5)=false:=decide_eq_false (by omega)
      clear q2
      go_wp2_with fail
      go_ret
      exact⟨ret_bool hf3.out.symm,HB.out⟩
    ·have q1i:(ms.length:Int)<1:=by omega
     have hf3:Hid (partB s ⟨nm,kd,by_,fs,ms⟩=false):=hid (by rw[hf2.out];simp[q1])
     clear q1
     go_wp2_with fail
     go_ret
     exact⟨ret_bool hf3.out.symm,HB.out⟩
 ·have hf:=hid (show partB s ⟨nm,kd,by_,fs,ms⟩=false by rw[hP.out,if_neg k1,if_neg k2,if_neg k3])
  have k3b:(kd == 3)=false:=by rw[beq_eq_false_iff_ne];exact k3
  clear hP hL hO
  go_enter Tryz.func60,Tryz.ntmps60
  go_wp2_with fail
  go_ret
  exact⟨ret_bool hf.out.symm,HA.out _ _⟩
def freshB(nm:ByteArray):List TypeP→Bool
 | []=>true
 | x::l=>if x.name=nm then false else freshB nm l
theorem fresh_hit{nm:ByteArray}{l:List TypeP}{i:Nat}{x:TypeP}(h:l[i]?=some x)(hx:x.name=nm):freshB nm (l.drop i)=false:=by
 obtain ⟨hl,rfl⟩:=List.getElem?_eq_some_iff.1 h
 rw[List.drop_eq_getElem_cons hl,freshB,if_pos hx]
theorem fresh_miss{nm:ByteArray}{l:List TypeP}{i:Nat}{x:TypeP}(h:l[i]?=some x)(hx:x.name≠nm):freshB nm (l.drop i)=freshB nm (l.drop (i+1)):=by
 obtain ⟨hl,rfl⟩:=List.getElem?_eq_some_iff.1 h
 rw[List.drop_eq_getElem_cons hl,freshB,if_neg hx]
noncomputable def typeOkB(s:List TypeP)(i:Nat)(x:TypeP):Bool:=(typeB x.name && partB s x) && freshB x.name (s.take i)
noncomputable def typesAll(s:List TypeP):List TypeP→Nat→Bool
 | [],_=>true
 | x::r,i=>typeOkB s i x && typesAll s r (i+1)
theorem typesAll_drop{s l:List TypeP}{i:Nat}{x:TypeP}(h:l[i]?=some x):typesAll s (l.drop i) i=(typeOkB s i x && typesAll s (l.drop (i+1)) (i+1)):=by
 obtain ⟨hl,rfl⟩:=List.getElem?_eq_some_iff.1 h
 rw[List.drop_eq_getElem_cons hl,typesAll]
def headKind:List TypeP→Int
 | []=>0
 | x::_=>x.kind
noncomputable def schemaB(s:List TypeP):Bool:=((decide (1≤s.length) && decide (s.length≤12)) && (headKind s == 2)) && typesAll s s 0
set_option maxHeartbeats 4000000 in
theorem specSchemaRight(w:World)(A B:Nat)(v:Value)(s:List TypeP)(hv:SchemaAt w A B v s)(hB:B≤w.heap.size) :
  Calls Tryz.prog 29 #[v] w fun e w'=>e=.returned (.bool (schemaB s))∧Below w.heap.size w w':=by
 have CP:Hid (∀ (w':World) (u:Value) (t:TypeP),TypeAt w' A B u t→Below w.heap.size w w'→Calls Tryz.prog 60 #[v,u] w' fun e w''=>e=.returned (.bool (partB s t))∧Below w'.heap.size w' w''):=hid fun w' u t hu h=>specPart w' A B v s (hv.below hB h) u t hu (Nat.le_trans hB h.size)
 obtain ⟨a,ca,rfl,hd,hcv⟩:=hv
 have hlen:=hd.2.1
 have HS:=hid hd
 have HA:Hid (∀ o1,Below w.heap.size w (w.alloc o1)):=hid fun o1=>(Below.refl _ _).alloc (Nat.le_refl _) o1
 have hS0:=hid (show schemaB s=(((decide (1≤s.length) && decide (s.length≤12)) && (headKind s == 2)) && typesAll s s 0) from rfl)
 clear hd
 by_cases c1:s.length<1
 ·have hf:=hid (show schemaB s=false by rw[hS0.out];simp[show ¬ 1≤s.length by omega])
  have c1i:(s.length:Int)<1:=by omega
  clear c1
  go_enter Tryz.func29,Tryz.ntmps29
  go_wp2_with fail
  go_ret
  exact⟨ret_bool hf.out.symm,HA.out _⟩
 have c1i:¬ (s.length:Int)<1:=by omega
 have c1j:1≤(s.length:Int):=by omega
 by_cases c2:12<s.length
 ·have hf:=hid (show schemaB s=false by rw[hS0.out];simp[show ¬ s.length≤12 by omega])
  have c2i:(12:Int)<(s.length:Int):=by omega
  clear c1 c2
  go_enter Tryz.func29,Tryz.ntmps29
  go_wp2_with fail
  go_ret
  exact⟨ret_bool hf.out.symm,HA.out _⟩
 have c2i:¬ (12:Int)<(s.length:Int):=by omega
 have c2j:(s.length:Int)≤12:=by omega
 obtain ⟨x0,hx0⟩:∃ x,s[0]?=some x:=⟨s[0],List.getElem?_eq_getElem (by omega)⟩
 obtain ⟨x1,b,off,hd,rfl,hAb,hbb,hok,a1,ca1,cm,ccm,hc,h2,h3⟩:=HS.out.at (i:=0) (by omega)
 obtain rfl:x1=x0:=by rw[hd] at hx0;cases hx0;rfl
 obtain ⟨d0,d1,d2,d3,d4⟩:=row5 hc
 rw[Nat.zero_mul,Nat.add_zero] at d0 d1 d2 d3 d4
 have hhk:=hid (show headKind s=x1.kind by
  obtain ⟨hl,rfl⟩:=List.getElem?_eq_some_iff.1 hd
  cases s with
  | nil=>simp at hl
  | cons y l=>rfl)
 obtain ⟨_,⟨k1,k2⟩,_⟩:=hok
 obtain ⟨xk,hxk⟩:∃ k,x1.kind=k:=⟨_,rfl⟩
 rw[hxk] at hhk d1 k1 k2
 obtain ⟨e1,he1⟩:∃ p,(xk == 2)=p:=⟨_,rfl⟩
 have hbw:b<w.heap.size:=by omega
 clear hx0 hc h2 h3 hxk d0 d2 d3 d4 hd
 cases e1
 ·have hf:=hid (show schemaB s=false by rw[hS0.out,hhk.out,he1];simp)
  have hk:¬ xk=2:=by simpa using he1
  clear c1 c2
  go_enter Tryz.func29,Tryz.ntmps29
  go_wp2_with fail
  go_ret
  exact⟨ret_bool hf.out.symm,HA.out _⟩
 have hk2:(xk != 2)=false:=by simp[bne,he1]
 have hS:=hid (show schemaB s=typesAll s s 0 by rw[hS0.out,hhk.out,he1];simp[show 1≤s.length by omega,show s.length≤12 by omega])
 clear hS0 hhk c1 c2
 go_enter Tryz.func29,Tryz.ntmps29
 go_wp2_with fail
 clear d1
 have k0:=heap_alloc_new w (.cells #[.slice (some ⟨b,off,none⟩) s.length ca] 35)
 go_loopw [3] (fun i wr=>∃ (i':Nat),i'≤s.length∧Hid (typesAll s s 0=typesAll s (s.drop i') i')∧i=.int .i64 i'∧wr.heap[w.heap.size]?=some (.cells #[.slice (some ⟨b,off,none⟩) s.length ca] 35 (0,0))∧Below w.heap.size w wr) (fun i _=>s.length - (intOf i).toNat)
 case atStart=>exact⟨0,by omega,hid (by rw[List.drop_zero]),rfl,k0,HA.out _⟩
 case round =>
  obtain ⟨i,hi,hm,rfl,hk0,hb⟩:=hrel
  have HB:=hid hb
  clear k0
  have ⟨j0,_⟩:=keep1 hk0
  by_cases hlt:i<s.length
  ·have hli:(i:Int)<(s.length:Int):=by omega
   obtain ⟨x,b',off',hd,he,hA',hbb',hok,a1,ca1,cm,ccm,hc,h2,h3⟩:=(HS.out.below typeLies (Nat.le_refl _) (hb.mono hB)).at hlt
   cases he
   obtain ⟨d0,d1,d2,d3,d4⟩:=row5 hc
   have hst:=hid (typesAll_drop (s:=s) hd)
   have HD:=hid hd
   have HOK:=hid hok
   have HX:Hid (TypeAt wr A B (.agg #[.string x.name,.int .i64 x.kind,.int .i64 x.bytes,.slice a1 x.fields.length ca1,.slice cm x.members.length ccm]) x):=hid ⟨a1,ca1,cm,ccm,rfl,hok,h2,h3⟩
   obtain ⟨p1,hp1⟩:∃ p,typeB x.name=p:=⟨_,rfl⟩
   obtain ⟨p2,hp2⟩:∃ p,partB s x=p:=⟨_,rfl⟩
   have HTB:=hid (show typeOkB s i x=((p1 && p2) && freshB x.name (s.take i)) by unfold typeOkB;rw[hp1,hp2])
   have C1:Hid (∀ w,Calls Tryz.prog 23 #[.string x.name] w fun e w'=>e=.returned (.bool p1)∧w=w'):=hid fun w=>by rw[←hp1];exact specTypeWord _ (by unfold maxLen;exact HOK.out.1) w
   have HAA:Hid (∀ o,Below w.heap.size w (wr.alloc o)):=hid fun o=>HB.out.alloc HB.out.size o
   have C2:Hid (∀ o,Calls Tryz.prog 60 #[.agg #[.slice (some ⟨b,off,none⟩) s.length ca],.agg #[.string x.name,.int .i64 x.kind,.int .i64 x.bytes,.slice a1 x.fields.length ca1,.slice cm x.members.length ccm]] (wr.alloc o) fun e w'=>e=.returned (.bool p2)∧Below (wr.alloc o).heap.size (wr.alloc o) w'):=hid fun o=>by
    rw[←hp2];exact CP.out _ _ x (HX.out.below (C:=wr.heap.size) (Nat.le_trans hB HB.out.size) ((Below.refl _ _).alloc (Nat.le_refl _) o)) (HAA.out o)
   have hl0:=lt_of_get hk0
   have hkf:=hid ((Go.Deep.blk_alloc_lt wr (.cells #[.string x.name,.int .i64 x.kind,.int .i64 x.bytes,.slice a1 x.fields.length ca1,.slice cm x.members.length ccm] 77) w.heap.size hl0).trans hk0)
   have hnew:=hid (heap_alloc_new wr (.cells #[.string x.name,.int .i64 x.kind,.int .i64 x.bytes,.slice a1 x.fields.length ca1,.slice cm x.members.length ccm] 77))
   have hoksz:=hok.1
   unfold OkS at hoksz
   have HSI:=hid (show s.take i=s.take i from rfl)
   clear hp1 hp2 hok hc h2 h3 hd hb hlt
   cases p1
   ·have ho:=hid (show typeOkB s i x=false from HTB.out)
    go_wp2_with (first
     | (go_at_call 23;refine(C1.out _).mono ?_;rintro e w' ⟨rfl,rfl⟩)
     | (go_at_call 60;refine(C2.out _).mono ?_;rintro e w1 ⟨rfl,hb1⟩))
    go_ret
    exact⟨ret_bool (by rw[hS.out,all_no hm.out hst.out ho.out]),HAA.out _⟩
   cases p2
   ·have ho:=hid (show typeOkB s i x=false from HTB.out)
    go_wp2_with (first
     | (go_at_call 23;refine(C1.out _).mono ?_;rintro e w' ⟨rfl,rfl⟩)
     | (go_at_call 60;refine(C2.out _).mono ?_;rintro e w1 ⟨rfl,hb1⟩))
    go_ret
    exact⟨ret_bool (by rw[hS.out,all_no hm.out hst.out ho.out]),(HAA.out _).trans (hb1.mono (HAA.out _).size)⟩
   ·go_wp2_with (first
     | (go_at_call 23;refine(C1.out _).mono ?_;rintro e w' ⟨rfl,rfl⟩)
     | (go_at_call 60;refine(C2.out _).mono ?_;rintro e w1 ⟨rfl,hb1⟩))
    have HB1:=hid ((HAA.out _).trans (hb1.mono (HAA.out _).size))
    have hk1:=(hb1.block w.heap.size (by simp;omega)).trans hkf.out
    have ht1:=(hb1.block wr.heap.size (by simp)).trans hnew.out
    have hwr1:wr.heap.size<w1.heap.size:=lt_of_get ht1
    clear hb1
    go_loopw [5] (fun k wk=>∃ (k':Nat),k'≤i∧Hid (freshB x.name (s.take i)=freshB x.name ((s.take i).drop k'))∧k=.int .i64 k'∧wk.heap[w.heap.size]?=some (.cells #[.slice (some ⟨b,off,none⟩) s.length ca] 35 (0,0))∧wk.heap[wr.heap.size]?=some (.cells #[.string x.name,.int .i64 x.kind,.int .i64 x.bytes,.slice a1 x.fields.length ca1,.slice cm x.members.length ccm] 77 (0,0))∧Below w.heap.size w wk) (fun k _=>i - (intOf k).toNat)
    case atStart=>exact⟨0,by omega,hid (by rw[List.drop_zero]),rfl,hk1,ht1,HB1.out⟩
    case round =>
     obtain ⟨k,hki,hfr,rfl,hk2',ht2,hbk⟩:=hrel
     have HBK:=hid hbk
     have ⟨q0,_⟩:=keep1 hk2'
     have ⟨⟨t0,t1,t2,t3,t4⟩,_⟩:=keep5 ht2
     by_cases hlk:k<i
     ·have hlki:(k:Int)<(i:Int):=by omega
      have hlks:(k:Int)<(s.length:Int):=by omega
      obtain ⟨y,b'',off'',hdy,hey,_,hby,hoky,a2,ca2,cm2,ccm2,hcy,_,_⟩:=(HS.out.below typeLies (Nat.le_refl _) (hbk.mono hB)).at (i:=k) (by omega)
      cases hey
      obtain ⟨f0,_,_,_,_⟩:=row5 hcy
      have hdy2:(s.take i)[k]?=some y:=by rw[List.getElem?_take_of_lt hlk];exact hdy
      by_cases hx:y.name=x.name
      ·have ho:=hid (show typeOkB s i x=false by rw[HTB.out,hfr.out,fresh_hit hdy2 hx];rfl)
       have HXE:=hid hx
       rw[hx] at f0
       clear hx hlk hdy hoky hcy hdy2 hbk
       go_wp2_with fail
       go_region
       go_wp2_with fail
       go_ret
       exact⟨ret_bool (by rw[hS.out,all_no hm.out hst.out ho.out]),HBK.out.drew⟩
      ·have hn1:=toList_ne hx
       have hn2:=toList_beq hx
       have hrel:=hid (hfr.out.trans (fresh_miss hdy2 hx))
       clear hlk hdy hoky hcy hdy2 hbk
       go_wp2_with fail
       go_region
       go_wp2_with fail
       go_roundw
       case rel=>exact⟨k+1,by omega,hrel,by go_num,hk2',ht2,HBK.out.drew⟩
       case measure=>simp[intOf];omega
     ·obtain rfl:k=i:=by omega
      have ho:=hid (show typeOkB s k x=true by
       rw[HTB.out,hfr.out,List.drop_eq_nil_of_le (by rw[List.length_take];omega)];rfl)
      clear hlk hbk
      go_wp2_with fail
      go_roundw
      case rel=>exact⟨k+1,by omega,hid (all_yes hm.out hst.out ho.out),by go_num,hk2',HBK.out⟩
      case measure=>simp[intOf];omega
  ·obtain rfl:i=s.length:=by omega
   have hf:Hid (schemaB s=true):=hid (by rw[hS.out,hm.out,List.drop_length];rfl)
   clear hlt hb
   go_wp2_with fail
   go_ret
   exact⟨ret_bool hf.out.symm,HB.out⟩
end Go.Proofs.YtmembhpoidcmlaaGreatDoor.Rw
namespace Go.Proofs.YtmembhpoidcmlaaGreatDoor.Rw
open Lib (hid)
open Go.RowKit Words Go.Maps
set_option linter.unusedVariables false
set_option maxRecDepth 100000
abbrev RV:Value→Option (DataW Value×List MemPlace):=fun v=>some (.held v,[])
theorem lawS:Keyed Tryz.prog 9:=string_keyed Tryz.underlying9
theorem zeroK(w:World):(zeroValue 79).run Tryz.prog w=.ok .nilIface w:=by kernel_rfl
abbrev keyL (nm:ByteArray):Lit:=.string nm.data.toList
theorem keyL_ne{a b:ByteArray}(h:a≠b):keyL a≠keyL b:=fun e=>h (by
 injection e with e
 exact ByteArray.ext (Array.toList_inj.1 e))
abbrev OwnK (w:World) (b n:Nat) (D:DataW Value):Prop:=w.ownsMap Tryz.prog 9 RV b n D
def kindT(k:Int):TypeId:=if k=1 then 160 else if k=2 then 161 else 162
def KindV(w:World)(A B:Nat)(v:Value)(x:TypeP):Prop :=
 (x.kind=1∨x.kind=2∨x.kind=3)∧∃ a ca c cc,v=.iface (kindT x.kind) (.agg (x.cells a ca c cc).toArray)∧TypeAt w A B (.agg (x.cells a ca c cc).toArray) x
theorem KindV.below{w w':World}{A B C:Nat}{v:Value}{x:TypeP}(h:KindV w A B v x)(hB:B≤C)(g:Below C w w'):KindV w' A B v x:=by
 obtain ⟨h0,a,ca,c,cc,h1,h2⟩:=h
 exact⟨h0,a,ca,c,cc,h1,h2.below hB g⟩
def KD(w:World)(A B:Nat)(l:List TypeP)(D:DataW Value):Prop :=
 IsMap D∧∀ nm,(freshB nm l=true→D.atKey (keyL nm) (.held .nilIface)=.held .nilIface∧Maps.has D (keyL nm)=false) ∧
  (freshB nm l=false→∃ v,D.atKey (keyL nm) (.held .nilIface)=.held v∧KindV w A B v (typeIn nm l)∧Maps.has D (keyL nm)=true)
theorem KD.below{w w':World}{A B C:Nat}{l:List TypeP}{D:DataW Value}(h:KD w A B l D)(hB:B≤C)(g:Below C w w'):KD w' A B l D :=
 ⟨h.1,fun nm=>⟨(h.2 nm).1,fun hf=>let ⟨v,h1,h2,h3⟩:=(h.2 nm).2 hf;⟨v,h1,h2.below hB g,h3⟩⟩⟩
theorem KD.nil(w:World)(A B:Nat):KD w A B [] (.map []):=⟨isMap_empty,fun nm=>⟨fun _=>⟨rfl,rfl⟩,fun h=>by cases h⟩⟩
theorem fresh_snoc(nm:ByteArray)(x:TypeP):∀ l:List TypeP,freshB nm (l++[x])=(freshB nm l && !decide (x.name=nm))
 | []=>by simp only[List.nil_append,freshB];split <;> simp_all
 | y::l=>by simp only[List.cons_append,freshB,fresh_snoc nm x l];split <;> simp
theorem typeIn_snoc_old{nm:ByteArray}{x:TypeP}:∀ {l:List TypeP},freshB nm l=false→typeIn nm (l++[x])=typeIn nm l
 | [],h=>by cases h
 | y::l,h=>by
  simp only[freshB] at h
  simp only[List.cons_append,typeIn]
  split
  ·rfl
  ·rename_i hy;rw[if_neg hy] at h;exact typeIn_snoc_old h
theorem typeIn_snoc_new{nm:ByteArray}{x:TypeP}:∀ {l:List TypeP},freshB nm l=true→x.name=nm→typeIn nm (l++[x])=x
 | [],_,hx=>by simp[typeIn,hx]
 | y::l,h,hx=>by
  simp only[freshB] at h
  simp only[List.cons_append,typeIn]
  split
  ·rename_i hy;rw[if_pos hy] at h;cases h
  ·rename_i hy;rw[if_neg hy] at h;exact typeIn_snoc_new h hx
theorem KD.put{w:World}{A B:Nat}{l:List TypeP}{D:DataW Value}{x:TypeP}{v:Value}(h:KD w A B l D)(hf:freshB x.name l=true)(hv:KindV w A B v x):KD w A B (l++[x]) (D.put (keyL x.name) (.held v)):=by
 refine⟨h.1.put _ _,fun nm=>?_⟩
 rw[fresh_snoc]
 by_cases hx:x.name=nm
 ·subst hx
  refine⟨fun e=>by simp at e,fun _=>⟨v,atKey_put_same h.1 (show WideAt.IsKeyLit (keyL x.name) from trivial) _ _,?_,has_put_same h.1 (show WideAt.IsKeyLit (keyL x.name) from trivial) _⟩⟩
  rw[typeIn_snoc_new hf rfl];exact hv
 ·have hne:keyL nm≠keyL x.name:=fun e=>keyL_ne (fun e=>hx e.symm) e
  rw[show decide (x.name=nm)=false from decide_eq_false hx,Bool.not_false,Bool.and_true,atKey_put_other hne,has_put_other hne]
  refine⟨(h.2 nm).1,fun hf'=>?_⟩
  obtain ⟨u,h1,h2,h3⟩:=(h.2 nm).2 hf'
  exact⟨u,h1,by rw[typeIn_snoc_old hf'];exact h2,h3⟩
theorem KD.look{w:World}{A B b n:Nat}{l:List TypeP}{D:DataW Value}(h:KD w A B l D)(ho:OwnK w b n D)(nm:ByteArray)(hn:OkS nm) :
  ∃ v,(Instr.lookup 72 (.map (some b)) (.string nm) false).run Tryz.prog w=.ok v w∧(freshB nm l=true→v=.nilIface)∧(freshB nm l=false→KindV w A B v (typeIn nm l)):=by
 obtain ⟨v,ps,hr,hv⟩:=ho.lookup lawS Tryz.underlying72 (zeroK w) (zd:=.held .nilIface) (zp:=[]) rfl (WideMaps.keyOf_string_mk Tryz.underlying9 (by unfold maxLen;exact hn))
 refine⟨v,hr,fun hf=>?_,fun hf=>?_⟩
 ·rw[((h.2 nm).1 hf).1] at hv;cases hv;rfl
 ·obtain ⟨u,h1,h2,_⟩:=(h.2 nm).2 hf
  rw[h1] at hv;cases hv;exact h2
theorem KD.look_ok{w:World}{A B b n:Nat}{l:List TypeP}{D:DataW Value}(h:KD w A B l D)(ho:OwnK w b n D)(nm:ByteArray)(hn:OkS nm) :
  ∃ v,(Instr.lookup 72 (.map (some b)) (.string nm) true).run Tryz.prog w=.ok (.tuple #[v,.bool (!freshB nm l)]) w∧(freshB nm l=true→v=.nilIface)∧(freshB nm l=false→KindV w A B v (typeIn nm l)):=by
 obtain ⟨v,ps,hr,hv⟩:=ho.look_ok lawS Tryz.underlying72 (zeroK w) (zd:=.held .nilIface) (zp:=[]) rfl (WideMaps.keyOf_string_mk Tryz.underlying9 (by unfold maxLen;exact hn))
 cases hf:freshB nm l with
 | true =>
  refine⟨v,?_,fun _=>?_,fun h=>(by cases h)⟩
  ·rw[((h.2 nm).1 hf).2] at hr;exact hr
  ·rw[((h.2 nm).1 hf).1] at hv;cases hv;rfl
 | false =>
  obtain ⟨u,h1,h2,h3⟩:=(h.2 nm).2 hf
  refine⟨v,?_,fun h=>(by cases h),fun _=>?_⟩
  ·rw[h3] at hr;exact hr
  ·rw[h1] at hv;cases hv;exact h2
theorem implList(w:World)(x:FieldP)(hx:x.ok) :
  Calls Tryz.prog 205 #[.agg x.cells.toArray] w fun e w'=>e=.returned (.bool (sizedB x))∧Below w.heap.size w w':=by
 obtain ⟨nm,tp,ls,mu,sz,cp⟩:=x
 obtain ⟨_,_,⟨hs1,hs2⟩,hc1,hc2⟩:=hx
 simp only[FieldP.cells] at hs1 hs2 hc1 hc2 ⊢
 have HA:Hid (∀ o,Below w.heap.size w (w.alloc o)):=hid fun o=>(Below.refl _ _).alloc (Nat.le_refl _) o
 obtain ⟨e1,he1⟩:∃ p,(cp == 0)=p:=⟨_,rfl⟩
 obtain ⟨e2,he2⟩:∃ p,(sz == 0)=p:=⟨_,rfl⟩
 have hf:=hid (show sizedB ⟨nm,tp,ls,mu,sz,cp⟩=if ls=true then ((decide (0≤sz) && decide (sz≤100)) && e1) || (e2 && (decide (1≤cp) && decide (cp≤100))) else e2 && e1 by unfold sizedB;simp only[he1,he2])
 cases ls
 ·cases e2
  ·go_enter Tryz.func205,Tryz.ntmps205
   go_wp2_with fail
   go_ret
   exact⟨ret_bool hf.out.symm,HA.out _⟩
  ·go_enter Tryz.func205,Tryz.ntmps205
   go_wp2_with fail
   go_ret
   exact⟨ret_bool hf.out.symm,HA.out _⟩
 ·cases e1
  ·have q1:¬ cp=0:=by simpa using he1
   cases e2
   ·have q2:¬ sz=0:=by simpa using he2
    go_enter Tryz.func205,Tryz.ntmps205
    go_wp2_with fail
    go_ret
    exact⟨ret_bool (by rw[hf.out];simp),HA.out _⟩
   ·have q2:=hid (show sz=0 by simpa using he2)
    by_cases p1:0<cp
    ·by_cases p2:cp≤100
     ·have hf2:=hid (show sizedB ⟨nm,tp,true,mu,sz,cp⟩=true by rw[hf.out];simp[show 1≤cp by omega,p2])
      go_enter Tryz.func205,Tryz.ntmps205
      go_wp2_with fail
      go_ret
      exact⟨ret_bool hf2.out.symm,HA.out _⟩
     ·have hf2:=hid (show sizedB ⟨nm,tp,true,mu,sz,cp⟩=false by rw[hf.out];simp[p2])
      have p2b:decide (cp≤100)=false:=decide_eq_false p2
      go_enter Tryz.func205,Tryz.ntmps205
      go_wp2_with fail
      go_ret
      exact⟨ret_bool hf2.out.symm,HA.out _⟩
    ·have hf2:=hid (show sizedB ⟨nm,tp,true,mu,sz,cp⟩=false by rw[hf.out];simp[show ¬ 1≤cp by omega])
     have p1b:decide (0<cp)=false:=decide_eq_false p1
     go_enter Tryz.func205,Tryz.ntmps205
     go_wp2_with fail
     go_ret
     exact⟨ret_bool hf2.out.symm,HA.out _⟩
  ·have q1:=hid (show cp=0 by simpa using he1)
   by_cases p1:0≤sz
   ·by_cases p2:sz≤100
    ·have hf2:=hid (show sizedB ⟨nm,tp,true,mu,sz,cp⟩=true by rw[hf.out];simp[p1,p2])
     go_enter Tryz.func205,Tryz.ntmps205
     go_wp2_with fail
     go_ret
     exact⟨ret_bool hf2.out.symm,HA.out _⟩
    ·have hf2:=hid (show sizedB ⟨nm,tp,true,mu,sz,cp⟩=false by rw[hf.out,q1.out];simp[p2])
     have p2b:decide (sz≤100)=false:=decide_eq_false p2
     go_enter Tryz.func205,Tryz.ntmps205
     go_wp2_with fail
     go_ret
     exact⟨ret_bool hf2.out.symm,HA.out _⟩
   ·have hf2:=hid (show sizedB ⟨nm,tp,true,mu,sz,cp⟩=false by rw[hf.out,q1.out];simp[p1])
    have p1b:decide (0≤sz)=false:=decide_eq_false p1
    go_enter Tryz.func205,Tryz.ntmps205
    go_wp2_with fail
    go_ret
    exact⟨ret_bool hf2.out.symm,HA.out _⟩
def isKind(k:Int):Bool:=(k == 1 || k == 2) || k == 3
theorem implKindOf(w:World)(A B:Nat)(x:TypeP)(a:Option Addr)(ca:Nat)(c:Option Addr)(cc:Nat)(hs:TypeAt w A B (.agg (x.cells a ca c cc).toArray) x)(hB:B≤w.heap.size) :
  Calls Tryz.prog 73 #[.agg (x.cells a ca c cc).toArray] w fun e w'=>∃ v,e=.returned (.tuple #[v,.bool (isKind x.kind)])∧(isKind x.kind=true→v=.iface (kindT x.kind) (.agg (x.cells a ca c cc).toArray))∧(isKind x.kind=false→v=.nilIface)∧Below w.heap.size w w':=by
 obtain ⟨_,_,_,_,_,hk,_⟩:=hs
 obtain ⟨nm,kd,by_,fs,ms⟩:=x
 obtain ⟨hk,⟨hs1,hs2⟩,hs3,hs4⟩:=hk
 simp only[TypeP.cells] at hs1 hs2 hs3 hs4 ⊢
 have HA:Hid (∀ o,Below w.heap.size w (w.alloc o)):=hid fun o=>(Below.refl _ _).alloc (Nat.le_refl _) o
 by_cases k1:kd=1
 ·have b1:(kd == 1)=true:=by rw[k1];rfl
  have H1:Hid (isKind kd=true∧kindT kd=160):=hid (by rw[k1];exact⟨rfl,rfl⟩)
  clear k1
  go_enter Tryz.func73,Tryz.ntmps73
  go_wp2_with fail
  exact bodyPost_ret (v:=.tuple #[.iface 160 (.agg #[.string nm,.int .i64 kd,.int .i64 by_,.slice a fs.length ca,.slice c ms.length cc]),.bool true]) (by simp[results,Tryz.results73,go_sem]) rfl ⟨_,by rw[H1.out.1],fun _=>by rw[H1.out.2],fun h=>(by rw[H1.out.1] at h;cases h),HA.out _⟩
 have b1:(kd == 1)=false:=by rw[beq_eq_false_iff_ne];exact k1
 by_cases k2:kd=2
 ·have b2:(kd == 2)=true:=by rw[k2];rfl
  have H1:Hid (isKind kd=true∧kindT kd=161):=hid (by rw[k2];exact⟨rfl,rfl⟩)
  clear k2
  go_enter Tryz.func73,Tryz.ntmps73
  go_wp2_with fail
  exact bodyPost_ret (v:=.tuple #[.iface 161 (.agg #[.string nm,.int .i64 kd,.int .i64 by_,.slice a fs.length ca,.slice c ms.length cc]),.bool true]) (by simp[results,Tryz.results73,go_sem]) rfl ⟨_,by rw[H1.out.1],fun _=>by rw[H1.out.2],fun h=>(by rw[H1.out.1] at h;cases h),HA.out _⟩
 have b2:(kd == 2)=false:=by rw[beq_eq_false_iff_ne];exact k2
 by_cases k3:kd=3
 ·have b3:(kd == 3)=true:=by rw[k3];rfl
  have H1:Hid (isKind kd=true∧kindT kd=162):=hid (by rw[k3];exact⟨rfl,rfl⟩)
  clear k3
  go_enter Tryz.func73,Tryz.ntmps73
  go_wp2_with fail
  exact bodyPost_ret (v:=.tuple #[.iface 162 (.agg #[.string nm,.int .i64 kd,.int .i64 by_,.slice a fs.length ca,.slice c ms.length cc]),.bool true]) (by simp[results,Tryz.results73,go_sem]) rfl ⟨_,by rw[H1.out.1],fun _=>by rw[H1.out.2],fun h=>(by rw[H1.out.1] at h;cases h),HA.out _⟩
 have b3:(kd == 3)=false:=by rw[beq_eq_false_iff_ne];exact k3
 have H1:Hid (isKind kd=false):=hid (by unfold isKind;rw[b1,b2,b3];rfl)
 go_enter Tryz.func73,Tryz.ntmps73
 go_wp2_with fail
 exact bodyPost_ret (v:=.tuple #[.nilIface,.bool false]) (by simp[results,Tryz.results73,go_sem]) rfl ⟨_,by rw[H1.out],fun h=>(by rw[H1.out] at h;cases h),fun _=>rfl,HA.out _⟩
theorem implPlace1(w:World)(x:FieldP)(hx:x.ok)(nm:ByteArray)(hn:OkS nm)(p:Nat)(hp:w.cell? ⟨p,0,none⟩=some (.string nm)) :
  Calls Tryz.prog 207 #[.agg x.cells.toArray,.pointer (some ⟨p,0,none⟩)] w fun e w'=>e=.returned (.bool (decide (x.name=nm)))∧Below w.heap.size w w':=by
 obtain ⟨xn,tp,ls,mu,sz,cp⟩:=x
 obtain ⟨hk,hk2,_⟩:=hx
 unfold OkS at hk hn
 simp only[FieldP.cells] at hk ⊢
 have hlt:=lt_of_cell hp
 have HA:Hid (∀ o,Below w.heap.size w (w.alloc o)):=hid fun o=>(Below.refl _ _).alloc (Nat.le_refl _) o
 have hp2:∀ o,(w.alloc o).cell? ⟨p,0,none⟩=some (.string nm):=fun o=>((HA.out o).cell (p:=⟨p,0,none⟩) hlt).trans hp
 by_cases hx:xn=nm
 ·have hf:=hid (show decide (xn=nm)=true from decide_eq_true hx)
  subst hx
  go_enter Tryz.func207,Tryz.ntmps207
  go_wp2_with fail
  go_ret
  exact⟨ret_bool hf.out.symm,HA.out _⟩
 ·have hf:=hid (show decide (xn=nm)=false from decide_eq_false hx)
  have hn1:=toList_ne hx
  have hn2:=toList_beq hx
  go_enter Tryz.func207,Tryz.ntmps207
  go_wp2_with fail
  go_ret
  exact⟨ret_bool (by first | exact hf.out.symm | rfl),HA.out _⟩
theorem implIndexFunc(w:World)(A B:Nat)(a:Option Addr)(len cap:Nat)(l:List FieldP)(nm:ByteArray)(hn:OkS nm)(hs:FieldsAt w A B a len l)(hB:B≤w.heap.size)(p:Nat)(hp:w.cell? ⟨p,0,none⟩=some (.string nm)) :
  Calls Tryz.prog 206 #[.slice a len cap,.func (.func 207) #[] #[.pointer (some ⟨p,0,none⟩)]] w fun e w'=>e=.returned (.int .i64 (findF nm l 0))∧Below w.heap.size w w':=by
 have hlen:=hs.2.1
 have HS:=hid hs
 have hplt:=lt_of_cell hp
 have HN:=hid hn
 obtain ⟨hll,_⟩:=hs
 subst hll
 go_enter Tryz.func206,Tryz.ntmps206
 go_wp2_with fail
 go_loopw [8] (fun i wr=>∃ (i':Nat),i'≤l.length∧Hid (findF nm l 0=findF nm (l.drop i') i')∧i=.int .i64 i'∧Hid (wr.cell? ⟨p,0,none⟩=some (.string nm))∧Below w.heap.size w wr) (fun i _=>l.length - (intOf i).toNat)
 case atStart=>exact⟨0,by omega,hid (by rw[List.drop_zero]),rfl,hid hp,Below.refl _ _⟩
 case round =>
  obtain ⟨i,hi,hm,rfl,hpc,hb⟩:=hrel
  have HB:=hid hb
  by_cases hlt:i<l.length
  ·have hli:(i:Int)<(l.length:Int):=by omega
   obtain ⟨x,b,off,hd,rfl,hA,hbb,hok,hc⟩:=(HS.out.below fieldLies (Nat.le_refl _) (hb.mono hB)).at hlt
   obtain ⟨c0,c1,c2,c3,c4,c5⟩:=row6 hc
   have CC:Hid (Calls Tryz.prog 207 #[.agg #[.string x.name,.string x.typ,.bool x.list,.bool x.must,.int .i64 x.size,.int .i64 x.cap],.pointer (some ⟨p,0,none⟩)] wr fun e w'=>e=.returned (.bool (decide (x.name=nm)))∧Below wr.heap.size wr w'):=hid (implPlace1 wr x hok nm HN.out p hpc.out)
   by_cases hx:x.name=nm
   ·have hf:=hid (hm.out.trans (findF_hit hd hx))
    have hde:decide (x.name=nm)=true:=decide_eq_true hx
    rw[hde] at CC
    clear hlt hd hb hok hc hx hde
    go_wp2_with fail
    refine CC.out.mono ?_
    rintro e w1 ⟨rfl,hb1⟩
    have HB1:=hid (HB.out.trans (hb1.mono HB.out.size))
    clear hb1
    go_wp2_with fail
    go_ret
    exact⟨ret_i hf.out.symm,HB1.out⟩
   ·have hrel:=hid (hm.out.trans (findF_miss hd hx))
    have hde:decide (x.name=nm)=false:=decide_eq_false hx
    rw[hde] at CC
    clear hlt hd hb hok hc hx hde
    go_wp2_with fail
    refine CC.out.mono ?_
    rintro e w1 ⟨rfl,hb1⟩
    have HB1:=hid (HB.out.trans (hb1.mono HB.out.size))
    have hp1:=hid ((hb1.cell (p:=⟨p,0,none⟩) (lt_of_cell hpc.out)).trans hpc.out)
    clear hb1
    go_wp2_with fail
    go_roundw
    case rel=>exact⟨i+1,by omega,hrel,by go_num,hp1,HB1.out⟩
    case measure=>simp[intOf];omega
  ·obtain rfl:i=l.length:=by omega
   have hf:Hid (findF nm l 0=-1):=hid (by rw[hm.out,List.drop_length];rfl)
   clear hlt hb
   go_wp2_with fail
   go_ret
   exact⟨ret_i hf.out.symm,HB.out⟩
theorem implPlace(w:World)(A B:Nat)(a:Option Addr)(len cap:Nat)(l:List FieldP)(nm:ByteArray)(hn:OkS nm)(hs:FieldsAt w A B a len l)(hB:B≤w.heap.size) :
  Calls Tryz.prog 203 #[.slice a len cap,.string nm] w fun e w'=>e=.returned (.int .i64 (findF nm l 0))∧Below w.heap.size w w':=by
 have HS:=hid hs
 have HN:=hid hn
 have HA:Hid (∀ o,Below w.heap.size w (w.alloc o)):=hid fun o=>(Below.refl _ _).alloc (Nat.le_refl _) o
 clear hs hn
 go_enter Tryz.func203,Tryz.ntmps203
 go_wp2_with fail
 refine(implIndexFunc _ A B a len cap l nm HN.out (HS.out.below fieldLies hB (HA.out _)) (Nat.le_trans hB (HA.out _).size) w.heap.size (by simp)).mono ?_
 rintro e w1 ⟨rfl,hb1⟩
 have HB1:=hid ((HA.out _).trans (hb1.mono (HA.out _).size))
 clear hb1
 go_wp2_with fail
 go_ret
 exact⟨rfl,HB1.out⟩
noncomputable def frB(s:List TypeP)(x:FieldP):Bool:=(!freshB x.typ s && wordB x.name) && sizedB x
theorem implFieldRight(w:World)(A B:Nat)(x:FieldP)(hx:x.ok)(b n:Nat)(D:DataW Value)(s:List TypeP)(hD:KD w A B s D)(ho:OwnK w b n D)(hB:B≤w.heap.size) :
  Calls Tryz.prog 202 #[.agg x.cells.toArray,.map (some b)] w fun e w'=>e=.returned (.bool (frB s x))∧Below w.heap.size w w':=by
 have HA:Hid (∀ o,Below w.heap.size w (w.alloc o)):=hid fun o=>(Below.refl _ _).alloc (Nat.le_refl _) o
 have HL:Hid (∀ o,∃ v,(Instr.lookup 72 (.map (some b)) (.string x.typ) true).run Tryz.prog (w.alloc o)=.ok (.tuple #[v,.bool (!freshB x.typ s)]) (w.alloc o)∧(freshB x.typ s=true→v=.nilIface)∧(freshB x.typ s=false→KindV (w.alloc o) A B v (typeIn x.typ s))):=hid fun o=>(hD.below hB (HA.out o)).look_ok (ho.alloc o) x.typ hx.2.1
 have C1:Hid (∀ w,Calls Tryz.prog 20 #[.string x.name] w fun e w'=>e=.returned (.bool (wordB x.name))∧w=w'):=hid fun w=>implWordRight _ (by unfold maxLen;exact hx.1) w
 have C2:Hid (∀ w,Calls Tryz.prog 205 #[.agg x.cells.toArray] w fun e w'=>e=.returned (.bool (sizedB x))∧Below w.heap.size w w'):=hid fun w=>implList w x hx
 have hfr:=hid (show frB s x=((!freshB x.typ s && wordB x.name) && sizedB x) from rfl)
 obtain ⟨xn,tp,ls,mu,sz,cp⟩:=x
 obtain ⟨hk,hk2,⟨hs1,hs2⟩,hc1,hc2⟩:=hx
 unfold OkS at hk hk2
 simp only[FieldP.cells] at hk hk2 hs1 hs2 hc1 hc2 HL C1 C2 ⊢
 obtain ⟨v,hrun,hv1,hv2⟩:=HL.out (.cells #[.string xn,.string tp,.bool ls,.bool mu,.int .i64 sz,.int .i64 cp] 84)
 obtain ⟨p1,hp1⟩:∃ p,freshB tp s=p:=⟨_,rfl⟩
 obtain ⟨p2,hp2⟩:∃ p,wordB xn=p:=⟨_,rfl⟩
 obtain ⟨p3,hp3⟩:∃ p,sizedB ⟨xn,tp,ls,mu,sz,cp⟩=p:=⟨_,rfl⟩
 simp only[hp1,hp2,hp3] at hfr hrun C1 C2 hv1 hv2
 clear hD ho HL hp1 hp2 hp3
 cases p1
 ·obtain ⟨_,ka,kca,kc,kcc,hve,_⟩:=hv2 rfl
  clear hv1 hv2
  subst hve
  generalize kindT (typeIn tp s).kind=T0 at *
  generalize (typeIn tp s).cells ka kca kc kcc=K0 at *
  cases p2
  ·go_enter Tryz.func202,Tryz.ntmps202
   go_wp2_with (first
    | (go_at_call 20;refine(C1.out _).mono ?_;rintro e w' ⟨rfl,rfl⟩)
    | (go_at_call 205;refine(C2.out _).mono ?_;rintro e w1 ⟨rfl,hb1⟩))
   go_ret
   exact⟨ret_bool hfr.out.symm,HA.out _⟩
  ·go_enter Tryz.func202,Tryz.ntmps202
   go_wp2_with (first
    | (go_at_call 20;refine(C1.out _).mono ?_;rintro e w' ⟨rfl,rfl⟩)
    | (go_at_call 205;refine(C2.out _).mono ?_;rintro e w1 ⟨rfl,hb1⟩))
   go_ret
   exact⟨ret_bool hfr.out.symm,(HA.out _).trans (hb1.mono (HA.out _).size)⟩
 ·obtain rfl:=hv1 rfl
  clear hv1 hv2
  go_enter Tryz.func202,Tryz.ntmps202
  go_wp2_with fail
  go_ret
  exact⟨ret_bool hfr.out.symm,HA.out _⟩
end Go.Proofs.YtmembhpoidcmlaaGreatDoor.Rw
