/-
  Contracts, where (*spec.l01Src).l03Doc answers a question (DocOk): spec.DrawDocRight, DrawDocText answer one too; of what was there nothing is changed. Conditions: a slice of bytes.
-/
import Derived.Test.YtmembhpoidcmlaaGreatDoorRows
import Derived.Test.YtmembhpoidcmlaaGreatDoorDrawMem
import Derived.Deep.RegionHeld3
import Derived.Deep.RegionLaw
import Derived.Deep.DeepMust
import Derived.Test.YtmembhpoidcmlaaGreatDoorDrawSch
import Derived.BigQuiet
import Derived.Test.YtmembhpoidcmlaaGreatDoorSchTC
import Derived.Test.YtmembhpoidcmlaaGreatDoorDrawDG
import Derived.Test.YtmembhpoidcmlaaGreatDoorToks
import Derived.Test.YtmembhpoidcmlaaGreatDoorImplDocText
namespace Go.Proofs.YtmembhpoidcmlaaGreatDoor.Draws
open Lib (hid)
open Go.RowKit Texts Bytes Rw Words
set_option linter.unusedVariables false
set_option maxRecDepth 100000
set_option maxHeartbeats 8000000 in
theorem src_schema(w:World)(p len cap:Nat)(a:Option Addr)(h:Src w p a len cap) :
  Calls Tryz.prog 45 #[.pointer (some ⟨p,0,none⟩)] w fun e w'=>(∃ s v,schWt s≤10000∧e=.returned v∧SchemaX w' w.heap.size w'.heap.size v s)∧Src w' p a len cap∧Only p w w':=by
 have hplt:=h.lt
 have HS:=hid h
 clear h
 go_enter Tryz.func45,Tryz.ntmps45
 go_wp2_with fail
 have e1:(w.alloc (.cells #[.slice none 0 0] 35)).heap.size=w.heap.size+1:=by simp
 have HA:=hid ((Below.refl w.heap.size w).alloc (Nat.le_refl _) (.cells #[.slice none 0 0] 35))
 refine(src_schemaOf _ p len cap a (HS.out.below hplt HA.out)).mono ?_
 rintro e w1 ⟨⟨s,v,h3,rfl,⟨sa,ca,rfl,hx,hca⟩,hm⟩,hs1,ho1⟩
 obtain ⟨hl5,hwt⟩:=three_wt h3
 rw[e1,hl5] at hx
 rw[hl5] at hca
 have hz1:w.heap.size<w1.heap.size:=by have:=ho1.size;simp at this;omega
 have hr1:w1.heap[w.heap.size]?=some (.cells #[.slice none 0 0] 35 (0,0)):=(ho1.block _ (by simp) (by omega)).trans (Go.Deep.blk_alloc_new _ _)
 have HST:Hid (StS w (w1.alloc (.cells #[.slice sa 5 ca] 35)) p len cap a w1.heap.size w1.heap.size sa ca s):=hid (by
  have hb:Below w1.heap.size w1 (w1.alloc (.cells #[.slice sa 5 ca] 35)):=(Below.refl _ _).alloc (Nat.le_refl _) _
  have hp1:p<w1.heap.size:=hs1.lt
  exact⟨hx.below typeLiesX (Nat.le_refl _) hb,hca,(hb.block _ hz1).trans hr1,Go.Deep.blk_alloc_new _ _,hs1.below hp1 hb,(((Only.refl p w).of_below (Nat.le_refl _) HA.out).trans ho1).of_below (by omega) hb,hplt,hb.size,hz1⟩)
 have HMO:Hid (MembersO (w1.alloc (.cells #[.slice sa 5 ca] 35)) (w.heap.size+1) (.agg #[.slice sa 5 ca]) s):=hid (fun i x hi=>by
  obtain ⟨gb,cap',c,cc,base,e1',e2,e3,e4,e5⟩:=hm i x hi
  rw[hl5] at e1'
  rw[e1] at e2 e3
  have hb:Below w1.heap.size w1 (w1.alloc (.cells #[.slice sa 5 ca] 35)):=(Below.refl _ _).alloc (Nat.le_refl _) _
  exact⟨gb,cap',c,cc,base,by rw[hl5];exact e1',e2,e3,(hb.cell (p:=⟨gb,i * 5+4,none⟩) (lt_of_cell e4)).trans e4,OwnTs.frame e5 fun q _ q2=>hb.block q q2⟩)
 have H3:=hid h3
 have HW:=hid hwt
 have HP:=hid (HST.out.place (Nat.le_refl _))
 have hE1:(w1.alloc (.cells #[.slice sa 5 ca] 35)).heap.size=w1.heap.size+1:=by simp
 have HE:=hid hE1
 rw[hl5]
 clear hs1 ho1 hr1 hx hm h3 hwt hE1 hl5 e1 HS HA
 obtain ⟨b,off,rfl,hb1,hb2,hb3,hb4⟩:=HP.out
 clear HP
 go_wp2_with fail
 obtain ⟨g,hg⟩:∃ g,w1.heap.size=g:=⟨_,rfl⟩
 rw[hg] at HST hz1 hb1 hb2 ⊢
 clear hg
 refine(src_one _ p len cap a HST.out.src 6 (by omega)).mono ?_
 rintro e w2 ⟨⟨bv,rfl⟩,hs2,ho2⟩
 have HT2:=hid (HST.out.keep ho2 hs2)
 have HM2:=hid (HMO.out.keep ho2 (by omega))
 have ⟨kb,_⟩:=keep1 HT2.out.box
 have ⟨kr,fr⟩:=keep1 HT2.out.res
 clear hs2 ho2 HST HMO HE
 cases bv
 ·have HWT:=hid (show schWt s≤10000 by have:=HW.out;omega)
  go_wp2_with fail
  have ⟨z0,zx,zs,zo⟩:=HT2.out.fin
  generalize w2.setCell ⟨w.heap.size,0,none⟩ (.slice (some ⟨b,off,none⟩) 5 ca)=wf at *
  have ⟨x0,_⟩:=keep1 z0
  exact bodyPost_ret (v:=.agg #[.slice (some ⟨b,off,none⟩) 5 ca]) (by simp[results,Tryz.results45,go_sem,x0]) rfl ⟨⟨s,_,HWT.out,rfl,zx⟩,zs,zo⟩
 go_wp2_with fail
 refine(src_n _ p len cap a HT2.out.src 5 (by omega)).mono ?_
 rintro e w3 ⟨⟨r,rfl,hr0,hr1⟩,hs3,ho3⟩
 have HT3:=hid (HT2.out.keep ho3 hs3)
 have HM3:=hid (HM2.out.keep ho3 (by omega))
 obtain ⟨i,rfl⟩:=Int.eq_ofNat_of_zero_le hr0
 have hi5:i<5:=by omega
 clear hs3 ho3 HT2 HM2 kb kr fr hr0 hr1
 go_wp2_with fail
 refine(src_n _ p len cap a HT3.out.src 6 (by omega)).mono ?_
 rintro e w4 ⟨⟨q,rfl,hq0,hq1⟩,hs4,ho4⟩
 have HT4:=hid (HT3.out.keep ho4 hs4)
 have HM4:=hid (HM3.out.keep ho4 (by omega))
 have HTD:=hid HT4.out.drew
 have ⟨kb,_⟩:=keep1 HT4.out.box
 have hi5i:(i:Int)<5:=by omega
 clear hs4 ho4 HT3 HM3
 obtain ⟨x,hx,hxm⟩:=HT4.out.at hi5
 have HXI:=hid hx
 have HXO:=hid (three_ok H3.out x hxm)
 have HXW:=hid (wt_mem HW.out hx)
 clear hx hxm
 rcases (show q=0∨q=1∨q=2∨q=3∨q=4∨q=5 by omega) with rfl|rfl|rfl|rfl|rfl|rfl
 ·have HSC:Hid (∀ (W:World) (r:Int),0≤r→(r<5∨r=0)→StS w W p len cap a g g (some ⟨b,off,none⟩) ca s→(∃ u,W.cell? ⟨b,off+i * 5+1,none⟩=some u)∧W.frozen? ⟨b,off+i * 5+1,none⟩=false∧StS w (W.setCell ⟨b,off+i * 5+1,none⟩ (.int .i64 r)) p len cap a g g (some ⟨b,off,none⟩) ca (s.set i ⟨x.name,r,x.bytes,x.fields,x.members⟩)) :=
   hid fun W r h0 h1 h=>h.scalar (Nat.le_refl _) HXI.out (k:=1) (y:=⟨x.name,r,x.bytes,x.fields,x.members⟩) (by omega) rfl rfl ⟨HXO.out.1.1,by unfold OkI;simp only;omega,HXO.out.1.2.2⟩ (fun _ _ _ _=>rfl)
  have HWS:Hid (∀ (r:Int),schWt (s.set i ⟨x.name,r,x.bytes,x.fields,x.members⟩)≤10000):=hid fun r=>wt_set HW.out (by have:=HXW.out;unfold TypeP.wt at *;simp only;omega)
  go_wp2_with fail
  go_region_with (go_at_call 36;refine(src_n _ p len cap a HTD.out.src 5 (by omega)).mono ?_;rintro e w5 ⟨⟨r,rfl,hr0,hr1⟩,hs5,ho5⟩;have HT5:=hid (HTD.out.keep ho5 hs5);have HY:=hid (HSC.out _ r hr0 hr1 HT5.out);have ⟨kb5,_⟩:=keep1 HT5.out.box;obtain ⟨u,hu⟩:=HY.out.1;have hfz:=HY.out.2.1)
  all_goals
   have HT6:=hid HY.out.2.2
   have ⟨kb6,_⟩:=keep1 HT6.out.box
   have ⟨kr6,fr6⟩:=keep1 HT6.out.res
   have HWT:=HWS.out r 
   clear hu hfz kb5 hs5 ho5 HWS HSC kb
   go_wp2_with fail
   have ⟨z0,zx,zs,zo⟩:=HT6.out.fin
   generalize (w5.setCell ⟨b,off+i * 5+1,none⟩ (.int .i64 r)).setCell ⟨w.heap.size,0,none⟩ (.slice (some ⟨b,off,none⟩) 5 ca)=wf at *
   have ⟨x0,_⟩:=keep1 z0
   exact bodyPost_ret (v:=.agg #[.slice (some ⟨b,off,none⟩) 5 ca]) (by simp[results,Tryz.results45,go_sem,x0]) rfl ⟨⟨_,_,HWT,rfl,zx⟩,zs,zo⟩
 ·have HSC:Hid (∀ (W:World) (r:ByteArray),r∈([⟨#[81]⟩,⟨#[113]⟩,⟨#[78,69,87]⟩]:List ByteArray)→StS w W p len cap a g g (some ⟨b,off,none⟩) ca s→(∃ u,W.cell? ⟨b,off+i * 5,none⟩=some u)∧W.frozen? ⟨b,off+i * 5,none⟩=false∧StS w (W.setCell ⟨b,off+i * 5,none⟩ (.string r)) p len cap a g g (some ⟨b,off,none⟩) ca (s.set i ⟨r,x.kind,x.bytes,x.fields,x.members⟩)) :=
   hid fun W r h0 h=>h.scalar (Nat.le_refl _) HXI.out (k:=0) (y:=⟨r,x.kind,x.bytes,x.fields,x.members⟩) (by omega) rfl rfl ⟨by have:=small3 h0;unfold OkS;simp only;omega,HXO.out.1.2.1,HXO.out.1.2.2⟩ (fun _ _ _ _=>rfl)
  have HWS:Hid (∀ (r:ByteArray),r∈([⟨#[81]⟩,⟨#[113]⟩,⟨#[78,69,87]⟩]:List ByteArray)→schWt (s.set i ⟨r,x.kind,x.bytes,x.fields,x.members⟩)≤10000):=hid fun r h0=>wt_set HW.out (by have h1:=small3 h0;have:=HXW.out;unfold TypeP.wt at *;simp only;omega)
  have HTA:=hid (HT4.out.alloc (.cells (([⟨#[81]⟩,⟨#[113]⟩,⟨#[78,69,87]⟩]:List ByteArray).map Value.string).toArray 9)).drew
  have HGA:Hid ((w4.alloc (.cells (([⟨#[81]⟩,⟨#[113]⟩,⟨#[78,69,87]⟩]:List ByteArray).map Value.string).toArray 9)).drew.heap[w4.heap.size]?=some (.cells (([⟨#[81]⟩,⟨#[113]⟩,⟨#[78,69,87]⟩]:List ByteArray).map Value.string).toArray 9 (0,0))):=hid (Go.Deep.blk_alloc_new _ _)
  have hpw:w4.heap.size≠p:=by have:=HT4.out.only.size;omega
  have hgl:g<w4.heap.size:=lt_of_get HT4.out.box
  go_wp2_with fail
  go_region_with (go_at_call 38;refine(src_pick _ p len cap a HTA.out.src w4.heap.size [⟨#[81]⟩,⟨#[113]⟩,⟨#[78,69,87]⟩] HGA.out hpw (by simp) (by simp)).mono ?_;rintro e w5 ⟨⟨r,hr,rfl⟩,hs5,ho5⟩;have HRR:=hid hr;clear hr;have HT5:=hid (HTA.out.keep ho5 hs5);have HY:=hid (HSC.out _ r HRR.out HT5.out);have ⟨kb5,_⟩:=keep1 HT5.out.box;obtain ⟨u,hu⟩:=HY.out.1;have hfz:=HY.out.2.1)
  all_goals
   have HT6:=hid HY.out.2.2
   have ⟨kb6,_⟩:=keep1 HT6.out.box
   have ⟨kr6,fr6⟩:=keep1 HT6.out.res
   have HWT:=HWS.out r HRR.out
   clear HTA HGA hpw hu hfz kb5 hs5 ho5 HWS HSC kb
   go_wp2_with fail
   have ⟨z0,zx,zs,zo⟩:=HT6.out.fin
   generalize (w5.setCell ⟨b,off+i * 5,none⟩ (.string r)).setCell ⟨w.heap.size,0,none⟩ (.slice (some ⟨b,off,none⟩) 5 ca)=wf at *
   have ⟨x0,_⟩:=keep1 z0
   exact bodyPost_ret (v:=.agg #[.slice (some ⟨b,off,none⟩) 5 ca]) (by simp[results,Tryz.results45,go_sem,x0]) rfl ⟨⟨_,_,HWT,rfl,zx⟩,zs,zo⟩
 ·have HSC:Hid (∀ (W:World) (r:Int),-1≤r→r≤101→StS w W p len cap a g g (some ⟨b,off,none⟩) ca s→(∃ u,W.cell? ⟨b,off+i * 5+2,none⟩=some u)∧W.frozen? ⟨b,off+i * 5+2,none⟩=false∧StS w (W.setCell ⟨b,off+i * 5+2,none⟩ (.int .i64 r)) p len cap a g g (some ⟨b,off,none⟩) ca (s.set i ⟨x.name,x.kind,r,x.fields,x.members⟩)) :=
   hid fun W r h0 h1 h=>h.scalar (Nat.le_refl _) HXI.out (k:=2) (y:=⟨x.name,x.kind,r,x.fields,x.members⟩) (by omega) rfl rfl ⟨HXO.out.1.1,HXO.out.1.2.1,by unfold OkI;simp only;omega⟩ (fun _ _ _ _=>rfl)
  have HWS:Hid (∀ (r:Int),schWt (s.set i ⟨x.name,x.kind,r,x.fields,x.members⟩)≤10000):=hid fun r=>wt_set HW.out (by have:=HXW.out;unfold TypeP.wt at *;simp only;omega)
  have HTA:=hid (HT4.out.alloc (.cells #[.int .i64 (-1),.int .i64 0,.int .i64 100,.int .i64 101] 2)).drew
  have HGA:Hid ((w4.alloc (.cells #[.int .i64 (-1),.int .i64 0,.int .i64 100,.int .i64 101] 2)).drew.heap[w4.heap.size]?=some (.cells #[.int .i64 (-1),.int .i64 0,.int .i64 100,.int .i64 101] 2 (0,0))):=hid (Go.Deep.blk_alloc_new _ _)
  have hpw:w4.heap.size≠p:=by have:=HT4.out.only.size;omega
  have hgl:g<w4.heap.size:=lt_of_get HT4.out.box
  have CN:Hid (∀ W,StS w W p len cap a g g (some ⟨b,off,none⟩) ca s→Calls Tryz.prog 36 #[.pointer (some ⟨p,0,none⟩),.int .i64 4] W fun e w'=>∃ m:Nat,e=.returned (.int .i64 m)∧Hid (m<4∧StS w w' p len cap a g g (some ⟨b,off,none⟩) ca s∧Only p W w')):=hid fun W h=>(src_n W p len cap a h.src 4 (by omega)).mono fun e w' g=>by
   obtain ⟨⟨r,rfl,hr0,hr1⟩,hs5,ho5⟩:=g
   obtain ⟨m,rfl⟩:=Int.eq_ofNat_of_zero_le hr0
   exact⟨m,rfl,hid ⟨by omega,h.keep ho5 hs5,ho5⟩⟩
  go_wp2_with fail
  go_region_with (first
   | (go_at_call 36;with_reducible refine(CN.out _ HTA.out).mono ?_;rintro e w5 ⟨m,rfl,HP5⟩;have hm4:=HP5.out.1;have hm4i:(m:Int)<4:=(by omega);have HT5:=hid HP5.out.2.1;obtain ⟨v,HV,hcell⟩:=four_at ((HP5.out.2.2.block w4.heap.size (by simp) hpw).trans HGA.out) hm4;have HY:=hid (HSC.out _ v HV.out.1 HV.out.2 HT5.out);have ⟨kb5,_⟩:=keep1 HT5.out.box;obtain ⟨u,hu⟩:=HY.out.1;have hfz:=HY.out.2.1)
   | (go_at_call 36;with_reducible refine(CN.out _ HTD.out).mono ?_;rintro e w5 ⟨m,rfl,HP5⟩;have hm4:=HP5.out.1;have hm4i:(m:Int)<4:=(by omega);have HT5:=hid (HP5.out.2.1.alloc (.cells #[.int .i64 (-1),.int .i64 0,.int .i64 100,.int .i64 101] 2));obtain ⟨v,HV,hcell⟩:=four_at (Go.Deep.blk_alloc_new w5 (.cells #[.int .i64 (-1),.int .i64 0,.int .i64 100,.int .i64 101] 2)) hm4;have HY:=hid (HSC.out _ v HV.out.1 HV.out.2 HT5.out);have ⟨kb5,_⟩:=keep1 HP5.out.2.1.box;have hgl5:=lt_of_get HP5.out.2.1.box;obtain ⟨u,hu⟩:=HY.out.1;have hfz:=HY.out.2.1))
  all_goals
   have HT6:=hid HY.out.2.2
   have ⟨kb6,_⟩:=keep1 HT6.out.box
   have ⟨kr6,fr6⟩:=keep1 HT6.out.res
   have HWT:=HWS.out v 
   clear HTA HGA hpw hcell CN hu hfz kb5 HWS HSC kb
   go_wp2_with fail
   have ⟨z0,zx,zs,zo⟩:=HT6.out.fin
   first
    | (generalize (w5.setCell ⟨b,off+i * 5+2,none⟩ (.int .i64 v)).setCell ⟨w.heap.size,0,none⟩ (.slice (some ⟨b,off,none⟩) 5 ca)=wf at *;have ⟨x0,_⟩:=keep1 z0;exact bodyPost_ret (v:=.agg #[.slice (some ⟨b,off,none⟩) 5 ca]) (by simp[results,Tryz.results45,go_sem,x0]) rfl ⟨⟨_,_,HWT,rfl,zx⟩,zs,zo⟩)
    | (generalize ((w5.alloc (.cells #[.int .i64 (-1),.int .i64 0,.int .i64 100,.int .i64 101] 2)).setCell ⟨b,off+i * 5+2,none⟩ (.int .i64 v)).setCell ⟨w.heap.size,0,none⟩ (.slice (some ⟨b,off,none⟩) 5 ca)=wf at *;have ⟨x0,_⟩:=keep1 z0;exact bodyPost_ret (v:=.agg #[.slice (some ⟨b,off,none⟩) 5 ca]) (by simp[results,Tryz.results45,go_sem,x0]) rfl ⟨⟨_,_,HWT,rfl,zx⟩,zs,zo⟩)
 ·obtain ⟨y,f0,f1,hy0,hf0,hf1⟩:=three_fields H3.out
  have hym:=List.mem_of_getElem? hy0
  have HYW:=wt_mem HW.out hy0
  have hfo:=(three_ok H3.out y hym).2 f0 (List.mem_of_getElem? hf0)
  have hfl:1<y.fields.length:=(List.getElem?_eq_some_iff.1 hf1).1
  obtain ⟨fb,fo,fc,hc3,hfc,hfb1,hfb2,hnx⟩:=HT4.out.field2 (Nat.le_refl _) hy0 hf0 (k:=5) (by omega) hfo
  have HSC:Hid (∀ (W:World) (r:Int),0≤r→(r<3∨r=0)→StS w W p len cap a g g (some ⟨b,off,none⟩) ca s→Only p w4 W→W.cell? ⟨b,off+3,none⟩=some (.slice (some ⟨fb,fo,none⟩) y.fields.length fc)∧(∃ u,W.cell? ⟨fb,fo+5,none⟩=some u)∧W.frozen? ⟨fb,fo+5,none⟩=false∧StS w (W.setCell ⟨fb,fo+5,none⟩ (.int .i64 r)) p len cap a g g (some ⟨b,off,none⟩) ca (s.set 0 { y with fields:=y.fields.set 0 ⟨f0.name,f0.typ,f0.list,f0.must,f0.size,r⟩ })) :=
   hid fun W r h0 h1 h ho=>by
    have:=hnx W ⟨f0.name,f0.typ,f0.list,f0.must,f0.size,r⟩ (.int .i64 r) h ho ⟨hfo.1,hfo.2.1,hfo.2.2.1,by unfold OkI;simp only;omega⟩ rfl
    simpa using this
  have HWS:Hid (∀ (r:Int),schWt (s.set 0 { y with fields:=y.fields.set 0 ⟨f0.name,f0.typ,f0.list,f0.must,f0.size,r⟩ })≤10000):=hid fun r=>wt_set HW.out (wt_field HYW hf0 (by simp[FieldP.wt]))
  have hc30:w4.cell? ⟨b,off+3,none⟩=some (.slice (some ⟨fb,fo,none⟩) y.fields.length fc):=by simpa using hc3
  clear hym HYW hy0 hf0 hf1 hfo hnx hc3
  go_wp2_with fail
  go_region_with (go_at_call 36;refine(src_n _ p len cap a HTD.out.src 3 (by omega)).mono ?_;rintro e w5 ⟨⟨r,rfl,hr0,hr1⟩,hs5,ho5⟩;have HT5:=hid (HTD.out.keep ho5 hs5);have HY:=hid (HSC.out _ r hr0 hr1 HT5.out ((Only.refl p w4).drew.trans ho5));have ⟨kb5,_⟩:=keep1 HT5.out.box;have hc35:=HY.out.1;obtain ⟨u,hu⟩:=HY.out.2.1;have hfz:=HY.out.2.2.1)
  all_goals
   have HT6:=hid HY.out.2.2.2
   have ⟨kb6,_⟩:=keep1 HT6.out.box
   have ⟨kr6,fr6⟩:=keep1 HT6.out.res
   have HWT:=HWS.out r 
   clear hc30 hc35 hu hfz kb5 hs5 ho5 HWS HSC kb
   go_wp2_with fail
   have ⟨z0,zx,zs,zo⟩:=HT6.out.fin
   generalize (w5.setCell ⟨fb,fo+5,none⟩ (.int .i64 r)).setCell ⟨w.heap.size,0,none⟩ (.slice (some ⟨b,off,none⟩) 5 ca)=wf at *
   have ⟨x0,_⟩:=keep1 z0
   exact bodyPost_ret (v:=.agg #[.slice (some ⟨b,off,none⟩) 5 ca]) (by simp[results,Tryz.results45,go_sem,x0]) rfl ⟨⟨_,_,HWT,rfl,zx⟩,zs,zo⟩
 ·obtain ⟨y,f0,f1,hy0,hf0,hf1⟩:=three_fields H3.out
  have hym:=List.mem_of_getElem? hy0
  have HYW:=wt_mem HW.out hy0
  have hfo:=(three_ok H3.out y hym).2 f1 (List.mem_of_getElem? hf1)
  have hfl:1<y.fields.length:=(List.getElem?_eq_some_iff.1 hf1).1
  obtain ⟨fb,fo,fc,hc3,hfc,hfb1,hfb2,hnx⟩:=HT4.out.field2 (Nat.le_refl _) hy0 hf1 (k:=1) (by omega) hfo
  have HSC:Hid (∀ (W:World) (r:ByteArray),r∈([⟨#[78,79]⟩,⟨#[83,84,82]⟩,⟨#[65,78,89]⟩]:List ByteArray)→StS w W p len cap a g g (some ⟨b,off,none⟩) ca s→Only p w4 W→W.cell? ⟨b,off+3,none⟩=some (.slice (some ⟨fb,fo,none⟩) y.fields.length fc)∧(∃ u,W.cell? ⟨fb,fo+6+1,none⟩=some u)∧W.frozen? ⟨fb,fo+6+1,none⟩=false∧StS w (W.setCell ⟨fb,fo+6+1,none⟩ (.string r)) p len cap a g g (some ⟨b,off,none⟩) ca (s.set 0 { y with fields:=y.fields.set 1 ⟨f1.name,r,f1.list,f1.must,f1.size,f1.cap⟩ })) :=
   hid fun W r h0 h ho=>by
    have:=hnx W ⟨f1.name,r,f1.list,f1.must,f1.size,f1.cap⟩ (.string r) h ho ⟨hfo.1,by have:=small4 h0;unfold OkS;simp only;omega,hfo.2.2.1,hfo.2.2.2⟩ rfl
    simpa using this
  have HWS:Hid (∀ (r:ByteArray),r∈([⟨#[78,79]⟩,⟨#[83,84,82]⟩,⟨#[65,78,89]⟩]:List ByteArray)→schWt (s.set 0 { y with fields:=y.fields.set 1 ⟨f1.name,r,f1.list,f1.must,f1.size,f1.cap⟩ })≤10000):=hid fun r h0=>wt_set HW.out (wt_field HYW hf1 (by have:=small4 h0;simp only[FieldP.wt];omega))
  have HTA:=hid (HT4.out.alloc (.cells (([⟨#[78,79]⟩,⟨#[83,84,82]⟩,⟨#[65,78,89]⟩]:List ByteArray).map Value.string).toArray 9)).drew
  have HGA:Hid ((w4.alloc (.cells (([⟨#[78,79]⟩,⟨#[83,84,82]⟩,⟨#[65,78,89]⟩]:List ByteArray).map Value.string).toArray 9)).drew.heap[w4.heap.size]?=some (.cells (([⟨#[78,79]⟩,⟨#[83,84,82]⟩,⟨#[65,78,89]⟩]:List ByteArray).map Value.string).toArray 9 (0,0))):=hid (Go.Deep.blk_alloc_new _ _)
  have HOA:Hid (Only p w4 (w4.alloc (.cells (([⟨#[78,79]⟩,⟨#[83,84,82]⟩,⟨#[65,78,89]⟩]:List ByteArray).map Value.string).toArray 9)).drew):=hid ((Only.refl p w4).of_below (Nat.le_refl _) ((Below.refl _ _).alloc (Nat.le_refl _) _)).drew
  have hpw:w4.heap.size≠p:=by have:=HT4.out.only.size;omega
  have hgl:g<w4.heap.size:=lt_of_get HT4.out.box
  have hc30:w4.cell? ⟨b,off+3,none⟩=some (.slice (some ⟨fb,fo,none⟩) y.fields.length fc):=by simpa using hc3
  have hbl:b<w4.heap.size:=lt_of_cell hc30
  clear hym HYW hy0 hf0 hf1 hfo hnx hc3
  go_wp2_with fail
  go_region_with (go_at_call 38;refine(src_pick _ p len cap a HTA.out.src w4.heap.size [⟨#[78,79]⟩,⟨#[83,84,82]⟩,⟨#[65,78,89]⟩] HGA.out hpw (by simp) (by simp)).mono ?_;rintro e w5 ⟨⟨r,hr,rfl⟩,hs5,ho5⟩;have HRR:=hid hr;clear hr;have HT5:=hid (HTA.out.keep ho5 hs5);have HY:=hid (HSC.out _ r HRR.out HT5.out (HOA.out.trans ho5));have ⟨kb5,_⟩:=keep1 HT5.out.box;have hc35:=HY.out.1;obtain ⟨u,hu⟩:=HY.out.2.1;have hfz:=HY.out.2.2.1)
  all_goals
   have HT6:=hid HY.out.2.2.2
   have ⟨kb6,_⟩:=keep1 HT6.out.box
   have ⟨kr6,fr6⟩:=keep1 HT6.out.res
   have HWT:=HWS.out r HRR.out
   clear HTA HGA HOA hpw hc30 hc35 hu hfz kb5 hs5 ho5 HWS HSC kb
   go_wp2_with fail
   have ⟨z0,zx,zs,zo⟩:=HT6.out.fin
   generalize (w5.setCell ⟨fb,fo+6+1,none⟩ (.string r)).setCell ⟨w.heap.size,0,none⟩ (.slice (some ⟨b,off,none⟩) 5 ca)=wf at *
   have ⟨x0,_⟩:=keep1 z0
   exact bodyPost_ret (v:=.agg #[.slice (some ⟨b,off,none⟩) 5 ca]) (by simp[results,Tryz.results45,go_sem,x0]) rfl ⟨⟨_,_,HWT,rfl,zx⟩,zs,zo⟩
 ·obtain ⟨y,hy4,hyf,hyn,hyl,hymo,hyo⟩:=three_last H3.out
  obtain ⟨gb,capv,mc,mcc,base,ev,hgb,hbase,hmc,hmow⟩:=HM4.out 4 y hy4
  have hoff:b=gb∧off=0:=by simp at ev;exact ev.1
  have hm4:w4.cell? ⟨b,off+20+4,none⟩=some (.slice mc y.members.length mcc):=by rw[hoff.1,hoff.2];exact hmc
  have HWS:Hid (∀ (r:ByteArray),r∈([⟨#[83,84,82]⟩,⟨#[85,83,69,82]⟩,⟨#[81]⟩]:List ByteArray)→schWt (s.set 4 ⟨y.name,y.kind,y.bytes,y.fields,y.members++[r]⟩)≤10000):=hid fun r h0=>wt_set HW.out (wt_member (wt_mem HW.out hy4) (by have:=small5 h0;omega))
  have hbl:b<w4.heap.size:=lt_of_cell hm4
  have HMB:Hid (∀ (W:World) (r:ByteArray),r∈([⟨#[83,84,82]⟩,⟨#[85,83,69,82]⟩,⟨#[81]⟩]:List ByteArray)→StS w W p len cap a g g (some ⟨b,off,none⟩) ca s→Only p w4 W→W.cell? ⟨b,off+20+4,none⟩=some (.slice mc y.members.length mcc)∧base≤W.heap.size∧OwnTs W base (.slice mc y.members.length mcc) y.members ∧
    ∀ (g' cap':Nat) (W':World),OwnTs W' base (.slice (some ⟨g',0,none⟩) (y.members.length+1) cap') (y.members++[r])→W.grownBy W' (Value.slice mc y.members.length mcc).ownBlock→((Value.slice mc y.members.length mcc).ownBlock=some g'∨g'=W.heap.size)→Below base W W' →
     W'.cell? ⟨g,0,none⟩=some (.slice (some ⟨b,off,none⟩) 5 ca)∧W'.cell? ⟨b,off+20+4,none⟩=some (.slice mc y.members.length mcc)∧W'.frozen? ⟨b,off+20+4,none⟩=false ∧
     StS w (W'.setCell ⟨b,off+20+4,none⟩ (.slice (some ⟨g',0,none⟩) (y.members.length+1) cap')) p len cap a g W'.heap.size (some ⟨b,off,none⟩) ca (s.set 4 ⟨y.name,y.kind,y.bytes,y.fields,y.members++[r]⟩)) :=
   hid fun W r h0 h ho=>by
    have hbp:=h.apart
    have hp:=h.plt
    have hcW:W.cell? ⟨b,off+20+4,none⟩=some (.slice mc y.members.length mcc):=(World.cell?_of_block (w:=w4) (a:=⟨b,off+20+4,none⟩) (ho.block b hbl hbp)).trans hm4
    have hoW:OwnTs W base (.slice mc y.members.length mcc) y.members:=OwnTs.frame hmow fun q q1 q2=>ho.block q q2 (by omega)
    have hbW:base≤W.heap.size:=by
     rcases hmow with ⟨_,⟨hv,hn⟩|⟨gq,_,_,hv,hb',hg',_⟩⟩
     ·exact absurd (List.eq_nil_of_length_eq_zero hn) hyn
     ·have:=lt_of_get hg';have:=ho.size;omega
    exact⟨hcW,hbW,hoW,fun g' cap' W' o1 o2 o3 o4=>StS.member h (Nat.le_refl _) hy4 hyf hyn hyl hymo hyo (by have:=small5 h0;unfold OkS;omega) hcW hoW hbase o1 o2 o3 o4⟩
  have HTA:=hid (HT4.out.alloc (.cells (([⟨#[83,84,82]⟩,⟨#[85,83,69,82]⟩,⟨#[81]⟩]:List ByteArray).map Value.string).toArray 9)).drew
  have HGA:Hid ((w4.alloc (.cells (([⟨#[83,84,82]⟩,⟨#[85,83,69,82]⟩,⟨#[81]⟩]:List ByteArray).map Value.string).toArray 9)).drew.heap[w4.heap.size]?=some (.cells (([⟨#[83,84,82]⟩,⟨#[85,83,69,82]⟩,⟨#[81]⟩]:List ByteArray).map Value.string).toArray 9 (0,0))):=hid (Go.Deep.blk_alloc_new _ _)
  have HOA:Hid (Only p w4 (w4.alloc (.cells (([⟨#[83,84,82]⟩,⟨#[85,83,69,82]⟩,⟨#[81]⟩]:List ByteArray).map Value.string).toArray 9)).drew):=hid ((Only.refl p w4).of_below (Nat.le_refl _) ((Below.refl _ _).alloc (Nat.le_refl _) _)).drew
  have hpw:w4.heap.size≠p:=by have:=HT4.out.only.size;omega
  have hgl:g<w4.heap.size:=lt_of_get HT4.out.box
  have hml:y.members.length+1≤1048576:=by omega
  clear hy4 hyf hyn hymo hyo ev hgb hmc hmow hoff HXI HXO HXW
  go_wp2_with fail
  go_region_law (first
   | (refine step_app_textG (by rfl) _ _ (by rfl) base (.slice mc y.members.length mcc) y.members (by rfl) HMW.out.2.2.1 w5.heap.size 1 (by rfl) r HC5.out hml HMW.out.2.1 ?_;intro g' cap' w6 hown6 hgrow6 hat6 hbel6;have HY:=hid (HMW.out.2.2.2 g' cap' w6 hown6 hgrow6 hat6 hbel6);have kb6:=HY.out.1;have hu:=HY.out.2.1;have hfz:=HY.out.2.2.1)
   | (go_simp;go_at_call 38;refine(src_pick _ p len cap a HTA.out.src w4.heap.size [⟨#[83,84,82]⟩,⟨#[85,83,69,82]⟩,⟨#[81]⟩] HGA.out hpw (by simp) (by simp)).mono ?_;rintro e w5 ⟨⟨r,hr,rfl⟩,hs5,ho5⟩;have HRR:=hid hr;clear hr;have HT5:=hid ((HTA.out.keep ho5 hs5).alloc (.cells #[.string r] 9));have hb5:Below w5.heap.size w5 (w5.alloc (.cells #[.string r] 9)):=(Below.refl _ _).alloc (Nat.le_refl _) _;have HMW:=hid (HMB.out _ r HRR.out HT5.out ((HOA.out.trans ho5).of_below (HOA.out.trans ho5).size hb5));have ⟨kb5,_⟩:=keep1 (HTA.out.keep ho5 hs5).box;have hgl5:=lt_of_get (HTA.out.keep ho5 hs5).box;have hbl5:b<w5.heap.size:=Nat.lt_of_lt_of_le hbl (HOA.out.trans ho5).size;have hm5:=(World.cell?_of_block (w:=w4) (a:=⟨b,off+20+4,none⟩) ((HOA.out.trans ho5).block b hbl HT4.out.apart)).trans hm4;have HC5:Hid ((w5.alloc (.cells #[.string r] 9)).cell? ⟨w5.heap.size,0,none⟩=some (.string r)):=hid (cell_of (Go.Deep.blk_alloc_new w5 (.cells #[.string r] 9)) rfl)))
  all_goals
   have HT6:=hid HY.out.2.2.2
   have ⟨kb6',_⟩:=keep1 HT6.out.box
   have ⟨kr6,fr6⟩:=keep1 HT6.out.res
   have HWT:=HWS.out r HRR.out
   clear HTA HGA HOA hpw hbl hm4 HMB hu hfz kb6 HMW
   go_wp2_with fail
   have ⟨z0,zx,zs,zo⟩:=HT6.out.fin
   generalize (w6.setCell ⟨b,off+20+4,none⟩ (.slice (some ⟨g',0,none⟩) (y.members.length+1) cap')).setCell ⟨w.heap.size,0,none⟩ (.slice (some ⟨b,off,none⟩) 5 ca)=wf at *
   have ⟨x0,_⟩:=keep1 z0
   exact bodyPost_ret (v:=.agg #[.slice (some ⟨b,off,none⟩) 5 ca]) (by simp[results,Tryz.results45,go_sem,x0]) rfl ⟨⟨_,_,HWT,rfl,zx⟩,zs,zo⟩
end Go.Proofs.YtmembhpoidcmlaaGreatDoor.Draws
namespace Go.Proofs.YtmembhpoidcmlaaGreatDoor.Draws
open Lib (hid)
open Go.RowKit Texts Bytes Rw
set_option linter.unusedVariables false
set_option maxRecDepth 100000
def spl:ByteArray:=⟨#[32,10,48,97,45,110,44,58,93,255,40,120,126,49,128,225,59]⟩
theorem belowN(w:World)(n B:Nat):Below B w (w.drewN n):=⟨rfl,rfl,rfl,Nat.le_refl _,fun _ _=>rfl⟩
set_option linter.unusedSimpArgs false
set_option maxHeartbeats 2000000 in
theorem src_spoil(w:World)(p len cap:Nat)(a:Option Addr)(h:Src w p a len cap)(s:ByteArray)(hs:s.size≤1000000) :
  Calls Tryz.prog 37 #[.pointer (some ⟨p,0,none⟩),.string s] w fun e w'=>(∃ x:ByteArray,x.size≤s.size+1∧e=.returned (.string x))∧Src w' p a len cap∧Only p w w':=by
 have HS:=hid h
 clear h
 have hsi:(s.size:Int)≤1000000:=by omega
 go_enter Tryz.func37,Tryz.ntmps37
 go_wp2_with fail
 refine(src_n _ p len cap a HS.out ((s.size:Int)+1) (by omega)).mono ?_
 rintro e w1 ⟨⟨r,rfl,hr0,hr1⟩,hs1,ho1⟩
 obtain ⟨k,rfl⟩:=Int.eq_ofNat_of_zero_le hr0
 have hk:k≤s.size:=by omega
 have HS1:=hid hs1
 have HO1:=hid ho1
 clear hs1 ho1 hr1 hr0
 go_wp2_with fail
 refine(src_n _ p len cap a HS1.out 17 (by omega)).mono ?_
 rintro e w2 ⟨⟨r,rfl,hr0,hr1⟩,hs2,ho2⟩
 obtain ⟨m,rfl⟩:=Int.eq_ofNat_of_zero_le hr0
 have hm:m<17:=by omega
 have HS2:=hid hs2
 have HO2:=hid (HO1.out.trans ho2)
 clear hs2 ho2 hr1 hr0
 have hm2:m<(⟨#[32,10,48,97,45,110,44,58,93,255,40,120,126,49,128,225,59]⟩:ByteArray).size:=by rw[show (⟨#[32,10,48,97,45,110,44,58,93,255,40,120,126,49,128,225,59]⟩:ByteArray).size=17 from rfl];exact hm
 have hcv:(convert 22 9 (.slice (some ⟨w2.heap.size,0,none⟩) 1 1)).run Tryz.prog (w2.alloc (.cells #[.int .u8 ((⟨#[32,10,48,97,45,110,44,58,93,255,40,120,126,49,128,225,59]⟩:ByteArray)[m].toNat:Int)] 5))=.ok (.string ⟨#[(⟨#[32,10,48,97,45,110,44,58,93,255,40,120,126,49,128,225,59]⟩:ByteArray)[m]]⟩) (w2.alloc (.cells #[.int .u8 ((⟨#[32,10,48,97,45,110,44,58,93,255,40,120,126,49,128,225,59]⟩:ByteArray)[m].toNat:Int)] 5)):=by
  have:=string_of_row (W:=w2.alloc (.cells #[.int .u8 ((⟨#[32,10,48,97,45,110,44,58,93,255,40,120,126,49,128,225,59]⟩:ByteArray)[m].toNat:Int)] 5)) (g:=w2.heap.size) (n:=1) (Y:=#[.int .u8 ((⟨#[32,10,48,97,45,110,44,58,93,255,40,120,126,49,128,225,59]⟩:ByteArray)[m].toNat:Int)]) (l:=[(⟨#[32,10,48,97,45,110,44,58,93,255,40,120,126,49,128,225,59]⟩:ByteArray)[m]]) (heap_alloc_new w2 _) (by simp[Lib.byteCells]) rfl 1
  exact this
 have HA2:Hid (∀ o,Below w2.heap.size w2 (w2.alloc o)):=hid fun o=>(Below.refl _ _).alloc (Nat.le_refl _) o
 have hp2:=HS2.out.lt
 by_cases hks:k=s.size
 ·have hkb:((k:Int) == (s.size:Int))=true:=by rw[beq_iff_eq];omega
  go_wp2_with fail
  have HSX:=hid (HS2.out.below hp2 (HA2.out (.cells #[.int .u8 ((⟨#[32,10,48,97,45,110,44,58,93,255,40,120,126,49,128,225,59]⟩:ByteArray)[m].toNat:Int)] 5)))
  have HOX:=hid (HO2.out.of_below HO2.out.size (HA2.out (.cells #[.int .u8 ((⟨#[32,10,48,97,45,110,44,58,93,255,40,120,126,49,128,225,59]⟩:ByteArray)[m].toNat:Int)] 5)))
  have h1:((⟨#[(⟨#[32,10,48,97,45,110,44,58,93,255,40,120,126,49,128,225,59]⟩:ByteArray)[m]]⟩:ByteArray)).size=1:=rfl
  generalize w2.alloc (.cells #[.int .u8 ((⟨#[32,10,48,97,45,110,44,58,93,255,40,120,126,49,128,225,59]⟩:ByteArray)[m].toNat:Int)] 5)=w3 at *
  generalize (⟨#[(⟨#[32,10,48,97,45,110,44,58,93,255,40,120,126,49,128,225,59]⟩:ByteArray)[m]]⟩:ByteArray)=c at *
  clear hcv
  go_quiet (fail)
  all_goals
   go_wp2_with fail
   go_ret
   exact⟨⟨_,by simp[ByteArray.size_append,ByteArray.size_extract];omega,rfl⟩,HSX.out.below HSX.out.lt (belowN _ _ _),HOX.out.of_below HOX.out.size (belowN _ _ _)⟩
 ·have hkb:((k:Int) == (s.size:Int))=false:=by rw[beq_eq_false_iff_ne];omega
  have hkl:k<s.size:=by omega
  have hkl2:(k:Int)+1≤(s.size:Int):=by omega
  go_wp2_with fail
  have HSX:=hid (HS2.out.below hp2 (HA2.out (.cells #[.int .u8 ((⟨#[32,10,48,97,45,110,44,58,93,255,40,120,126,49,128,225,59]⟩:ByteArray)[m].toNat:Int)] 5)))
  have HOX:=hid (HO2.out.of_below HO2.out.size (HA2.out (.cells #[.int .u8 ((⟨#[32,10,48,97,45,110,44,58,93,255,40,120,126,49,128,225,59]⟩:ByteArray)[m].toNat:Int)] 5)))
  have h1:((⟨#[(⟨#[32,10,48,97,45,110,44,58,93,255,40,120,126,49,128,225,59]⟩:ByteArray)[m]]⟩:ByteArray)).size=1:=rfl
  generalize w2.alloc (.cells #[.int .u8 ((⟨#[32,10,48,97,45,110,44,58,93,255,40,120,126,49,128,225,59]⟩:ByteArray)[m].toNat:Int)] 5)=w3 at *
  generalize (⟨#[(⟨#[32,10,48,97,45,110,44,58,93,255,40,120,126,49,128,225,59]⟩:ByteArray)[m]]⟩:ByteArray)=c at *
  clear hcv
  refine(src_one _ p len cap a HSX.out 3 (by omega)).mono ?_
  rintro e w4 ⟨⟨b1,rfl⟩,hs4,ho4⟩
  have HS4:=hid hs4
  have HO4:=hid (HOX.out.trans ho4)
  clear hs4 ho4
  cases b1
  ·go_wp2_with fail
   refine(src_one _ p len cap a HS4.out 2 (by omega)).mono ?_
   rintro e w5 ⟨⟨b2,rfl⟩,hs5,ho5⟩
   have HS5:=hid hs5
   have HO5:=hid (HO4.out.trans ho5)
   clear hs5 ho5
   cases b2
   ·go_wp2_with fail
    go_quiet (fail)
    all_goals
     go_wp2_with fail
     go_ret
     exact⟨⟨_,by simp[ByteArray.size_append,ByteArray.size_extract];omega,rfl⟩,HS5.out.below HS5.out.lt (belowN _ _ _),HO5.out.of_below HO5.out.size (belowN _ _ _)⟩
   ·go_wp2_with fail
    go_quiet (fail)
    all_goals
     go_wp2_with fail
     go_ret
     exact⟨⟨_,by simp[ByteArray.size_append,ByteArray.size_extract];omega,rfl⟩,HS5.out.below HS5.out.lt (belowN _ _ _),HO5.out.of_below HO5.out.size (belowN _ _ _)⟩
  ·go_wp2_with fail
   go_quiet (fail)
   all_goals
    go_wp2_with fail
    go_ret
    exact⟨⟨_,by simp[ByteArray.size_append,ByteArray.size_extract];omega,rfl⟩,HS4.out.below HS4.out.lt (belowN _ _ _),HO4.out.of_below HO4.out.size (belowN _ _ _)⟩
theorem three_size{s:List TypeP}(h:IsThree s):(schT s).size≤8000:=by
 rcases h with rfl|rfl|rfl
 ·rw[print0];decide
 ·rw[print1];decide
 ·rw[print2];decide
set_option maxHeartbeats 1000000 in
theorem drawSchemaText(w:World)(len cap:Nat)(a:Option Addr)(h:BytesAt w w.heap.size a len)(hsm:len≤140737488351232) :
  Calls Tryz.prog 9 #[.slice a len cap] w fun e w'=>(∃ s v,schWt s≤10000∧e=.returned v∧SchemaX w' w.heap.size w'.heap.size v s)∧Below w.heap.size w w':=by
 have HA:Hid (∀ o,Below w.heap.size w (w.alloc o)):=hid fun o=>(Below.refl _ _).alloc (Nat.le_refl _) o
 have HS:Hid (∀ o,Calls Tryz.prog 33 #[.slice a len cap] (w.alloc o) fun e w'=>e=.returned (.pointer (some ⟨(w.alloc o).heap.size,0,none⟩))∧Src w' (w.alloc o).heap.size a len cap∧Below (w.alloc o).heap.size (w.alloc o) w'):=hid fun o=>source (w.alloc o) len cap a ((h.below (HA.out o)).mono (HA.out o).size) hsm
 have hz:∀ o,(w.alloc o).heap.size=w.heap.size+1:=fun o=>by simp
 clear h
 go_enter Tryz.func9,Tryz.ntmps9
 go_wp2_with fail
 refine(HS.out _).mono ?_
 rw[hz]
 rintro e w1 ⟨rfl,hs1,hb1⟩
 have HB1:=hid ((HA.out _).trans (hb1.mono (by rw[←hz (.cells #[.slice none 0 0] 35)];exact(HA.out _).size)))
 have hk1:=(hb1.block w.heap.size (by omega)).trans (heap_alloc_new w _)
 have HK1:=hid hk1
 have HS1:=hid hs1
 have hz1:=hs1.lt
 clear hs1 hb1 hk1
 go_wp2_with fail
 refine(src_schema w1 _ len cap a HS1.out).mono ?_
 rintro e w2 ⟨⟨s,v,hwt,rfl,hx⟩,hs2,ho2⟩
 have hk2:=(ho2.block w.heap.size (by omega) (by omega)).trans HK1.out
 have ⟨k0,f0⟩:=keep1 hk2
 have HX:=hid hx
 have HB2:=hid (HB1.out.trans (ho2.below (B:=w.heap.size) (by omega) HB1.out.size))
 have HWT:=hid hwt
 have HK2:=hid hk2
 have hz2:=ho2.size
 obtain ⟨sa,ca,rfl,_,_⟩:=hx
 clear hwt hs2 ho2 hk2
 go_wp2_with fail
 have hx0:(w2.setCell ⟨w.heap.size,0,none⟩ (.slice sa s.length ca)).cell? ⟨w.heap.size,0,none⟩=some (.slice sa s.length ca):=World.cell?_setCell_same' _ _ _ (by rw[k0];rfl)
 exact bodyPost_ret (v:=.agg #[.slice sa s.length ca]) (by simp[results,Tryz.results9,go_sem,hx0]) rfl ⟨⟨_,_,HWT.out,rfl,((HX.out.block fun q q1 q2=>Go.Deep.blk_setCell_other _ _ _ _ (by simp;omega)).wide (by omega) (by simp))⟩,HB2.out.setCell (Nat.le_refl _) _⟩
def readTexts:List ByteArray:=[⟨#[]⟩,⟨#[108,101,97,102,32,83,32,53,10]⟩,⟨#[111,98,106,32,81,32,97,58,83,10]⟩,⟨#[111,98,106,32,81,32,97,58,83,10,108,101,97,102,32,83,32,53,10]⟩,⟨#[111,98,106,32,81,32,97,58,83,91,51,93,33,10,108,101,97,102,32,83,32,48,53,10]⟩,⟨#[111,98,106,32,81,32,97,58,83,91,60,48,93,10,108,101,97,102,32,83,32,53,10]⟩,⟨#[111,98,106,32,81,32,97,58,81,91,60,51,93,10]⟩,⟨#[111,98,106,32,81,32,97,58,81,32,97,58,81,10]⟩,⟨#[111,98,106,32,81,10]⟩,⟨#[111,98,106,32,81,32,97,58,81,10,111,110,101,32,85,32,83,10]⟩,⟨#[111,98,106,32,81,32,97,58,81,10,111,110,101,32,85,32,81]⟩,⟨#[111,98,106,32,81,32,97,58,81,32,91,93,10]⟩]
set_option maxHeartbeats 1000000 in
theorem drawSchemaRead(w:World)(len cap:Nat)(a:Option Addr)(h:BytesAt w w.heap.size a len)(hsm:len≤140737488351232) :
  Calls Tryz.prog 11 #[.slice a len cap] w fun e w'=>(∃ x:ByteArray,x.size≤8001∧e=.returned (.string x))∧Below w.heap.size w w':=by
 have HS:=hid (source w len cap a h hsm)
 clear h
 go_enter Tryz.func11,Tryz.ntmps11
 go_wp2_with fail
 refine HS.out.mono ?_
 rintro e w1 ⟨rfl,hs1,hb1⟩
 have HB1:=hid hb1
 have HS1:=hid hs1
 have hp1:=hs1.lt
 clear hs1 hb1
 go_wp2_with fail
 refine(src_schemaOf w1 _ len cap a HS1.out).mono ?_
 rintro e w2 ⟨⟨s,v,h3,rfl,hx,_⟩,hs2,ho2⟩
 have HB2:=hid (HB1.out.trans (ho2.below (B:=w.heap.size) (Nat.le_refl _) HB1.out.size))
 have HS2:=hid hs2
 have CT:=hid (specSchemaText w2 _ _ v s hx.at_ (Nat.le_refl _))
 have hsz:=three_size h3
 generalize schT s=t at *
 clear hs2 ho2 hx h3
 go_wp2_with fail
 refine CT.out.mono ?_
 rintro e w3 ⟨rfl,hb3⟩
 have HB3:=hid (HB2.out.trans (hb3.mono HB2.out.size))
 have HS3:=hid (HS2.out.below HS2.out.lt hb3)
 clear hb3 CT
 go_wp2_with fail
 refine(src_n _ _ len cap a HS3.out 4 (by omega)).mono ?_
 rintro e w4 ⟨⟨r,rfl,hr0,hr1⟩,hs4,ho4⟩
 have HS4:=hid hs4
 have HB4:=hid (HB3.out.trans (ho4.below (B:=w.heap.size) (Nat.le_refl _) HB3.out.size))
 have HT:=hid hsz
 clear hs4 ho4 hr1
 by_cases h0:r=0
 ·subst h0
  go_wp2_with fail
  refine(src_spoil _ _ len cap a HS4.out t (by have:=HT.out;omega)).mono ?_
  rintro e w5 ⟨⟨x,hx,rfl⟩,hs5,ho5⟩
  have HX:Hid (x.size≤8001):=hid (by omega)
  have HB5:=hid (HB4.out.trans (ho5.below (B:=w.heap.size) (Nat.le_refl _) HB4.out.size))
  clear hs5 ho5 hx hsz
  go_wp2_with fail
  go_ret
  exact⟨⟨x,HX.out,rfl⟩,HB5.out⟩
 have hb0:(r == 0)=false:=by rw[beq_eq_false_iff_ne];exact h0
 by_cases h1:r=1
 ·subst h1
  have hp4:=HS4.out.lt
  have HA:=hid ((Below.refl w4.heap.size w4).alloc (Nat.le_refl _) (.cells (readTexts.map Value.string).toArray 9))
  go_wp2_with fail
  refine(src_pick _ w.heap.size len cap a (HS4.out.below hp4 HA.out) w4.heap.size readTexts (Go.Deep.blk_alloc_new _ _) (by omega) (by simp[readTexts]) (by simp[readTexts])).mono ?_
  rintro e w5 ⟨⟨x,hx,rfl⟩,_,ho5⟩
  have HX:Hid (x.size≤8001):=hid (by
   have h3:(readTexts.all fun x:ByteArray=>decide (x.size≤8001))=true:=by decide
   have:=List.all_eq_true.1 h3 x hx
   simpa using this)
  have HB5:=hid (HB4.out.trans ((HA.out.mono HB4.out.size).trans (ho5.below (B:=w.heap.size) (Nat.le_refl _) (by have:=HB4.out.size;simp;omega))))
  clear ho5 hx
  go_wp2_with fail
  go_ret
  exact⟨⟨x,HX.out,rfl⟩,HB5.out⟩
 have hb1:(r == 1)=false:=by rw[beq_eq_false_iff_ne];exact h1
 go_wp2_with fail
 go_ret
 exact⟨⟨t,by have:=HT.out;omega,rfl⟩,HB4.out⟩
end Go.Proofs.YtmembhpoidcmlaaGreatDoor.Draws
namespace Go.Proofs.YtmembhpoidcmlaaGreatDoor.Draws
open Lib (hid)
open Go.RowKit Texts Bytes Rw Selss
set_option linter.unusedVariables false
set_option maxRecDepth 100000
theorem three_good{s:List TypeP}(h:IsThree s):∀ t∈([⟨#[81]⟩,⟨#[85,83,69,82]⟩,⟨#[80,79,83,84]⟩]:List ByteArray),Good s t:=by
 intro t ht
 simp only[List.mem_cons,List.not_mem_nil,or_false] at ht
 rcases ht with rfl|rfl|rfl <;> rcases h with rfl|rfl|rfl <;> exact⟨by decide,.inl (by decide)⟩
theorem three_right{s:List TypeP}(h:IsThree s):schemaB s=true:=by
 rcases h with rfl|rfl|rfl
 ·exact right0
 ·exact right1
 ·exact right2
theorem docR_doc{w w':World}{p len cap:Nat}{a:Option Addr}{v:Value}(h:DocR w w' p len cap a v):∃ d,DocAt w' 0 w'.heap.size v d:=by
 obtain ⟨ra,rc,L,lo,M,E,fv,F,rfl,e7,e8,e9,e10,l1,l3,f2,q1,q2,q3,q4⟩:=h
 obtain ⟨fa,fc,rfl⟩:=e9.len
 have hF:FragIn w' E w'.heap.size (.slice fa F.length fc) F:=⟨w',rfl,e9,q4,fun _ _ _=>rfl⟩
 have hne:F≠[]:=by intro e;rw[e] at f2;simp at f2
 obtain ⟨gb,C,_,_,_,_,_,hc,_⟩:=FragIn.place hF hne
 refine⟨⟨rowsSels L,F.map RowF.frag⟩,ra,rc,fa,fc,by simp[Selss.rowsSels_len],?_,?_,by simpa using hc⟩
 ·show SelsAt w' 0 w'.heap.size ra (rowsSels L).len (rowsSels L)
  rw[Selss.rowsSels_len]
  exact sels_of (Nat.zero_le _) e7 (by omega) (by omega) rfl
 ·show FragsAt w' 0 w'.heap.size fa (F.map RowF.frag).length (F.map RowF.frag)
  rw[List.length_map]
  exact frags_of (Nat.zero_le _) hF (Nat.le_refl _) (by omega) hne
def docTexts:List ByteArray:=[⟨#[]⟩,⟨#[123,32,97,32,125]⟩,⟨#[123,32,125]⟩,⟨#[123,32,97]⟩,⟨#[123,32,97,32,125,32,125]⟩,⟨#[123,32,98,58,97,40,51,41,32,123,32,99,32,125,32,125]⟩,⟨#[123,32,97,58,97,32,125]⟩,⟨#[123,32,97,40,48,51,41,32,125]⟩,⟨#[123,32,97,40,49,48,49,41,32,125]⟩,⟨#[123,32,97,40,41,32,125]⟩,⟨#[123,32,46,46,46,102,32,125,32,102,114,97,103,109,101,110,116,32,102,32,111,110,32,84,32,123,32,97,32,125]⟩,⟨#[123,32,46,46,46,111,110,32,84,32,123,32,97,32,125,32,125]⟩,⟨#[123,32,46,46,46,111,110,32,84,32,125]⟩,⟨#[123,32,111,110,32,125]⟩,⟨#[123,32,97,32,125,32,102,114,97,103,109,101,110,116,32,102,32,111,110,32,116,32,123,32,97,32,125]⟩,⟨#[123,32,32,97,32,125]⟩,⟨#[123,32,97,32,123,32,98,32,123,32,99,32,123,32,100,32,123,32,101,32,123,32,102,32,123,32,103,32,125,32,125,32,125,32,125,32,125,32,125,32,125]⟩]
set_option maxHeartbeats 1000000 in
theorem drawDocRead(w:World)(len cap:Nat)(a:Option Addr)(h:BytesAt w w.heap.size a len)(hsm:len≤140737488351232) :
  Calls Tryz.prog 6 #[.slice a len cap] w fun e w'=>(∃ x:ByteArray,x.size≤20001∧e=.returned (.string x))∧Below w.heap.size w w':=by
 have HS:=hid (source w len cap a h hsm)
 clear h
 go_enter Tryz.func6,Tryz.ntmps6
 go_wp2_with fail
 refine HS.out.mono ?_
 rintro e w1 ⟨rfl,hs1,hb1⟩
 have HB1:=hid hb1
 have HS1:=hid hs1
 have hp1:=hs1.lt
 clear hs1 hb1
 go_wp2_with fail
 refine(src_schemaOf w1 _ len cap a HS1.out).mono ?_
 rintro e w2 ⟨⟨s,v,h3,rfl,hx,_⟩,hs2,ho2⟩
 have HB2:=hid (HB1.out.trans (ho2.below (B:=w.heap.size) (Nat.le_refl _) HB1.out.size))
 obtain ⟨sa,sc,rfl,hx1,hx2⟩:=hx
 have CD:=hid (specDocOf w2 _ len cap a w1.heap.size w2.heap.size sa s.length sc s hs2 (SchemaX.at_ ⟨sa,sc,rfl,hx1,hx2⟩) hp1 (Nat.le_refl _) (three_right h3) (by have:=(three_wt h3).2;omega) (three_good h3))
 clear hs2 ho2 hx1 hx2 h3
 go_wp2_with fail
 refine CD.out.mono ?_
 rintro e w3 ⟨⟨v,rfl,hdr⟩,hs3,ho3⟩
 obtain ⟨d,hd⟩:=docR_doc hdr
 have HB3:=hid (HB2.out.trans (ho3.below (B:=w.heap.size) (Nat.le_refl _) HB2.out.size))
 have HS3:=hid hs3
 have CT:=hid (specDocText w3 _ _ v d hd (Nat.le_refl _))
 have hsz:=docT_size d
 generalize docT d=t at *
 clear hs3 ho3 hdr hd CD
 go_wp2_with fail
 refine CT.out.mono ?_
 rintro e w4 ⟨rfl,hb4⟩
 have HB4:=hid (HB3.out.trans (hb4.mono HB3.out.size))
 have HS4:=hid (HS3.out.below HS3.out.lt hb4)
 clear hb4 CT
 go_wp2_with fail
 refine(src_n _ _ len cap a HS4.out 4 (by omega)).mono ?_
 rintro e w5 ⟨⟨r,rfl,hr0,hr1⟩,hs5,ho5⟩
 have HS5:=hid hs5
 have HB5:=hid (HB4.out.trans (ho5.below (B:=w.heap.size) (Nat.le_refl _) HB4.out.size))
 have HT:=hid hsz
 clear hs5 ho5 hr1
 by_cases h0:r=0
 ·subst h0
  go_wp2_with fail
  refine(src_spoil _ _ len cap a HS5.out t (by have:=HT.out;omega)).mono ?_
  rintro e w6 ⟨⟨x,hx,rfl⟩,hs6,ho6⟩
  have HX:Hid (x.size≤20001):=hid (by omega)
  have HB6:=hid (HB5.out.trans (ho6.below (B:=w.heap.size) (Nat.le_refl _) HB5.out.size))
  clear hs6 ho6 hx hsz
  go_wp2_with fail
  go_ret
  exact⟨⟨x,HX.out,rfl⟩,HB6.out⟩
 have hb0:(r == 0)=false:=by rw[beq_eq_false_iff_ne];exact h0
 by_cases h1:r=1
 ·subst h1
  have hp5:=HS5.out.lt
  have HA:=hid ((Below.refl w5.heap.size w5).alloc (Nat.le_refl _) (.cells (docTexts.map Value.string).toArray 9))
  go_wp2_with fail
  refine(src_pick _ w.heap.size len cap a (HS5.out.below hp5 HA.out) w5.heap.size docTexts (Go.Deep.blk_alloc_new _ _) (by omega) (by simp[docTexts]) (by simp[docTexts])).mono ?_
  rintro e w6 ⟨⟨x,hx,rfl⟩,_,ho6⟩
  have HX:Hid (x.size≤20001):=hid (by
   have h3:(docTexts.all fun x:ByteArray=>decide (x.size≤20001))=true:=by decide
   have:=List.all_eq_true.1 h3 x hx
   simpa using this)
  have HB6:=hid (HB5.out.trans ((HA.out.mono HB5.out.size).trans (ho6.below (B:=w.heap.size) (Nat.le_refl _) (by have:=HB5.out.size;simp;omega))))
  clear ho6 hx
  go_wp2_with fail
  go_ret
  exact⟨⟨x,HX.out,rfl⟩,HB6.out⟩
 have hb1:(r == 1)=false:=by rw[beq_eq_false_iff_ne];exact h1
 go_wp2_with fail
 go_ret
 exact⟨⟨t,by have:=HT.out;omega,rfl⟩,HB5.out⟩
def DocOk:Prop:=∀(w:World)(p len cap:Nat)(a:Option Addr)(A B:Nat)(sa:Option Addr)(sn sc:Nat)(s:List TypeP),Src w p a len cap→SchemaAt w A B (.agg #[.slice sa sn sc]) s→p<A→B≤w.heap.size→schemaB s=true→schWt s≤1048576 →
  (∀ t∈([⟨#[81]⟩,⟨#[85,83,69,82]⟩,⟨#[80,79,83,84]⟩]:List ByteArray),Good s t) →
  Calls Tryz.prog 61 #[.pointer (some ⟨p,0,none⟩),.agg #[.slice sa sn sc]] w fun e w'=>(∃ v d,e=.returned v∧DocAt w' (w.heap.size+2) w'.heap.size v d)∧Src w' p a len cap∧Only p w w'
theorem docAt_block{w w':World}{A B:Nat}{v:Value}{d:DocP}(h:DocAt w A B v d)(hw:∀ c,A≤c→c<B→w'.heap[c]?=w.heap[c]?):DocAt w' A B v d:=by
 obtain ⟨a,ca,b,cb,hv,h1,h2,h3⟩:=h
 exact⟨a,ca,b,cb,hv,h1.block hw,h2.block hw,h3⟩
set_option maxHeartbeats 1000000 in
theorem drawDocRight(H:DocOk)(w:World)(len cap:Nat)(a:Option Addr)(h:BytesAt w w.heap.size a len)(hsm:len≤140737488351232) :
  Calls Tryz.prog 30 #[.slice a len cap] w fun e w'=>(∃ v d,e=.returned v∧DocAt w' (w.heap.size+1) w'.heap.size v d)∧Below w.heap.size w w':=by
 have HH:=hid H
 have HA:Hid (∀ o,Below w.heap.size w (w.alloc o)):=hid fun o=>(Below.refl _ _).alloc (Nat.le_refl _) o
 have HS:Hid (∀ o,Calls Tryz.prog 33 #[.slice a len cap] (w.alloc o) fun e w'=>e=.returned (.pointer (some ⟨(w.alloc o).heap.size,0,none⟩))∧Src w' (w.alloc o).heap.size a len cap∧Below (w.alloc o).heap.size (w.alloc o) w'):=hid fun o=>source (w.alloc o) len cap a ((h.below (HA.out o)).mono (HA.out o).size) hsm
 have hz:∀ o,(w.alloc o).heap.size=w.heap.size+1:=fun o=>by simp
 clear h H
 go_enter Tryz.func30,Tryz.ntmps30
 go_wp2_with fail
 refine(HS.out _).mono ?_
 rw[hz]
 rintro e w1 ⟨rfl,hs1,hb1⟩
 have HB1:=hid ((HA.out _).trans (hb1.mono (by rw[←hz (.cells #[.slice none 0 0,.slice none 0 0] 26)];exact(HA.out _).size)))
 have HK1:=hid ((hb1.block w.heap.size (by omega)).trans (heap_alloc_new w _))
 have HS1:=hid hs1
 have hz1:=hs1.lt
 clear hs1 hb1
 go_wp2_with fail
 refine(src_schemaOf w1 _ len cap a HS1.out).mono ?_
 rintro e w2 ⟨⟨s,v,h3,rfl,hx,_⟩,hs2,ho2⟩
 have HK2:=hid ((ho2.block w.heap.size (by omega) (by omega)).trans HK1.out)
 have HB2:=hid (HB1.out.trans (ho2.below (B:=w.heap.size) (by omega) HB1.out.size))
 have hz2:=ho2.size
 obtain ⟨sa,sc,rfl,hx1,hx2⟩:=hx
 have CD:=hid (HH.out w2 _ len cap a w1.heap.size w2.heap.size sa s.length sc s hs2 (SchemaX.at_ ⟨sa,sc,rfl,hx1,hx2⟩) (by omega) (Nat.le_refl _) (three_right h3) (by have:=(three_wt h3).2;omega) (three_good h3))
 clear hs2 ho2 hx1 hx2 h3
 go_wp2_with fail
 refine CD.out.mono ?_
 rintro e w3 ⟨⟨v,d,rfl,hd⟩,_,ho3⟩
 have hk3:=(ho3.block w.heap.size (by omega) (by omega)).trans HK2.out
 have ⟨⟨k0,k1⟩,f0,f1⟩:=Rw.keep2 hk3
 have HK3:=hid hk3
 have HB3:=hid (HB2.out.trans (ho3.below (B:=w.heap.size) (by omega) HB2.out.size))
 have hz3:=ho3.size
 have HD:=hid hd
 obtain ⟨ra,rc,fa,fc,rfl,_,_,_⟩:=hd
 clear hk3 ho3 CD
 go_wp2_with fail
 change bodyPost _ _ _ _ _ (putL w3 w.heap.size 0 [.slice ra d.sels.len rc,.slice fa d.frags.length fc])
 obtain ⟨hr,_,_⟩:=putL_cells (g:=w.heap.size) (o:=0) (l:=[.slice ra d.sels.len rc,.slice fa d.frags.length fc]) HK3.out (by simp)
 have hsz:=putL_size [.slice ra d.sels.len rc,.slice fa d.frags.length fc] w3 w.heap.size 0
 have hoth:=fun c hc=>putL_other [.slice ra d.sels.len rc,.slice fa d.frags.length fc] w3 w.heap.size 0 c hc
 have hbel:=putL_below (g:=w.heap.size) (B:=w.heap.size) (Nat.le_refl _) [.slice ra d.sels.len rc,.slice fa d.frags.length fc] 0 HB3.out
 generalize putL w3 w.heap.size 0 [.slice ra d.sels.len rc,.slice fa d.frags.length fc]=wf at *
 have x0:=hr 0 _ rfl
 have x1:=hr 1 _ rfl
 simp only[Nat.zero_add] at x0 x1
 have hdf:DocAt wf (w.heap.size+1) wf.heap.size (.agg #[.slice ra d.sels.len rc,.slice fa d.frags.length fc]) d:=(docAt_block HD.out (w':=wf) fun c c1 c2=>hoth c (by omega)).wide (by omega) (by omega)
 exact bodyPost_ret (v:=.agg #[.slice ra d.sels.len rc,.slice fa d.frags.length fc]) (by simp[results,Tryz.results30,go_sem,x0,x1]) rfl ⟨⟨_,d,rfl,hdf⟩,hbel⟩
set_option maxHeartbeats 1000000 in
theorem drawDocText(H:DocOk)(w:World)(len cap:Nat)(a:Option Addr)(h:BytesAt w w.heap.size a len)(hsm:len≤140737488351232) :
  Calls Tryz.prog 4 #[.slice a len cap] w fun e w'=>(∃ v d,e=.returned v∧DocAt w' (w.heap.size+1) w'.heap.size v d)∧Below w.heap.size w w':=by
 have HA:Hid (∀ o,Below w.heap.size w (w.alloc o)):=hid fun o=>(Below.refl _ _).alloc (Nat.le_refl _) o
 have HS:Hid (∀ o,Calls Tryz.prog 30 #[.slice a len cap] (w.alloc o) fun e w'=>(∃ v d,e=.returned v∧DocAt w' ((w.alloc o).heap.size+1) w'.heap.size v d)∧Below (w.alloc o).heap.size (w.alloc o) w'):=hid fun o=>drawDocRight H (w.alloc o) len cap a ((h.below (HA.out o)).mono (HA.out o).size) hsm
 have hz:∀ o,(w.alloc o).heap.size=w.heap.size+1:=fun o=>by simp
 clear h H
 go_enter Tryz.func4,Tryz.ntmps4
 go_wp2_with fail
 refine(HS.out _).mono ?_
 rw[hz]
 rintro e w3 ⟨⟨v,d,rfl,hd⟩,hb3⟩
 have hk3:=(hb3.block w.heap.size (by omega)).trans (heap_alloc_new w _)
 have ⟨⟨k0,k1⟩,f0,f1⟩:=Rw.keep2 hk3
 have HK3:=hid hk3
 have HB3:=hid ((HA.out _).trans (hb3.mono (by rw[←hz (.cells #[.slice none 0 0,.slice none 0 0] 26)];exact(HA.out _).size)))
 have HD:=hid hd
 obtain ⟨ra,rc,fa,fc,rfl,_,_,_⟩:=hd
 clear hk3 hb3
 go_wp2_with fail
 change bodyPost _ _ _ _ _ (putL w3 w.heap.size 0 [.slice ra d.sels.len rc,.slice fa d.frags.length fc])
 obtain ⟨hr,_,_⟩:=putL_cells (g:=w.heap.size) (o:=0) (l:=[.slice ra d.sels.len rc,.slice fa d.frags.length fc]) HK3.out (by simp)
 have hsz:=putL_size [.slice ra d.sels.len rc,.slice fa d.frags.length fc] w3 w.heap.size 0
 have hoth:=fun c hc=>putL_other [.slice ra d.sels.len rc,.slice fa d.frags.length fc] w3 w.heap.size 0 c hc
 have hbel:=putL_below (g:=w.heap.size) (B:=w.heap.size) (Nat.le_refl _) [.slice ra d.sels.len rc,.slice fa d.frags.length fc] 0 HB3.out
 generalize putL w3 w.heap.size 0 [.slice ra d.sels.len rc,.slice fa d.frags.length fc]=wf at *
 have x0:=hr 0 _ rfl
 have x1:=hr 1 _ rfl
 simp only[Nat.zero_add] at x0 x1
 have hdf:DocAt wf (w.heap.size+1) wf.heap.size (.agg #[.slice ra d.sels.len rc,.slice fa d.frags.length fc]) d:=(docAt_block HD.out (w':=wf) fun c c1 c2=>hoth c (by omega)).wide (by omega) (by omega)
 exact bodyPost_ret (v:=.agg #[.slice ra d.sels.len rc,.slice fa d.frags.length fc]) (by simp[results,Tryz.results4,go_sem,x0,x1]) rfl ⟨⟨_,d,rfl,hdf⟩,hbel⟩
end Go.Proofs.YtmembhpoidcmlaaGreatDoor.Draws
