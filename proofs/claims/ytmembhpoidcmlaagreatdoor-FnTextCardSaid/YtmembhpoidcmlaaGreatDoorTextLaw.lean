/-
  What lies in memory as laws.FnText goes on (a ledger: a starting world, facts that stay), and the contracts of what it calls, in that ledger's words. Conditions: as each theorem says.
-/
import Derived.Test.YtmembhpoidcmlaaGreatDoorRows
import Derived.Test.YtmembhpoidcmlaaGreatDoorModDoc
import Derived.Deep.QuietTactic
import Derived.BigQuiet
import Derived.Test.YtmembhpoidcmlaaGreatDoorToks
import Derived.Test.YtmembhpoidcmlaaGreatDoorSch
import Derived.Test.YtmembhpoidcmlaaGreatDoorFragM
import Derived.Test.YtmembhpoidcmlaaGreatDoorDrawSch
import Derived.Test.YtmembhpoidcmlaaGreatDoorImplDoc
import Derived.Test.YtmembhpoidcmlaaGreatDoorDrawDH
import Derived.Test.YtmembhpoidcmlaaGreatDoorDrawDQ
import Derived.Test.YtmembhpoidcmlaaGreatDoorImplDocText
import Derived.Test.YtmembhpoidcmlaaGreatDoorReadW
import Derived.Test.YtmembhpoidcmlaaGreatDoorWord
import Derived.Test.YtmembhpoidcmlaaGreatDoorImplWord
namespace Go.Proofs.YtmembhpoidcmlaaGreatDoor.Selss
open Lib (hid)
open Go.RowKit Words Decs Splits
set_option linter.unusedVariables false
set_option maxRecDepth 100000
theorem pFrags_step{m:Nat}{V:List Tok}(h:word V=[102,114,97,103,109,101,110,116]) :
  (pFrags (m+1) V).1=⟨ub (word (V.drop 1)),ub (word (((V.drop 1).drop 1).drop 1)),(pSels 7 ((((V.drop 1).drop 1).drop 1).drop 1)).1⟩::(pFrags m (pSels 7 ((((V.drop 1).drop 1).drop 1).drop 1)).2).1:=by
 rw[pFrags,if_pos h]
theorem pFrags_stop{m:Nat}{V:List Tok}(h:word V≠[102,114,97,103,109,101,110,116]):(pFrags m V).1=[]:=by
 cases m with
 | zero=>rfl
 | succ m=>rw[pFrags,if_neg h]
theorem frags_more{V0 V1 V2:List Tok}{L:List FragP}{x:FragP}(h:(pFrags 6 V0).1=L++(pFrags (6 - L.length) V1).1)(hL:L.length≤5)(h1:∀ m,(pFrags (m+1) V1).1=x::(pFrags m V2).1) :
  (pFrags 6 V0).1=(L++[x])++(pFrags (6 - (L++[x]).length) V2).1:=by
 have e:6 - L.length=(5 - L.length)+1:=by omega
 rw[h,e,h1]
 simp
theorem bytes_nil{a:ByteArray}(h:a.toList=[]):a=ByteArray.empty:=by
 rw[Lib.toList_data] at h
 exact ByteArray.ext (Array.toList_inj.1 h)
theorem rd_put{T:TypeId}{w:World}{p cap k:Nat}{a:Option Addr}{W:List Tok}(h:Rd T w p a cap W k):Rd T (w.setCell ⟨p,1,none⟩ (.int .i64 ((k:Int)+1))) p a cap W (k+1):=by
 refine⟨heap_setCell_same w p 1 _ _ _ h.hd,fun i x hx=>?_,h.small,h.sizes⟩
 obtain ⟨b,off,ha,hb,hc⟩:=h.row i x hx
 have hne:b≠p:=by omega
 exact⟨b,off,ha,hb,(World.cell?_setCell_other _ _ _ _ (by simp)).trans hc⟩
theorem only_put(p:Nat)(w:World)(v:Value):OnlyP p w (w.setCell ⟨p,1,none⟩ v):=⟨rfl,rfl,rfl,by simp,fun q _ hq=>Go.Deep.blk_setCell_other w ⟨p,1,none⟩ _ q hq⟩
set_option maxHeartbeats 8000000 in
theorem specDocRead(t:ByteArray)(ht:t.size≤1048576)(w:World) :
  Calls Tryz.prog 8 #[.string t] w fun e w'=>OutRes w w' t e:=by
 have HA:Hid (∀ o,Below w.heap.size w (w.alloc o)):=hid fun o=>(Below.refl _ _).alloc (Nat.le_refl _) o
 by_cases hbig:8000<t.size
 ·have HO:=hid (outP_big hbig)
  have hbi:(8000:Int)<(t.size:Int):=by omega
  go_enter Tryz.func8,Tryz.ntmps8
  go_wp2_with fail
  exact bodyPost_ret (v:=.agg #[.slice none 0 0,.slice none 0 0,.int .i64 2]) (by simp[results,Tryz.results8,go_sem]) rfl ⟨_,_,by rw[HO.out],HA.out _,by rw[HO.out];exact zeroX _ _ _ (HA.out _).size⟩
 ·have hbi:(t.size:Int)≤8000:=by omega
  have CS:=hid (fun w'=>specSplit t ht 32 w')
  go_enter Tryz.func8,Tryz.ntmps8
  go_wp2_with fail
  refine(CS.out _).mono ?_
  rintro e w1 ⟨⟨a,cap,rfl,hst⟩,hb1⟩
  have hr:=(hb1.block w.heap.size (by simp)).trans (heap_alloc_new w _)
  have HB1:=hid ((HA.out _).trans (hb1.mono (HA.out _).size))
  have hrd:=rd_spec (cap:=cap) (by omega:t.size≤8000) hst
  have HRD:=hid hrd
  clear hb1 hst hrd
  go_wp2_with fail
  have hA1:Below w1.heap.size w1 (w1.alloc (.cells #[.slice a (splitL 32 (bl t)).length cap,.int .i64 0] 68)):=(Below.refl _ _).alloc (Nat.le_refl _) _
  change Calls _ _ _ (w1.alloc (.cells #[.slice a (splitL 32 (bl t)).length cap,.int .i64 0] 68)) _
  have hsm:=HRD.out.small
  have hWL:=HRD.out.sizes
  have hz1:=lt_of_get hr
  replace hr:=(hA1.block w.heap.size hz1).trans hr
  have HB2:=hid (HB1.out.trans (hA1.mono (by omega)))
  have hpz:=HRD.out.lt
  have HOUT:Hid (∀ d,docOf t=d→d=pDoc (splitL 32 (bl t))):=hid fun d h=>h.symm
  clear hA1
  generalize w1.alloc (.cells #[.slice a (splitL 32 (bl t)).length cap,.int .i64 0] 68)=w2 at *
  generalize hW:splitL 32 (bl t)=W at *
  generalize hp:w1.heap.size=p at *
  have HWL:=hid (fun k=>word_len hWL k)
  have HWE:=hid hW
  clear hp CS hWL hW
  refine(modOk 7 (by omega) w2 p cap 0 a W HRD.out (by omega)).mono ?_
  rintro e w3 ⟨a1,c1,k1,rfl,hsx,hR3,hd3,h1,h2,ho3⟩
  obtain ⟨s,hs⟩:∃ s,(pSels 7 (W.drop 0)).1=s:=⟨_,rfl⟩
  rw[hs] at hsx ⊢
  replace hr:=(ho3.block w.heap.size (by omega) (by omega)).trans hr
  have HB3:=hid (HB2.out.trans (ho3.toBelow (B:=w.heap.size) (by omega) (by omega)))
  have hz3:=ho3.size
  have HS:=hid hs
  have HX3:=hid hsx
  have HR3:=hid hR3
  have HD3:=hid hd3
  clear hs hsx hR3 hd3 ho3
  have hAd:Below w3.heap.size w3 (w3.alloc (.cells #[.slice a1 s.len c1,.slice none 0 0] 26)):=(Below.refl _ _).alloc (Nat.le_refl _) _
  have hgd:=heap_alloc_new w3 (.cells #[.slice a1 s.len c1,.slice none 0 0] 26)
  have hrd:=(hAd.block w.heap.size (by omega)).trans hr
  have HBd:=hid (HB3.out.trans (hAd.mono (by omega)))
  have HXd:=hid (HX3.out.below (Nat.le_refl _) hAd)
  have HRd:=hid (HR3.out.below HR3.out.lt hAd)
  have hz23:w2.heap.size≤w3.heap.size:=hz3
  have hp3:=HR3.out.lt
  clear hr hAd
  go_wp2_with fail
  clear HB3 HX3 HR3
  generalize w3.alloc (.cells #[.slice a1 s.len c1,.slice none 0 0] 26)=wd at *
  generalize hg:w3.heap.size=g at *
  clear hg w3
  go_loopw [] (fun wr=>∃ (L:List RowF) (kc:Nat) (v:Value),L.length≤6∧kc≤8200+100 * L.length∧Hid ((pFrags 6 (W.drop k1)).1=L.map RowF.frag++(pFrags (6 - (L.map RowF.frag).length) (W.drop kc)).1)∧Hid (OwnFrag wr (g+1) v L)∧Hid (RdS wr p a cap W kc)∧Hid (Below w.heap.size w wr)∧Hid (wr.heap[w.heap.size]?=some (.cells #[.slice none 0 0,.slice none 0 0,.int .i64 0] 31 (0,0)))∧Hid (wr.heap[g]?=some (.cells #[.slice a1 s.len c1,v] 26 (0,0)))∧Hid (SelsX wr w2.heap.size g a1 s.len s)) (fun wr=>7 - lenOf ((wr.cell? ⟨g,1,none⟩).getD .nilIface))
  case atStart=>exact⟨[],k1,_,by simp,by simp;omega,hid (by simp),hid (OwnFrag.none_ _ _),HRd,HBd,hid hrd,hid hgd,HXd⟩
  case round =>
   obtain ⟨L,kc,v,hL,hkc,hfr,hown,hR,hB,hr,hs,hx⟩:=hrel
   have hLm:=hid (show (L.map RowF.frag).length=L.length by simp)
   have hpg:p<g:=hp3
   have c0:wr.cell? ⟨p,0,none⟩=some (.slice a W.length cap):=cell_of hR.out.hd rfl
   have c1':wr.cell? ⟨p,1,none⟩=some (.int .i64 kc):=cell_of hR.out.hd rfl
   have ⟨⟨g0,g1⟩,_⟩:=keep2 hs.out
   have CW:=hid (rdWordQ wr p cap kc a W hR.out (by omega))
   have hgz:=lt_of_get hs.out
   obtain ⟨hln,ao,co,rfl⟩:lenOf v=L.length∧∃ a c,v=.slice a L.length c:=by
    obtain ⟨x,y,h⟩:=hown.out.len
    subst h;exact⟨rfl,_,_,rfl⟩
   have hm0:Hid (7 - lenOf ((wr.cell? ⟨g,1,none⟩).getD .nilIface)=7 - L.length):=hid (by rw[g1];rfl)
   by_cases hw:word (W.drop kc)=[102,114,97,103,109,101,110,116]
   ·have hy:(ub (word (W.drop kc))).toList=[102,114,97,103,109,101,110,116]:=by rw[toList_ub];exact hw
    have hyb:((ub (word (W.drop kc))).toList == [102,114,97,103,109,101,110,116])=true:=by rw[hy];rfl
    by_cases hl5:L.length≤5
    ·have hl5i:(L.length:Int)≤5:=by omega
     have HWF:=hid hw
     have HY:=hid hy
     clear hw hy
     generalize ub (word (W.drop kc))=y at *
     go_wp2_with fail
     refine CW.out.mono ?_
     rintro e wq0 ⟨rfl,nq,rfl⟩
     have BQ:Below wr.heap.size wr (wr.drewN nq):=⟨rfl,rfl,rfl,Nat.le_refl _,fun _ _=>rfl⟩
     have RQ:=hid (hR.out.drewN nq)
     have HBQ:Hid (Below w.heap.size w (wr.drewN nq)):=hid (hB.out.trans (BQ.mono hB.out.size))
     have hrq:Hid ((wr.drewN nq).heap[w.heap.size]?=_):=hid hr.out
     have hsq:Hid ((wr.drewN nq).heap[g]?=_):=hid hs.out
     have HXQ:Hid (SelsX (wr.drewN nq) w2.heap.size g a1 s.len s):=hid (hx.out.below (Nat.le_of_lt hgz) BQ)
     have HOQ:Hid (OwnFrag (wr.drewN nq) (g+1) (.slice ao L.length co) L):=hid (hown.out.frame (w':=wr.drewN nq) (Nat.le_refl _) fun _ _ _=>rfl)
     have hgq:g<(wr.drewN nq).heap.size:=hgz
     clear BQ hR hB hr hs hx hown c0 c1' g0 g1 CW hgz
     generalize wr.drewN nq=wq at *
     have c0:wq.cell? ⟨p,0,none⟩=some (.slice a W.length cap):=cell_of RQ.out.hd rfl
     have c1':wq.cell? ⟨p,1,none⟩=some (.int .i64 kc):=cell_of RQ.out.hd rfl
     have f1:=frozen_of_row wq p 1 _ _ RQ.out.hd
     have ⟨⟨g0,g1⟩,_⟩:=keep2 hsq.out
     have RX:=hid (rd_put RQ.out)
     have OX:=hid (only_put p wq (.int .i64 ((kc:Int)+1)))
     go_wp2_with fail
     refine(rdNext _ p cap (kc+1) a W RX.out (by omega)).mono ?_
     rintro e w5 ⟨rfl,hR5,ho5⟩
     have O5:=hid (OX.out.trans ho5)
     obtain ⟨nm,hnm⟩:∃ nm,ub (word (W.drop (kc+1)))=nm:=⟨_,rfl⟩
     rw[hnm]
     have HOK:Hid (OkS nm):=hid (by rw[←hnm];exact okS_ub (HWL.out _))
     have HNM:=hid hnm
     have hz5:=O5.out.size
     have hA5:Below w5.heap.size w5 (w5.alloc (.cells #[.string nm,.string ⟨#[]⟩,.slice none 0 0] 51)):=(Below.refl _ _).alloc (Nat.le_refl _) _
     have hf5:=hid (heap_alloc_new w5 (.cells #[.string nm,.string ⟨#[]⟩,.slice none 0 0] 51))
     have R5:=hid (hR5.below hR5.lt hA5)
     have O5A:=hid (O5.out.below hz5 hA5)
     have hz5A:(w5.alloc (.cells #[.string nm,.string ⟨#[]⟩,.slice none 0 0] 51)).heap.size=w5.heap.size+1:=by simp
     have d1:(w5.alloc (.cells #[.string nm,.string ⟨#[]⟩,.slice none 0 0] 51)).cell? ⟨p,1,none⟩=some (.int .i64 ((kc+1+1:Nat):Int)):=cell_of R5.out.hd rfl
     have fr1:=frozen_of_row _ p 1 _ _ R5.out.hd
     clear hnm hR5 ho5 hA5 c0 c1' f1 g0 g1
     go_wp2_with fail
     obtain ⟨w6,hw6⟩:∃ w6,(w5.alloc (.cells #[.string nm,.string ⟨#[]⟩,.slice none 0 0] 51)).setCell ⟨p,1,none⟩ (.int .i64 ((kc:Int)+1+1+1))=w6:=⟨_,rfl⟩
     have R6:Hid (RdS w6 p a cap W (kc+1+1+1)):=hid (by rw[←hw6];exact rd_put R5.out)
     have O6:Hid (OnlyP p wq w6):=hid (by rw[←hw6];exact O5A.out.trans (only_put p _ _))
     have hf6:Hid (w6.heap[w5.heap.size]?=some (.cells #[.string nm,.string ⟨#[]⟩,.slice none 0 0] 51 (0,0))):=hid (by rw[←hw6];exact(Go.Deep.blk_setCell_other _ ⟨p,1,none⟩ _ w5.heap.size (by show w5.heap.size≠p;omega)).trans hf5.out)
     have hz6:w6.heap.size=w5.heap.size+1:=by rw[←hw6];simp
     rw[hw6]
     clear d1 fr1 R5 O5 O5A hf5 hz5A OX RX
     refine(rdNext w6 p cap (kc+1+1+1) a W R6.out (by omega)).mono ?_
     rintro e w7 ⟨rfl,hR7,ho7⟩
     have O7:=hid (O6.out.trans ho7)
     have R7:=hid hR7
     have hf7:=(ho7.block w5.heap.size (by omega) (by omega)).trans hf6.out
     obtain ⟨on,hon⟩:∃ on,ub (word (W.drop (kc+1+1+1)))=on:=⟨_,rfl⟩
     rw[hon]
     have HOK2:Hid (OkS on):=hid (by rw[←hon];exact okS_ub (HWL.out _))
     have HON:=hid hon
     have hz7:=ho7.size
     have ⟨⟨d0,d1,d2⟩,b0,b1,b2⟩:=keep3 hf7
     clear hw6 hon hR7 ho7 O6 R6 hf6
     have HF7:=hid hf7
     clear hf7
     go_wp2_with fail
     obtain ⟨w8,hw8⟩:∃ w8,w7.setCell ⟨w5.heap.size,1,none⟩ (.string on)=w8:=⟨_,rfl⟩
     have R8:Hid (RdS w8 p a cap W (kc+1+1+1+1)):=hid (by rw[←hw8];exact Rd.put R7.out (by omega) _)
     have O8:Hid (OnlyP p wq w8):=hid (by rw[←hw8];exact O7.out.put (by omega) _)
     have hf8:Hid (w8.heap[w5.heap.size]?=some (.cells #[.string nm,.string on,.slice none 0 0] 51 (0,0))):=hid (by rw[←hw8];exact heap_setCell_same w7 w5.heap.size 1 _ _ _ HF7.out)
     have hz8:w8.heap.size=w7.heap.size:=by rw[←hw8];simp
     rw[hw8]
     clear d0 d1 d2 b0 b1 b2 R7 O7 HF7 hw8
     refine(modOk 7 (by omega) w8 p cap (kc+1+1+1+1) a W R8.out (by omega)).mono ?_
     rintro e w9 ⟨a9,c9,k9,rfl,hsx9,hR9,hd9,h91,h92,ho9⟩
     obtain ⟨s9,hs9⟩:∃ s,(pSels 7 (W.drop (kc+1+1+1+1))).1=s:=⟨_,rfl⟩
     rw[hs9] at hsx9 ⊢
     have HS9:=hid hs9
     have O9:=hid (O8.out.trans ho9)
     have R9:=hid hR9
     have HX9:=hid hsx9
     have HD9:=hid hd9
     have hf9:=(ho9.block w5.heap.size (by omega) (by omega)).trans hf8.out
     have hz9:=ho9.size
     have hl9:=hsx9.2.1
     have ⟨⟨d0,d1,d2⟩,b0,b1,b2⟩:=keep3 hf9
     have HF9:=hid hf9
     have hs10:=hid ((O9.out.block g hgq (by omega)).trans hsq.out)
     have ⟨⟨g0,g1⟩,q0,q1⟩:=keep2 hs10.out
     clear hs9 hsx9 hR9 hd9 ho9 R8 O8 hf8 hf9
     obtain ⟨wz,hwz⟩:∃ wz,w9.setCell ⟨w5.heap.size,2,none⟩ (.slice a9 s9.len c9)=wz:=⟨_,rfl⟩
     have ZR:Hid (RdS wz p a cap W k9):=hid (by rw[←hwz];exact Rd.put R9.out (by omega) _)
     have ZO:Hid (OnlyP p wq wz):=hid (by rw[←hwz];exact O9.out.put (by omega) _)
     have ZF:Hid (wz.heap[w5.heap.size]?=some (.cells #[.string nm,.string on,.slice a9 s9.len c9] 51 (0,0))):=hid (by rw[←hwz];exact heap_setCell_same w9 w5.heap.size 2 _ _ _ HF9.out)
     have ZS:Hid (wz.heap[g]?=some (.cells #[.slice a1 s.len c1,.slice ao L.length co] 26 (0,0))):=hid (by rw[←hwz];exact(Go.Deep.blk_setCell_other w9 ⟨w5.heap.size,2,none⟩ _ g (by show g≠w5.heap.size;omega)).trans hs10.out)
     have ZX:Hid (SelsX wz w8.heap.size w9.heap.size a9 s9.len s9):=hid (by rw[←hwz];exact HX9.out.block fun c x1 x2=>Go.Deep.blk_setCell_other w9 ⟨w5.heap.size,2,none⟩ _ c (by show c≠w5.heap.size;omega))
     have hzz:wz.heap.size=w9.heap.size:=by rw[←hwz];simp
     clear HX9 R9 O9
     have HOWZ:Hid (OwnFrag wz (g+1) (.slice ao L.length co) L):=hid (HOQ.out.frame (w':=wz) (by omega) fun c x1 x2=>ZO.out.block c x2 (by omega))
     have hA10:Below wz.heap.size wz (wz.alloc (.cells #[.string nm,.string on,.slice a9 s9.len c9] 51)):=(Below.refl _ _).alloc (Nat.le_refl _) _
     have HC3:Hid ((wz.alloc (.cells #[.string nm,.string on,.slice a9 s9.len c9] 51)).heap[w9.heap.size]?=some (.cells (RowF.cells ⟨nm,on,a9,c9,s9,w8.heap.size,w9.heap.size⟩).toArray 51 (0,0))):=hid (by rw[←hzz];exact heap_alloc_new wz _)
     have HOW3:=hid (HOWZ.out.frame hA10.size fun c _ c2=>hA10.block c c2)
     have HX3:=hid (ZX.out.below (by omega) hA10)
     have HO3:=hid (ZO.out.below ZO.out.size hA10)
     have HR3:=hid (ZR.out.below ZR.out.lt hA10)
     have hs3:=hid ((hA10.block g (by omega)).trans ZS.out)
     have hz10:(wz.alloc (.cells #[.string nm,.string on,.slice a9 s9.len c9] 51)).heap.size=wz.heap.size+1:=by simp
     have HLT:Hid (∀ gb,(Value.slice ao L.length co).ownBlock=some gb→gb<wq.heap.size):=hid fun gb hgb=>(HOQ.out.own.lt gb hgb).2
     have HHI:Hid (∀ q∈L,q.hi≤w8.heap.size):=hid fun q hq=>Nat.le_trans (HOQ.out.ok q hq).2.2.1 (by omega)
     have HOK3:Hid (OkF (wz.alloc (.cells #[.string nm,.string on,.slice a9 s9.len c9] 51)) w8.heap.size w9.heap.size ⟨nm,on,a9,c9,s9,w8.heap.size,w9.heap.size⟩):=hid ⟨⟨HOK.out,HOK2.out⟩,HX3.out⟩
     have hX9c:=hid hz9
     have ⟨⟨gz0,gz1⟩,qz0,qz1⟩:=keep2 ZS.out
     have ⟨⟨z0,z1,z2⟩,_⟩:=keep3 ZF.out
     have hwg:g+1≤w8.heap.size:=by omega
     have hzlo:w9.heap.size≤(wz.alloc (.cells #[.string nm,.string on,.slice a9 s9.len c9] 51)).heap.size:=by omega
     have hbase:g+1≤(wz.alloc (.cells #[.string nm,.string on,.slice a9 s9.len c9] 51)).heap.size:=by omega
     have HLT2:Hid (∀ gb,(Value.slice ao L.length co).ownBlock=some gb→gb<w8.heap.size):=hid fun gb hgb=>Nat.lt_of_lt_of_le (HLT.out gb hgb) (by omega)
     have hL6:L.length+1≤1048576:=by omega
     have hgA:g<(wz.alloc (.cells #[.string nm,.string on,.slice a9 s9.len c9] 51)).heap.size:=by omega
     clear hA10
     go_wp2_with (at_builtin;refine app_frag rfl _ _ rfl (g+1) (.slice ao L.length co) L rfl HOW3.out w9.heap.size 1 rfl ⟨nm,on,a9,c9,s9,w8.heap.size,w9.heap.size⟩ HC3.out ⟨HOK3.out,hwg,hzlo,fun gb hgb=>.inl (HLT2.out gb hgb)⟩ HHI.out hL6 hbase ?_;intro v4 w4 hown4 hb4;obtain ⟨a4,n4,cap4,rfl⟩:∃ a4 n4 cap4,v4=.slice a4 n4 cap4:=(let ⟨x,y,h⟩:=hown4.len;⟨x,_,y,h⟩);have hs4:=(hb4.block g (by omega)).trans hs3.out;have ⟨⟨t0,t1⟩,r0,r1⟩:=keep2 hs4)
     obtain ⟨wf,hwf⟩:∃ wf,w4.setCell ⟨g,1,none⟩ (.slice a4 n4 cap4)=wf:=⟨_,rfl⟩
     have hoth:∀ c,c≠g→wf.heap[c]?=w4.heap[c]?:=fun c hc=>by rw[←hwf];exact Go.Deep.blk_setCell_other _ ⟨g,_,none⟩ _ c hc
     have hzf:wf.heap.size=w4.heap.size:=by rw[←hwf];simp
     have hz4:=hb4.size
     have F1:Hid (RdS wf p a cap W k9):=hid (by rw[←hwf];exact Rd.put (HR3.out.below (B:=g+1) (by omega) hb4) (by omega) _)
     have F2:Hid (Below w.heap.size w wf):=hid (by
      have e1:Below w.heap.size wq w4:=(HO3.out.toBelow (B:=w.heap.size) (by omega) (by have:=HBQ.out.size;omega)).trans (hb4.mono (by omega))
      rw[←hwf];exact HBQ.out.trans (e1.setCell (p:=⟨g,1,none⟩) (by show w.heap.size≤g;omega) _))
     have F3:Hid (wf.heap[w.heap.size]?=some (.cells #[.slice none 0 0,.slice none 0 0,.int .i64 0] 31 (0,0))):=hid ((hoth _ (by omega)).trans ((hb4.block _ (by omega)).trans ((HO3.out.block _ (by omega) (by omega)).trans hrq.out)))
     have F4:Hid (wf.heap[g]?=some (.cells #[.slice a1 s.len c1,.slice a4 n4 cap4] 26 (0,0))):=hid (by rw[←hwf];exact heap_setCell_same w4 g 1 _ _ _ hs4)
     have F5:Hid (SelsX wf w2.heap.size g a1 s.len s):=hid (HXQ.out.block fun c x1 x2=>(hoth c (by omega)).trans ((hb4.block c (by omega)).trans (HO3.out.block c (by omega) (by omega))))
     have F6:Hid (OwnFrag wf (g+1) (.slice a4 n4 cap4) (L++[⟨nm,on,a9,c9,s9,w8.heap.size,w9.heap.size⟩])):=hid (hown4.frame (w':=wf) (by omega) fun c x1 x2=>hoth c (by omega))
     have F7:Hid ((pFrags 6 (W.drop k1)).1=(L++[(⟨nm,on,a9,c9,s9,w8.heap.size,w9.heap.size⟩:RowF)]).map RowF.frag++(pFrags (6 - ((L++[(⟨nm,on,a9,c9,s9,w8.heap.size,w9.heap.size⟩:RowF)]).map RowF.frag).length) (W.drop k9)).1):=hid (by
      rw[List.map_append]
      refine frags_more hfr.out (by rw[hLm.out];exact hl5) fun m=>?_
      rw[pFrags_step HWF.out]
      simp only[List.drop_drop]
      show (⟨ub (word (W.drop (kc+1))),ub (word (W.drop (kc+1+1+1))),(pSels 7 (W.drop (kc+1+1+1+1))).1⟩:FragP)::(pFrags m (pSels 7 (W.drop (kc+1+1+1+1))).2).1=_
      rw[HNM.out,HON.out,HS9.out,HD9.out.out]
      rfl)
     have hsm':=hsm
     have hm1:7 - lenOf ((wf.cell? ⟨g,1,none⟩).getD .nilIface)=7 - (L.length+1):=by
      have e:=F6.out.own.1
      have ⟨⟨_,e1⟩,_⟩:=keep2 F4.out
      rw[e1]
      obtain ⟨x,y,h⟩:=F6.out.len
      cases h
      simp[lenOf]
     subst hwf
     go_roundw
     case rel=>exact⟨L++[⟨nm,on,a9,c9,s9,w8.heap.size,w9.heap.size⟩],k9,(.slice a4 n4 cap4),by simp;omega,by simp;omega,F7,F6,F1,F2,F3,F4,F5⟩
     case measure=>rw[hm1,hm0.out];omega
    ·have hl6:L.length=6:=by omega
     have hl6i:¬ (L.length:Int)≤5:=by omega
     have hl6b:decide ((L.length:Int)≤5)=false:=decide_eq_false hl6i
     have HEND:Hid ((pFrags 6 (W.drop k1)).1=L.map RowF.frag):=hid (by rw[hfr.out,hLm.out,hl6];simp[pFrags])
     clear hl6 hw hy hl5
     generalize ub (word (W.drop kc))=y at *
     go_wp2_with fail
     refine CW.out.mono ?_
     rintro e wq0 ⟨rfl,nq,rfl⟩
     have BQ:Below wr.heap.size wr (wr.drewN nq):=⟨rfl,rfl,rfl,Nat.le_refl _,fun _ _=>rfl⟩
     have HBQ:Hid (Below w.heap.size w (wr.drewN nq)):=hid (hB.out.trans (BQ.mono hB.out.size))
     have hrq:Hid ((wr.drewN nq).heap[w.heap.size]?=_):=hid hr.out
     have hsq:Hid ((wr.drewN nq).heap[g]?=_):=hid hs.out
     have HXQ:Hid (SelsX (wr.drewN nq) w2.heap.size g a1 s.len s):=hid (hx.out.below (Nat.le_of_lt hgz) BQ)
     have HOQ:Hid (OwnFrag (wr.drewN nq) (g+1) (.slice ao L.length co) L):=hid (hown.out.frame (w':=wr.drewN nq) (Nat.le_refl _) fun _ _ _=>rfl)
     have hgq:g<(wr.drewN nq).heap.size:=hgz
     clear BQ hR hB hr hs hx hown c0 c1' g0 g1 CW hgz
     generalize wr.drewN nq=wq at *
     have ⟨⟨g0,g1⟩,_⟩:=keep2 hsq.out
     obtain ⟨a5,cap5,h5,hcl,hfx⟩:=HOQ.out.fragsX (by omega) (by omega)
     obtain ⟨rfl,rfl⟩:ao=a5∧co=cap5:=by simpa using h5
     have HDX:Hid (DocX wq w.heap.size wq.heap.size (.agg #[.slice a1 s.len c1,.slice ao L.length co]) ⟨s,L.map RowF.frag⟩):=hid ⟨a1,c1,ao,co,g+1,by simp,HXQ.out.wide (by omega) (Nat.le_succ g),by simpa using hfx,by simpa using hcl⟩
     have HDD:Hid (docOf t=⟨s,L.map RowF.frag⟩):=hid (by
      have e1:=HS.out
      have e2:=HD3.out.out
      have e3:=HEND.out
      rw[List.drop_zero] at e1 e2
      rw[e2] at e3
      show pDoc (splitL 32 (bl t))=_
      rw[HWE.out];unfold pDoc;rw[e1,e3])
     have HDP:Hid (DocX wq (w.heap.size+1) wq.heap.size (.agg #[.slice a1 s.len c1,.slice ao L.length co]) ⟨s,L.map RowF.frag⟩):=hid ⟨a1,c1,ao,co,g+1,by simp,HXQ.out.wide (by omega) (Nat.le_succ g),by simpa using hfx,by simpa using hcl⟩
     clear hfx h5 hcl
     go_wp2_with fail
     refine(specDocText wq w.heap.size wq.heap.size _ _ HDX.out.doc (Nat.le_refl _)).mono ?_
     rintro e w6 ⟨rfl,hb6⟩
     have hr6:=(hb6.block w.heap.size (by have:=HBQ.out.size;omega)).trans hrq.out
     have hs6:=(hb6.block g hgq).trans hsq.out
     have HD6:=hid (HDX.out.below (Nat.le_refl _) hb6)
     have HB6:=hid (HBQ.out.trans (hb6.mono HBQ.out.size))
     have hwq:=HBQ.out.size
     obtain ⟨dt,hdt⟩:∃ dt,docT ⟨s,L.map RowF.frag⟩=dt:=⟨_,rfl⟩
     rw[hdt]
     have HDT:=hid hdt
     have ⟨⟨x0,x1⟩,_⟩:=keep2 hs6
     clear hdt hrq hsq g0 g1
     by_cases heq:dt=t
     ·have HD1:Hid (DocX w6 (w.heap.size+1) w6.heap.size (.agg #[.slice a1 s.len c1,.slice ao L.length co]) ⟨s,L.map RowF.frag⟩):=hid (DocX.wide (HDP.out.below (Nat.le_refl _) hb6) (Nat.le_refl _) hb6.size)
      by_cases hte:t=ByteArray.empty
      ·have HO:=hid (out_mod_not hbig (.inr hte))
       subst heq
       have htl:dt.toList=[]:=by rw[hte,Lib.toList_data];rfl
       have HTE:=hid hte
       clear hte
       have HFX:=hid (set3_block hr6 (.slice none 0 0) (.slice none 0 0) (.int .i64 3))
       have HBF:=hid (set3_below HB6.out (g:=w.heap.size) (Nat.le_refl _) (.slice none 0 0) (.slice none 0 0) (.int .i64 3))
       have HSZ:=hid (set3_size w6 w.heap.size (.slice none 0 0) (.slice none 0 0) (.int .i64 3))
       have ⟨⟨v0,v1,v2⟩,v3,v4,v5⟩:=keep3 hr6
       have hz6:=hb6.size
       clear hr6 hs6 hb6
       go_wp2_with fail
       change bodyPost _ _ _ _ _ (set3 w6 w.heap.size (.slice none 0 0) (.slice none 0 0) (.int .i64 3))
       generalize set3 w6 w.heap.size (.slice none 0 0) (.slice none 0 0) (.int .i64 3)=WF at *
       have ⟨⟨f0,f1,f2⟩,_⟩:=keep3 HFX.out
       exact bodyPost_ret (v:=.agg #[.slice none 0 0,.slice none 0 0,.int .i64 3]) (by simp[results,Tryz.results8,go_sem,f0,f1,f2]) rfl ⟨_,_,by rw[HO.out],HBF.out,by rw[HO.out];exact zeroX _ _ _ (by rw[HSZ.out];omega)⟩
      ·have HO:=hid (out_mod hbig (by rw[HDD.out];exact HDT.out.trans heq) hte)
       subst heq
       have hn1:dt.toList≠[]:=fun e=>hte (bytes_nil e)
       have hn2:(dt.toList == [])=false:=beq_eq_false_iff_ne.2 hn1
       have HFX:=hid (set3_block hr6 (.slice a1 s.len c1) (.slice ao L.length co) (.int .i64 0))
       have HBF:=hid (set3_below HB6.out (g:=w.heap.size) (Nat.le_refl _) (.slice a1 s.len c1) (.slice ao L.length co) (.int .i64 0))
       have HSZ:=hid (set3_size w6 w.heap.size (.slice a1 s.len c1) (.slice ao L.length co) (.int .i64 0))
       have hz6:=hb6.size
       have HDF:Hid (DocX (set3 w6 w.heap.size (.slice a1 s.len c1) (.slice ao L.length co) (.int .i64 0)) w.heap.size (set3 w6 w.heap.size (.slice a1 s.len c1) (.slice ao L.length co) (.int .i64 0)).heap.size (.agg #[.slice a1 s.len c1,.slice ao L.length co]) ⟨s,L.map RowF.frag⟩):=hid (by
        obtain ⟨q1,q2,q3,q4,q5,q6,q7,q8,q9⟩:=HD1.out
        refine DocX.wide (A:=w.heap.size+1) (B:=w6.heap.size) ?_ (Nat.le_succ _) (by rw[HSZ.out];exact Nat.le_refl _)
        exact DocX.block ⟨q1,q2,q3,q4,q5,q6,q7,q8,q9⟩ fun c x1 x2=>set3_other w6 w.heap.size _ _ _ c (by omega))
       have ⟨⟨v0,v1,v2⟩,v3,v4,v5⟩:=keep3 hr6
       clear hr6 hs6 hb6
       go_wp2_with fail
       change bodyPost _ _ _ _ _ (set3 w6 w.heap.size (.slice a1 s.len c1) (.slice ao L.length co) (.int .i64 0))
       generalize set3 w6 w.heap.size (.slice a1 s.len c1) (.slice ao L.length co) (.int .i64 0)=WF at *
       have ⟨⟨f0,f1,f2⟩,_⟩:=keep3 HFX.out
       exact bodyPost_ret (v:=.agg #[.slice a1 s.len c1,.slice ao L.length co,.int .i64 0]) (by simp[results,Tryz.results8,go_sem,f0,f1,f2]) rfl ⟨_,_,by rw[HO.out],HBF.out,by rw[HO.out,HDD.out];exact HDF.out⟩
     ·have HO:=hid (out_mod_not hbig (.inl (by rw[HDD.out,HDT.out];exact heq)))
      have hn1:=toList_ne heq
      have hn2:=toList_beq heq
      have HFX:=hid (set3_block hr6 (.slice none 0 0) (.slice none 0 0) (.int .i64 3))
      have HBF:=hid (set3_below HB6.out (g:=w.heap.size) (Nat.le_refl _) (.slice none 0 0) (.slice none 0 0) (.int .i64 3))
      have HSZ:=hid (set3_size w6 w.heap.size (.slice none 0 0) (.slice none 0 0) (.int .i64 3))
      have ⟨⟨v0,v1,v2⟩,v3,v4,v5⟩:=keep3 hr6
      have hz6:=hb6.size
      clear hr6 hs6 hb6
      go_wp2_with fail
      change bodyPost _ _ _ _ _ (set3 w6 w.heap.size (.slice none 0 0) (.slice none 0 0) (.int .i64 3))
      generalize set3 w6 w.heap.size (.slice none 0 0) (.slice none 0 0) (.int .i64 3)=WF at *
      have ⟨⟨f0,f1,f2⟩,_⟩:=keep3 HFX.out
      exact bodyPost_ret (v:=.agg #[.slice none 0 0,.slice none 0 0,.int .i64 3]) (by simp[results,Tryz.results8,go_sem,f0,f1,f2]) rfl ⟨_,_,by rw[HO.out],HBF.out,by rw[HO.out];exact zeroX _ _ _ (by rw[HSZ.out];omega)⟩
   ·have hy:(ub (word (W.drop kc))).toList≠[102,114,97,103,109,101,110,116]:=by rw[toList_ub];exact hw
    have hyb:((ub (word (W.drop kc))).toList == [102,114,97,103,109,101,110,116])=false:=beq_eq_false_iff_ne.2 hy
    have HEND:Hid ((pFrags 6 (W.drop k1)).1=L.map RowF.frag):=hid (by rw[hfr.out,pFrags_stop hw,List.append_nil])
    clear hw
    generalize ub (word (W.drop kc))=y at *
    go_wp2_with fail
    refine CW.out.mono ?_
    rintro e wq0 ⟨rfl,nq,rfl⟩
    have BQ:Below wr.heap.size wr (wr.drewN nq):=⟨rfl,rfl,rfl,Nat.le_refl _,fun _ _=>rfl⟩
    have HBQ:Hid (Below w.heap.size w (wr.drewN nq)):=hid (hB.out.trans (BQ.mono hB.out.size))
    have hrq:Hid ((wr.drewN nq).heap[w.heap.size]?=_):=hid hr.out
    have hsq:Hid ((wr.drewN nq).heap[g]?=_):=hid hs.out
    have HXQ:Hid (SelsX (wr.drewN nq) w2.heap.size g a1 s.len s):=hid (hx.out.below (Nat.le_of_lt hgz) BQ)
    have HOQ:Hid (OwnFrag (wr.drewN nq) (g+1) (.slice ao L.length co) L):=hid (hown.out.frame (w':=wr.drewN nq) (Nat.le_refl _) fun _ _ _=>rfl)
    have hgq:g<(wr.drewN nq).heap.size:=hgz
    clear BQ hR hB hr hs hx hown c0 c1' g0 g1 CW hgz
    generalize wr.drewN nq=wq at *
    have ⟨⟨g0,g1⟩,_⟩:=keep2 hsq.out
    obtain ⟨a5,cap5,h5,hcl,hfx⟩:=HOQ.out.fragsX (by omega) (by omega)
    obtain ⟨rfl,rfl⟩:ao=a5∧co=cap5:=by simpa using h5
    have HDX:Hid (DocX wq w.heap.size wq.heap.size (.agg #[.slice a1 s.len c1,.slice ao L.length co]) ⟨s,L.map RowF.frag⟩):=hid ⟨a1,c1,ao,co,g+1,by simp,HXQ.out.wide (by omega) (Nat.le_succ g),by simpa using hfx,by simpa using hcl⟩
    have HDD:Hid (docOf t=⟨s,L.map RowF.frag⟩):=hid (by
     have e1:=HS.out
     have e2:=HD3.out.out
     have e3:=HEND.out
     rw[List.drop_zero] at e1 e2
     rw[e2] at e3
     show pDoc (splitL 32 (bl t))=_
     rw[HWE.out];unfold pDoc;rw[e1,e3])
    have HDP:Hid (DocX wq (w.heap.size+1) wq.heap.size (.agg #[.slice a1 s.len c1,.slice ao L.length co]) ⟨s,L.map RowF.frag⟩):=hid ⟨a1,c1,ao,co,g+1,by simp,HXQ.out.wide (by omega) (Nat.le_succ g),by simpa using hfx,by simpa using hcl⟩
    clear hfx h5 hcl
    go_wp2_with fail
    refine(specDocText wq w.heap.size wq.heap.size _ _ HDX.out.doc (Nat.le_refl _)).mono ?_
    rintro e w6 ⟨rfl,hb6⟩
    have hr6:=(hb6.block w.heap.size (by have:=HBQ.out.size;omega)).trans hrq.out
    have hs6:=(hb6.block g hgq).trans hsq.out
    have HD6:=hid (HDX.out.below (Nat.le_refl _) hb6)
    have HB6:=hid (HBQ.out.trans (hb6.mono HBQ.out.size))
    have hwq:=HBQ.out.size
    obtain ⟨dt,hdt⟩:∃ dt,docT ⟨s,L.map RowF.frag⟩=dt:=⟨_,rfl⟩
    rw[hdt]
    have HDT:=hid hdt
    have ⟨⟨x0,x1⟩,_⟩:=keep2 hs6
    clear hdt hrq hsq g0 g1
    by_cases heq:dt=t
    ·have HD1:Hid (DocX w6 (w.heap.size+1) w6.heap.size (.agg #[.slice a1 s.len c1,.slice ao L.length co]) ⟨s,L.map RowF.frag⟩):=hid (DocX.wide (HDP.out.below (Nat.le_refl _) hb6) (Nat.le_refl _) hb6.size)
     by_cases hte:t=ByteArray.empty
     ·have HO:=hid (out_mod_not hbig (.inr hte))
      subst heq
      have htl:dt.toList=[]:=by rw[hte,Lib.toList_data];rfl
      have HTE:=hid hte
      clear hte
      have HFX:=hid (set3_block hr6 (.slice none 0 0) (.slice none 0 0) (.int .i64 3))
      have HBF:=hid (set3_below HB6.out (g:=w.heap.size) (Nat.le_refl _) (.slice none 0 0) (.slice none 0 0) (.int .i64 3))
      have HSZ:=hid (set3_size w6 w.heap.size (.slice none 0 0) (.slice none 0 0) (.int .i64 3))
      have ⟨⟨v0,v1,v2⟩,v3,v4,v5⟩:=keep3 hr6
      have hz6:=hb6.size
      clear hr6 hs6 hb6
      go_wp2_with fail
      change bodyPost _ _ _ _ _ (set3 w6 w.heap.size (.slice none 0 0) (.slice none 0 0) (.int .i64 3))
      generalize set3 w6 w.heap.size (.slice none 0 0) (.slice none 0 0) (.int .i64 3)=WF at *
      have ⟨⟨f0,f1,f2⟩,_⟩:=keep3 HFX.out
      exact bodyPost_ret (v:=.agg #[.slice none 0 0,.slice none 0 0,.int .i64 3]) (by simp[results,Tryz.results8,go_sem,f0,f1,f2]) rfl ⟨_,_,by rw[HO.out],HBF.out,by rw[HO.out];exact zeroX _ _ _ (by rw[HSZ.out];omega)⟩
     ·have HO:=hid (out_mod hbig (by rw[HDD.out];exact HDT.out.trans heq) hte)
      subst heq
      have hn1:dt.toList≠[]:=fun e=>hte (bytes_nil e)
      have hn2:(dt.toList == [])=false:=beq_eq_false_iff_ne.2 hn1
      have HFX:=hid (set3_block hr6 (.slice a1 s.len c1) (.slice ao L.length co) (.int .i64 0))
      have HBF:=hid (set3_below HB6.out (g:=w.heap.size) (Nat.le_refl _) (.slice a1 s.len c1) (.slice ao L.length co) (.int .i64 0))
      have HSZ:=hid (set3_size w6 w.heap.size (.slice a1 s.len c1) (.slice ao L.length co) (.int .i64 0))
      have hz6:=hb6.size
      have HDF:Hid (DocX (set3 w6 w.heap.size (.slice a1 s.len c1) (.slice ao L.length co) (.int .i64 0)) w.heap.size (set3 w6 w.heap.size (.slice a1 s.len c1) (.slice ao L.length co) (.int .i64 0)).heap.size (.agg #[.slice a1 s.len c1,.slice ao L.length co]) ⟨s,L.map RowF.frag⟩):=hid (by
       obtain ⟨q1,q2,q3,q4,q5,q6,q7,q8,q9⟩:=HD1.out
       refine DocX.wide (A:=w.heap.size+1) (B:=w6.heap.size) ?_ (Nat.le_succ _) (by rw[HSZ.out];exact Nat.le_refl _)
       exact DocX.block ⟨q1,q2,q3,q4,q5,q6,q7,q8,q9⟩ fun c x1 x2=>set3_other w6 w.heap.size _ _ _ c (by omega))
      have ⟨⟨v0,v1,v2⟩,v3,v4,v5⟩:=keep3 hr6
      clear hr6 hs6 hb6
      go_wp2_with fail
      change bodyPost _ _ _ _ _ (set3 w6 w.heap.size (.slice a1 s.len c1) (.slice ao L.length co) (.int .i64 0))
      generalize set3 w6 w.heap.size (.slice a1 s.len c1) (.slice ao L.length co) (.int .i64 0)=WF at *
      have ⟨⟨f0,f1,f2⟩,_⟩:=keep3 HFX.out
      exact bodyPost_ret (v:=.agg #[.slice a1 s.len c1,.slice ao L.length co,.int .i64 0]) (by simp[results,Tryz.results8,go_sem,f0,f1,f2]) rfl ⟨_,_,by rw[HO.out],HBF.out,by rw[HO.out,HDD.out];exact HDF.out⟩
    ·have HO:=hid (out_mod_not hbig (.inl (by rw[HDD.out,HDT.out];exact heq)))
     have hn1:=toList_ne heq
     have hn2:=toList_beq heq
     have HFX:=hid (set3_block hr6 (.slice none 0 0) (.slice none 0 0) (.int .i64 3))
     have HBF:=hid (set3_below HB6.out (g:=w.heap.size) (Nat.le_refl _) (.slice none 0 0) (.slice none 0 0) (.int .i64 3))
     have HSZ:=hid (set3_size w6 w.heap.size (.slice none 0 0) (.slice none 0 0) (.int .i64 3))
     have ⟨⟨v0,v1,v2⟩,v3,v4,v5⟩:=keep3 hr6
     have hz6:=hb6.size
     clear hr6 hs6 hb6
     go_wp2_with fail
     change bodyPost _ _ _ _ _ (set3 w6 w.heap.size (.slice none 0 0) (.slice none 0 0) (.int .i64 3))
     generalize set3 w6 w.heap.size (.slice none 0 0) (.slice none 0 0) (.int .i64 3)=WF at *
     have ⟨⟨f0,f1,f2⟩,_⟩:=keep3 HFX.out
     exact bodyPost_ret (v:=.agg #[.slice none 0 0,.slice none 0 0,.int .i64 3]) (by simp[results,Tryz.results8,go_sem,f0,f1,f2]) rfl ⟨_,_,by rw[HO.out],HBF.out,by rw[HO.out];exact zeroX _ _ _ (by rw[HSZ.out];omega)⟩
end Go.Proofs.YtmembhpoidcmlaaGreatDoor.Selss
namespace Go.Proofs.YtmembhpoidcmlaaGreatDoor.Rw
open Lib (hid)
open Go.RowKit
set_option linter.unusedVariables false
set_option maxRecDepth 100000
theorem lwTexts(w:World)(A B A' B':Nat)(a a':Option Addr)(len cap cap':Nat)(l:List ByteArray)(hs:TextsAt w A B a len l)(hs':TextsAt w A' B' a' len l)(hB:B≤w.heap.size)(hB':B'≤w.heap.size) :
  Calls Tryz.prog 77 #[.slice a len cap,.slice a' len cap'] w fun e w'=>e=.returned (.bool true)∧Below w.heap.size w w':=by
 have hlen:=hs.2.1
 have HS:=hid hs
 have HS':=hid hs'
 clear hs hs'
 go_enter Tryz.func77,Tryz.ntmps77
 go_wp2_with fail
 go_loopw [5] (fun i wr=>∃ i':Nat,i'≤len∧i=.int .i64 i'∧Below w.heap.size w wr) (fun i _=>len - (intOf i).toNat)
 case atStart=>exact⟨0,by omega,rfl,Below.refl _ _⟩
 case round =>
  obtain ⟨i,hi,rfl,hb⟩:=hrel
  by_cases hlt:i<len
  ·have hli:(i:Int)<(len:Int):=by omega
   obtain ⟨x,b,off,hd,rfl,hA,hbb,hok,hc⟩:=(HS.out.below textLies (Nat.le_refl _) (hb.mono hB)).at hlt
   obtain ⟨x',b',off',hd',rfl,hA',hbb',hok',hc'⟩:=(HS'.out.below textLies (Nat.le_refl _) (hb.mono hB')).at hlt
   obtain rfl:x'=x:=by rw[hd] at hd';cases hd';rfl
   rw[Nat.mul_one] at hc hc'
   have HB:=hid hb
   clear hlt hd hd' hb hok hok'
   go_wp2_with fail
   go_region
   go_wp2_with fail
   go_roundw
   case rel=>exact⟨i+1,by omega,by go_num,HB.out.drew⟩
   case measure=>simp[intOf];omega
  ·obtain rfl:i=len:=by omega
   have HB:=hid hb
   clear hlt hb
   go_wp2_with fail
   go_ret
   exact⟨rfl,HB.out⟩
set_option maxHeartbeats 4000000 in
theorem lwType(w:World)(A B A' B':Nat)(v v':Value)(x:TypeP)(hs:TypeAt w A B v x)(hs':TypeAt w A' B' v' x)(hB:B≤w.heap.size)(hB':B'≤w.heap.size) :
  Calls Tryz.prog 53 #[v,v'] w fun e w'=>e=.returned (.bool true)∧Below w.heap.size w w':=by
 obtain ⟨a,ca,c,cc,rfl,hk,⟨h2,_⟩,h3,_⟩:=hs
 obtain ⟨a',ca',c',cc',rfl,_,⟨h2',_⟩,h3',_⟩:=hs'
 obtain ⟨nm,kd,by_,fs,ms⟩:=x
 obtain ⟨hk,⟨hs1,hs2⟩,hs3,hs4⟩:=hk
 unfold OkS at hk
 simp only[TypeP.cells] at hk hs1 hs2 hs3 hs4 h2 h3 h2' h3' ⊢
 have hfl:=h2.2.1
 have H2:=hid h2
 have H3:=hid h3
 have H2':=hid h2'
 have H3':=hid h3'
 clear h2 h3 h2' h3'
 have HA:Hid (∀ o1 o2,Below w.heap.size w ((w.alloc o1).alloc o2)):=hid fun o1 o2=>((Below.refl _ _).alloc (Nat.le_refl _) o1).alloc (by simp) o2
 have CL:Hid (∀ w':World,Below w.heap.size w w'→Calls Tryz.prog 77 #[.slice c ms.length cc,.slice c' ms.length cc'] w' fun e w''=>e=.returned (.bool true)∧Below w'.heap.size w' w''):=hid fun w' h=>lwTexts w' A B A' B' c c' _ cc cc' ms (H3.out.below textLies hB h) (H3'.out.below textLies hB' h) (Nat.le_trans hB h.size) (Nat.le_trans hB' h.size)
 obtain ⟨n,hn⟩:∃ n,fs.length=n:=⟨_,rfl⟩
 rw[hn] at hfl ⊢
 have HN:=hid hn
 clear hn
 go_enter Tryz.func53,Tryz.ntmps53
 go_wp2_with fail
 refine(CL.out _ (HA.out _ _)).mono ?_
 rintro e w1 ⟨rfl,hb1⟩
 have HB1:Hid (Below w.heap.size w w1):=hid ((HA.out _ _).trans (hb1.mono (HA.out _ _).size))
 have e1:(w.alloc (.cells #[.string nm,.int .i64 kd,.int .i64 by_,.slice a n ca,.slice c ms.length cc] 77)).heap.size=w.heap.size+1:=by simp
 have hx1:w1.heap[w.heap.size]?=some (.cells #[.string nm,.int .i64 kd,.int .i64 by_,.slice a n ca,.slice c ms.length cc] 77 (0,0)):=by
  rw[hb1.block _ (by simp;omega),Go.Deep.blk_alloc_lt _ _ _ (by simp)];exact Go.Deep.blk_alloc_new _ _
 have hx2:w1.heap[w.heap.size+1]?=some (.cells #[.string nm,.int .i64 kd,.int .i64 by_,.slice a' n ca',.slice c' ms.length cc'] 77 (0,0)):=by
  rw[hb1.block _ (by simp),←e1];exact Go.Deep.blk_alloc_new _ _
 have HX1:=hid hx1
 have HX2:=hid hx2
 clear hb1 hx1 hx2 e1
 go_wp2_with fail
 go_loopw [5] (fun v wr=>∃ i:Nat,i≤n∧v=.int .i64 i∧Below w1.heap.size w1 wr) (fun v _=>n - (intOf v).toNat)
 case atStart=>exact⟨0,by omega,rfl,Below.refl _ _⟩
 case round =>
  obtain ⟨i,hi,rfl,hb⟩:=hrel
  have HB:=hid hb
  have ⟨⟨p0,p1,p2,p3,p4⟩,_⟩:=keep5 ((hb.block _ (lt_of_get HX1.out)).trans HX1.out)
  have ⟨⟨q0,q1,q2,q3,q4⟩,_⟩:=keep5 ((hb.block _ (lt_of_get HX2.out)).trans HX2.out)
  clear hb
  by_cases hlt:i<n
  ·have hli:(i:Int)<(n:Int):=by omega
   have BW:Below w.heap.size w wr:=HB1.out.trans (HB.out.mono HB1.out.size)
   obtain ⟨x,b,off,hd,rfl,hA,hbb,hok,hc⟩:=(H2.out.below fieldLies hB BW).at (i:=i) (by rw[HN.out];exact hlt)
   obtain ⟨x',b',off',hd',rfl,hA',hbb',hok',hc'⟩:=(H2'.out.below fieldLies hB' BW).at (i:=i) (by rw[HN.out];exact hlt)
   obtain rfl:x'=x:=by rw[hd] at hd';cases hd';rfl
   obtain ⟨c0,c1,c2,c3,c4,c5⟩:=row6 hc
   obtain ⟨d0,d1,d2,d3,d4,d5⟩:=row6 hc'
   obtain ⟨fnm,ft,fl,fm,fs_,fc⟩:=x'
   simp only at c0 c1 c2 c3 c4 c5 d0 d1 d2 d3 d4 d5
   clear BW hd hd' hok hok' hc hc' hlt
   go_wp2_with fail
   go_quiet (fail)
   go_wp2_with fail
   go_roundw
   case rel=>exact⟨i+1,by omega,by go_num,⟨HB.out.os,HB.out.tape,HB.out.output,HB.out.size,HB.out.block⟩⟩
   case measure=>simp[intOf];omega
  ·obtain rfl:i=n:=by omega
   clear hlt
   go_wp2_with fail
   go_ret
   exact⟨rfl,HB1.out.trans (HB.out.mono HB1.out.size)⟩
set_option maxHeartbeats 4000000 in
theorem lwSchema(w:World)(A B A' B':Nat)(v v':Value)(s:List TypeP)(hs:SchemaAt w A B v s)(hs':SchemaAt w A' B' v' s)(hB:B≤w.heap.size)(hB':B'≤w.heap.size) :
  Calls Tryz.prog 19 #[v,v'] w fun e w'=>e=.returned (.bool true)∧Below w.heap.size w w':=by
 obtain ⟨a,ca,rfl,hs,_⟩:=hs
 obtain ⟨a',ca',rfl,hs',_⟩:=hs'
 have HA:Hid (∀ o1 o2,Below w.heap.size w ((w.alloc o1).alloc o2)):=hid fun o1 o2=>((Below.refl _ _).alloc (Nat.le_refl _) o1).alloc (by simp) o2
 obtain ⟨len,hl⟩:∃ len,s.length=len:=⟨_,rfl⟩
 rw[hl] at hs hs' ⊢
 have hlen:=hs.2.1
 have HS:=hid hs
 have HS':=hid hs'
 clear hs hs' hl
 go_enter Tryz.func19,Tryz.ntmps19
 go_wp2_with fail
 have HX1:Hid (((w.alloc (.cells #[.slice a len ca] 35)).alloc (.cells #[.slice a' len ca'] 35)).heap[w.heap.size]?=some (.cells #[.slice a len ca] 35 (0,0))):=hid (by
  rw[Go.Deep.blk_alloc_lt _ _ _ (by simp)];exact Go.Deep.blk_alloc_new _ _)
 have HX2:Hid (((w.alloc (.cells #[.slice a len ca] 35)).alloc (.cells #[.slice a' len ca'] 35)).heap[w.heap.size+1]?=some (.cells #[.slice a' len ca'] 35 (0,0))):=hid (by
  have e1:(w.alloc (.cells #[.slice a len ca] 35)).heap.size=w.heap.size+1:=by simp
  rw[←e1];exact Go.Deep.blk_alloc_new _ _)
 have HB0:=hid (HA.out (.cells #[.slice a len ca] 35) (.cells #[.slice a' len ca'] 35))
 have hz0:((w.alloc (.cells #[.slice a len ca] 35)).alloc (.cells #[.slice a' len ca'] 35)).heap.size=w.heap.size+2:=by simp
 generalize (w.alloc (.cells #[.slice a len ca] 35)).alloc (.cells #[.slice a' len ca'] 35)=w0 at *
 clear HA
 go_loopw [5] (fun i wr=>∃ i':Nat,i'≤len∧i=.int .i64 i'∧Below w0.heap.size w0 wr) (fun i _=>len - (intOf i).toNat)
 case atStart=>exact⟨0,by omega,rfl,Below.refl _ _⟩
 case round =>
  obtain ⟨i,hi,rfl,hb⟩:=hrel
  have HB:=hid hb
  have HBW:=hid (HB0.out.trans (hb.mono HB0.out.size))
  have HY1:=hid ((hb.block w.heap.size (by omega)).trans HX1.out)
  have HY2:=hid ((hb.block (w.heap.size+1) (by omega)).trans HX2.out)
  have ⟨p0,_⟩:=keep1 HY1.out
  have ⟨q0,_⟩:=keep1 HY2.out
  have hzr:=hb.size
  clear hb
  by_cases hlt:i<len
  ·have hli:(i:Int)<(len:Int):=by omega
   obtain ⟨x,b,off,hd,rfl,hA,hbb,hok,a1,c1,c,cc,hc,h2,h3⟩:=(HS.out.below typeLies hB HBW.out).at hlt
   obtain ⟨x',b',off',hd',rfl,hA',hbb',hok',a2,c2,c',cc',hc',h2',h3'⟩:=(HS'.out.below typeLies hB' HBW.out).at hlt
   obtain rfl:x'=x:=by rw[hd] at hd';cases hd';rfl
   obtain ⟨e0,e1,e2,e3,e4⟩:=row5 hc
   obtain ⟨d0,d1,d2,d3,d4⟩:=row5 hc'
   have HX:Hid (TypeAt wr.drew A B (.agg #[.string x'.name,.int .i64 x'.kind,.int .i64 x'.bytes,.slice a1 x'.fields.length c1,.slice c x'.members.length cc]) x'):=hid ⟨a1,c1,c,cc,rfl,hok,⟨h2.1.drew fieldLies,h2.2⟩,h3.1.drew textLies,h3.2⟩
   have HX':Hid (TypeAt wr.drew A' B' (.agg #[.string x'.name,.int .i64 x'.kind,.int .i64 x'.bytes,.slice a2 x'.fields.length c2,.slice c' x'.members.length cc']) x'):=hid ⟨a2,c2,c',cc',rfl,hok,⟨h2'.1.drew fieldLies,h2'.2⟩,h3'.1.drew textLies,h3'.2⟩
   have hBd:Hid (B≤wr.drew.heap.size∧B'≤wr.drew.heap.size):=hid ⟨Nat.le_trans hB HBW.out.size,Nat.le_trans hB' HBW.out.size⟩
   clear hlt hd hd' hok hok' hc hc' h2 h3 h2' h3'
   go_wp2_with fail
   go_region_with (go_at_call 53;refine(lwType _ A B A' B' _ _ x' HX.out HX'.out hBd.out.1 hBd.out.2).mono ?_;rintro e w1 ⟨rfl,hb1⟩)
   all_goals
    have HB1:=hid (HB.out.drew.trans (hb1.mono HB.out.drew.size))
    clear hb1
    go_wp2_with fail
    go_roundw
    case rel=>exact⟨i+1,by omega,by go_num,HB1.out⟩
    case measure=>simp[intOf];omega
  ·obtain rfl:i=len:=by omega
   clear hlt
   go_wp2_with fail
   go_ret
   exact⟨rfl,HBW.out⟩
end Go.Proofs.YtmembhpoidcmlaaGreatDoor.Rw
namespace Go.Proofs.YtmembhpoidcmlaaGreatDoor.Selss
open Lib (hid)
open Go.RowKit
set_option linter.unusedVariables false
set_option maxRecDepth 100000
theorem belowN(w:World)(n B:Nat):Below B w (w.drewN n):=⟨rfl,rfl,rfl,Nat.le_refl _,fun _ _=>rfl⟩
set_option maxHeartbeats 4000000 in
theorem lwSels:∀(n:Nat)(s:Sels),s.all<n→∀ (w:World) (A B A' B':Nat) (a a':Option Addr) (cap cap':Nat),SelsAt w A B a s.len s→SelsAt w A' B' a' s.len s→B≤w.heap.size→B'≤w.heap.size →
  Calls Tryz.prog 51 #[.slice a s.len cap,.slice a' s.len cap'] w fun e w'=>e=.returned (.bool true)∧∃ m,w'=w.drewN m:=by
 intro n
 induction n with
 | zero=>intro s h;omega
 | succ n ih =>
  intro s hall w A B A' B' a a' cap cap' hs hs' hB hB'
  have hlen:=hs.2.1
  have IH:=hid ih
  have HS:=hid hs
  have HS':=hid hs'
  clear ih hs hs'
  go_enter Tryz.func51,Tryz.ntmps51
  go_wp2_with fail
  go_loopw [5] (fun i wr=>∃ i' m:Nat,i'≤s.len∧i=.int .i64 i'∧Hid (wr=w.drewN m)) (fun i _=>s.len - (intOf i).toNat)
  case atStart=>exact⟨0,0,by omega,rfl,hid rfl⟩
  case round =>
   obtain ⟨i,m,hi,rfl,HM⟩:=hrel
   have hb:Below w.heap.size w wr:=by rw[HM.out];exact belowN w m _
   by_cases hlt:i<s.len
   ·have hli:(i:Int)<(s.len:Int):=by omega
    obtain ⟨k,key,nm,f,u,r,b,off,u1,c1,hd,rfl,hbb,hok,⟨hc0,hc1,hc2,hc3,hc4⟩,hu⟩:=(HS.out.below (Nat.le_refl _) (hb.mono hB)).at hlt
    obtain ⟨k',key',nm',f',u',r',b',off',u2,c2,hd',rfl,hbb',hok',⟨hd0,hd1,hd2,hd3,hd4⟩,hu'⟩:=(HS'.out.below (Nat.le_refl _) (hb.mono hB')).at hlt
    obtain ⟨rfl,rfl,rfl,rfl,rfl,rfl⟩:k'=k∧key'=key∧nm'=nm∧f'=f∧u'=u∧r'=r:=by
     rw[hd] at hd';cases hd';exact⟨rfl,rfl,rfl,rfl,rfl,rfl⟩
    have hua:u'.all<n:=by have:=Sels.all_drop hd;omega
    have hz:=hb.size
    have HUN:Hid (∀ q,Calls Tryz.prog 51 #[.slice u1 u'.len c1,.slice u2 u'.len c2] (wr.drewN q) fun e w'=>e=.returned (.bool true)∧∃ m,w'=(wr.drewN q).drewN m):=hid fun q=>IH.out u' hua _ A B A' B' u1 u2 c1 c2 (hu.below (C:=wr.heap.size) (by omega) (belowN wr q _)) (hu'.below (C:=wr.heap.size) (by omega) (belowN wr q _)) (by show B≤wr.heap.size;omega) (by show B'≤wr.heap.size;omega)
    clear hlt hd hd' hb hu hu' hok hok'
    go_wp2_with fail
    go_quiet ((go_at_call 51;exact Calls.quiet_of (HUN.out _)))
    go_wp2_with fail
    go_roundw
    case rel=>exact⟨i+1,m+nq,by omega,by go_num,hid (by rw[HM.out,World.drewN_drewN])⟩
    case measure=>simp[intOf];omega
   ·obtain rfl:i=s.len:=by omega
    clear hlt hb
    go_wp2_with fail
    go_ret
    exact⟨rfl,m,HM.out⟩
set_option maxHeartbeats 4000000 in
theorem lwDoc(w:World)(A B A' B':Nat)(v v':Value)(d:DocP)(hs:DocAt w A B v d)(hs':DocAt w A' B' v' d)(hB:B≤w.heap.size)(hB':B'≤w.heap.size) :
  Calls Tryz.prog 17 #[v,v'] w fun e w'=>e=.returned (.bool true)∧Below w.heap.size w w':=by
 obtain ⟨a,ca,b,cb,rfl,hd,hf,_⟩:=hs
 obtain ⟨a',ca',b',cb',rfl,hd',hf',_⟩:=hs'
 have HA:Hid (∀ o1 o2,Below w.heap.size w ((w.alloc o1).alloc o2)):=hid fun o1 o2=>((Below.refl _ _).alloc (Nat.le_refl _) o1).alloc (by simp) o2
 have CL:Hid (∀ w',Below w.heap.size w w'→Calls Tryz.prog 51 #[.slice a d.sels.len ca,.slice a' d.sels.len ca'] w' fun e w''=>e=.returned (.bool true)∧∃ m,w''=w'.drewN m):=hid fun w' g=>lwSels (d.sels.all+1) d.sels (Nat.lt_succ_self _) w' A B A' B' a a' ca ca' (hd.below hB g) (hd'.below hB' g) (Nat.le_trans hB g.size) (Nat.le_trans hB' g.size)
 have HF:=hid hf
 have HF':=hid hf'
 obtain ⟨n,hn⟩:∃ n,d.frags.length=n:=⟨_,rfl⟩
 have hlen:n≤9223372036854775807:=by rw[←hn];exact hf.2.1
 rw[hn]
 have HN:=hid hn
 generalize d.sels.len=sl at *
 clear hd hf hd' hf' hn
 go_enter Tryz.func17,Tryz.ntmps17
 go_wp2_with fail
 refine(CL.out _ (HA.out _ _)).mono ?_
 rintro e w1 ⟨rfl,m1,hm1⟩
 have hb1:Below ((w.alloc (.cells #[.slice a sl ca,.slice b n cb] 26)).alloc (.cells #[.slice a' sl ca',.slice b' n cb'] 26)).heap.size ((w.alloc (.cells #[.slice a sl ca,.slice b n cb] 26)).alloc (.cells #[.slice a' sl ca',.slice b' n cb'] 26)) w1:=by rw[hm1];exact belowN _ _ _
 have e1:(w.alloc (.cells #[.slice a sl ca,.slice b n cb] 26)).heap.size=w.heap.size+1:=by simp
 have HX1:=hid (show w1.heap[w.heap.size]?=some (.cells #[.slice a sl ca,.slice b n cb] 26 (0,0)) by
  rw[hb1.block _ (by simp;omega),Go.Deep.blk_alloc_lt _ _ _ (by simp)];exact Go.Deep.blk_alloc_new _ _)
 have HX2:=hid (show w1.heap[w.heap.size+1]?=some (.cells #[.slice a' sl ca',.slice b' n cb'] 26 (0,0)) by
  rw[hb1.block _ (by simp),←e1];exact Go.Deep.blk_alloc_new _ _)
 have HB1:=hid ((HA.out _ _).trans (hb1.mono (HA.out _ _).size))
 have ⟨⟨p0,p1⟩,_⟩:=keep2 HX1.out
 have ⟨⟨q0,q1⟩,_⟩:=keep2 HX2.out
 clear hb1 e1 hm1
 go_wp2_with fail
 clear p0 p1 q0 q1
 go_loopw [5] (fun v wr=>∃ i m:Nat,i≤n∧v=.int .i64 i∧Hid (wr=w1.drewN m)) (fun v _=>n - (intOf v).toNat)
 case atStart=>exact⟨0,0,by omega,rfl,hid rfl⟩
 case round =>
  obtain ⟨i,m,hi,rfl,HM⟩:=hrel
  have hb:Below w1.heap.size w1 wr:=by rw[HM.out];exact belowN _ m _
  have BW:Below w.heap.size w wr:=HB1.out.trans (hb.mono HB1.out.size)
  have HBW:=hid BW
  have ⟨⟨p0,p1⟩,_⟩:=keep2 ((hb.block _ (Array.getElem?_eq_some_iff.1 HX1.out).1).trans HX1.out)
  have ⟨⟨q0,q1⟩,_⟩:=keep2 ((hb.block _ (Array.getElem?_eq_some_iff.1 HX2.out).1).trans HX2.out)
  clear hb
  by_cases hlt:i<n
  ·have hli:(i:Int)<(n:Int):=by omega
   obtain ⟨x,b,off,u1,c1,hd,rfl,hbb,hok,⟨hc0,hc1,hc2⟩,hu⟩:=(HF.out.below hB BW).at (i:=i) (by rw[HN.out];exact hlt)
   obtain ⟨x',b',off',u2,c2,hd',rfl,hbb',hok',⟨hd0,hd1,hd2⟩,hu'⟩:=(HF'.out.below hB' BW).at (i:=i) (by rw[HN.out];exact hlt)
   obtain rfl:x'=x:=by rw[hd] at hd';cases hd';rfl
   have hz:=BW.size
   obtain ⟨fk,fn,fu⟩:=x'
   simp only at hc0 hc1 hc2 hd0 hd1 hd2 hu hu'
   have HUN:Hid (∀ q,Calls Tryz.prog 51 #[.slice u1 fu.len c1,.slice u2 fu.len c2] (wr.drewN q) fun e w'=>e=.returned (.bool true)∧∃ m,w'=(wr.drewN q).drewN m):=hid fun q=>lwSels (fu.all+1) fu (Nat.lt_succ_self _) _ A B A' B' u1 u2 c1 c2 (hu.below (C:=wr.heap.size) (by omega) (belowN wr q _)) (hu'.below (C:=wr.heap.size) (by omega) (belowN wr q _)) (by show B≤wr.heap.size;omega) (by show B'≤wr.heap.size;omega)
   clear hlt hd hd' BW hu hu' hok hok'
   go_wp2_with fail
   go_quiet ((go_at_call 51;exact Calls.quiet_of (HUN.out _)))
   go_wp2_with fail
   go_roundw
   case rel=>exact⟨i+1,m+nq,by omega,by go_num,hid (by rw[HM.out,World.drewN_drewN])⟩
   case measure=>simp[intOf];omega
  ·obtain rfl:i=n:=by omega
   clear hlt BW
   go_wp2_with fail
   go_ret
   exact⟨rfl,HBW.out⟩
end Go.Proofs.YtmembhpoidcmlaaGreatDoor.Selss
namespace Go.Proofs.YtmembhpoidcmlaaGreatDoor.Draws
open Lib (hid)
open Go.RowKit Texts Bytes Rw
set_option linter.unusedVariables false
set_option maxRecDepth 100000
theorem drawWordRight(w:World)(len cap:Nat)(a:Option Addr)(h:BytesAt w w.heap.size a len)(hsm:len≤140737488351232) :
  Calls Tryz.prog 14 #[.slice a len cap] w fun e w'=>(∃ x:ByteArray,x.size≤20∧e=.returned (.string x))∧Below w.heap.size w w':=by
 have HS:=hid (source w len cap a h hsm)
 clear h
 go_enter Tryz.func14,Tryz.ntmps14
 go_wp2_with fail
 refine HS.out.mono ?_
 rintro e w1 ⟨rfl,hs1,hb1⟩
 have HB1:=hid hb1
 have HS1:=hid hs1
 have hp1:=hs1.lt
 clear hs1 hb1
 go_wp2_with fail
 have HA:=hid ((Below.refl w1.heap.size w1).alloc (Nat.le_refl _) (.cells ([⟨#[97]⟩,⟨#[97,98,99,100,101,102,103,104]⟩,⟨#[97,98,99,100,101,102,103,104,105]⟩,⟨#[]⟩,⟨#[65]⟩,⟨#[111,110]⟩,⟨#[102,114,97,103,109,101,110,116]⟩,⟨#[100,111,103]⟩].map Value.string).toArray 9))
 refine(src_pick _ w.heap.size len cap a (HS1.out.below hp1 HA.out) w1.heap.size [⟨#[97]⟩,⟨#[97,98,99,100,101,102,103,104]⟩,⟨#[97,98,99,100,101,102,103,104,105]⟩,⟨#[]⟩,⟨#[65]⟩,⟨#[111,110]⟩,⟨#[102,114,97,103,109,101,110,116]⟩,⟨#[100,111,103]⟩] (Go.Deep.blk_alloc_new _ _) (by omega) (by simp) (by simp)).mono ?_
 rintro e w2 ⟨⟨x,hx,rfl⟩,_,ho2⟩
 have hx20:x.size≤20:=by
  have h3:([⟨#[97]⟩,⟨#[97,98,99,100,101,102,103,104]⟩,⟨#[97,98,99,100,101,102,103,104,105]⟩,⟨#[]⟩,⟨#[65]⟩,⟨#[111,110]⟩,⟨#[102,114,97,103,109,101,110,116]⟩,⟨#[100,111,103]⟩].all fun x:ByteArray=>decide (x.size≤20))=true:=by decide
  have:=List.all_eq_true.1 h3 x hx
  simpa using this
 have HB2:=hid (HB1.out.trans ((HA.out.mono HB1.out.size).trans (ho2.below (B:=w.heap.size) (Nat.le_refl _) (by have:=HB1.out.size;simp;omega))))
 have HX:=hid hx20
 clear ho2 hx hx20
 go_wp2_with fail
 go_ret
 exact⟨⟨x,HX.out,rfl⟩,HB2.out⟩
theorem drawTypeWord(w:World)(len cap:Nat)(a:Option Addr)(h:BytesAt w w.heap.size a len)(hsm:len≤140737488351232) :
  Calls Tryz.prog 15 #[.slice a len cap] w fun e w'=>(∃ x:ByteArray,x.size≤20∧e=.returned (.string x))∧Below w.heap.size w w':=by
 have HS:=hid (source w len cap a h hsm)
 clear h
 go_enter Tryz.func15,Tryz.ntmps15
 go_wp2_with fail
 refine HS.out.mono ?_
 rintro e w1 ⟨rfl,hs1,hb1⟩
 have HB1:=hid hb1
 have HS1:=hid hs1
 have hp1:=hs1.lt
 clear hs1 hb1
 go_wp2_with fail
 have HA:=hid ((Below.refl w1.heap.size w1).alloc (Nat.le_refl _) (.cells ([⟨#[65]⟩,⟨#[65,66,67,68,69,70,71,72]⟩,⟨#[65,66,67,68,69,70,71,72,73]⟩,⟨#[]⟩,⟨#[97]⟩].map Value.string).toArray 9))
 refine(src_pick _ w.heap.size len cap a (HS1.out.below hp1 HA.out) w1.heap.size [⟨#[65]⟩,⟨#[65,66,67,68,69,70,71,72]⟩,⟨#[65,66,67,68,69,70,71,72,73]⟩,⟨#[]⟩,⟨#[97]⟩] (Go.Deep.blk_alloc_new _ _) (by omega) (by simp) (by simp)).mono ?_
 rintro e w2 ⟨⟨x,hx,rfl⟩,_,ho2⟩
 have hx20:x.size≤20:=by
  have h3:([⟨#[65]⟩,⟨#[65,66,67,68,69,70,71,72]⟩,⟨#[65,66,67,68,69,70,71,72,73]⟩,⟨#[]⟩,⟨#[97]⟩].all fun x:ByteArray=>decide (x.size≤20))=true:=by decide
  have:=List.all_eq_true.1 h3 x hx
  simpa using this
 have HB2:=hid (HB1.out.trans ((HA.out.mono HB1.out.size).trans (ho2.below (B:=w.heap.size) (Nat.le_refl _) (by have:=HB1.out.size;simp;omega))))
 have HX:=hid hx20
 clear ho2 hx hx20
 go_wp2_with fail
 go_ret
 exact⟨⟨x,HX.out,rfl⟩,HB2.out⟩
end Go.Proofs.YtmembhpoidcmlaaGreatDoor.Draws
namespace Go.Proofs.YtmembhpoidcmlaaGreatDoor.Selss
open Lib (hid)
open Go.RowKit Words
set_option linter.unusedVariables false
theorem specCountOf(w:World)(A B:Nat)(v:Value)(d:DocP)(hs:DocAt w A B v d)(hB:B≤w.heap.size) :
  Calls Tryz.prog 27 #[v] w fun e w'=>e=.returned (.int .i64 (countD d))∧Below w.heap.size w w':=by
 have CA:Hid (∀ w':World,Below w.heap.size w w'→Calls Tryz.prog 57 #[v] w' fun e w''=>e=.returned (.int .i64 d.upto)∧Below w'.heap.size w' w''):=hid fun w' h=>specAll w' A B v d (hs.below hB h) (Nat.le_trans hB h.size)
 have CR:Hid (∀ w':World,Below w.heap.size w w'→Calls Tryz.prog 25 #[v] w' fun e w''=>e=.returned (.bool (docB d))∧Below w'.heap.size w' w''):=hid fun w' h=>specDocRight w' A B v d (hs.below hB h) (Nat.le_trans hB h.size)
 obtain ⟨q,hb⟩:∃ q,docB d=q:=⟨_,rfl⟩
 rw[hb] at CR
 obtain ⟨a,ca,b,cb,rfl,_,_⟩:=hs
 have HA:Hid (∀ o,Below w.heap.size w (w.alloc o)):=hid fun o=>(Below.refl _ _).alloc (Nat.le_refl _) o
 cases q
 ·have hf:=hid (count_no hb)
  clear hb
  go_enter Tryz.func27,Tryz.ntmps27
  go_wp2_with fail
  refine(CR.out _ (HA.out _)).mono ?_
  rintro e w1 ⟨rfl,hb1⟩
  have HB1:=hid ((HA.out _).trans (hb1.mono (HA.out _).size))
  clear hb1
  go_wp2_with fail
  go_ret
  exact⟨ret_i hf.out,HB1.out⟩
 ·have hf:=hid (count_yes hb)
  clear hb
  go_enter Tryz.func27,Tryz.ntmps27
  go_wp2_with fail
  refine(CR.out _ (HA.out _)).mono ?_
  rintro e w1 ⟨rfl,hb1⟩
  have HB1:=hid ((HA.out _).trans (hb1.mono (HA.out _).size))
  have k0:=hb1.cell (p:=⟨w.heap.size,0,none⟩) (by simp)
  have k1:=hb1.cell (p:=⟨w.heap.size,1,none⟩) (by simp)
  simp at k0 k1
  clear hb1
  go_wp2_with fail
  refine(CA.out _ HB1.out).mono ?_
  rintro e w2 ⟨rfl,hb2⟩
  have HB2:=hid (HB1.out.trans (hb2.mono HB1.out.size))
  clear hb2 k0 k1
  go_wp2_with fail
  go_ret
  exact⟨ret_i hf.out,HB2.out⟩
theorem implCountOf(w:World)(A B:Nat)(v:Value)(d:DocP)(hs:DocAt w A B v d)(hB:B≤w.heap.size) :
  Calls Tryz.prog 26 #[v] w fun e w'=>e=.returned (.int .i64 (countD d))∧Below w.heap.size w w':=by
 have CA:Hid (∀ w':World,Below w.heap.size w w'→Calls Tryz.prog 56 #[v] w' fun e w''=>e=.returned (.tuple #[.int .i64 (countD d),.bool (docB d)])∧Below w'.heap.size w' w''):=hid fun w' h=>implCountDoc w' A B v d (hs.below hB h) (Nat.le_trans hB h.size)
 obtain ⟨a,ca,b,cb,rfl,_,_⟩:=hs
 have HA:Hid (∀ o,Below w.heap.size w (w.alloc o)):=hid fun o=>(Below.refl _ _).alloc (Nat.le_refl _) o
 generalize countD d=cn at *
 generalize docB d=db at *
 go_enter Tryz.func26,Tryz.ntmps26
 go_wp2_with fail
 refine(CA.out _ (HA.out _)).mono ?_
 rintro e w1 ⟨rfl,hb1⟩
 have HB1:=hid ((HA.out _).trans (hb1.mono (HA.out _).size))
 clear hb1
 go_wp2_with fail
 go_ret
 exact⟨rfl,HB1.out⟩
end Go.Proofs.YtmembhpoidcmlaaGreatDoor.Selss
namespace Go.Proofs.YtmembhpoidcmlaaGreatDoor.TextL
open Go.RowKit Rw
open Selss (DocP DocAt docB docT countD outP)
open Decs (Vars Pow)
set_option linter.unusedVariables false
set_option maxRecDepth 100000
def Stay(P:World→Prop):Prop:=∀ W W',P W→Below W.heap.size W W'→P W'
def KD(v:Value)(d:DocP)(W:World):Prop:=∃ A B,DocAt W A B v d∧B≤W.heap.size
theorem KD.stay(v:Value)(d:DocP):Stay (KD v d):=fun W W' ⟨A,B,h,hB⟩ hb=>⟨A,B,h.below hB hb,Nat.le_trans hB hb.size⟩
def KS(v:Value)(s:List TypeP)(W:World):Prop:=∃ B,SchemaAt W 0 B v s∧B≤W.heap.size
theorem KS.stay(v:Value)(s:List TypeP):Stay (KS v s):=fun W W' ⟨B,h,hB⟩ hb=>⟨B,h.below hB hb,Nat.le_trans hB hb.size⟩
def Box(g:Nat)(o:Obj)(W:World):Prop:=W.heap[g]?=some o
theorem Box.stay(g:Nat)(o:Obj):Stay (Box g o):=fun W W' h hb=>(hb.block g (lt_of_get h)).trans h
structure Led(w:World)(Q:World→Prop)(W:World):Prop where
 bel:Below w.heap.size w W
 st:Stay Q
 q:Q W
section
variable {w W W':World} {Q P:World→Prop}
theorem Led.start(w:World):Led w (fun _=>True) w:=⟨Below.refl _ _,fun _ _ _ _=>trivial,trivial⟩
theorem Led.next(h:Led w Q W)(hb:Below W.heap.size W W'):Led w Q W':=⟨h.bel.trans (hb.mono h.bel.size),h.st,h.st _ _ h.q hb⟩
theorem Led.add(h:Led w Q W)(hP:Stay P)(p:P W):Led w (fun X=>Q X∧P X) W:=⟨h.bel,fun X Y a b=>⟨h.st _ _ a.1 b,hP _ _ a.2 b⟩,h.q,p⟩
theorem Led.box(h:Led w Q W)(o:Obj):Led w (fun X=>Q X∧Box W.heap.size o X) (W.alloc o) :=
 (h.next ((Below.refl _ _).alloc (Nat.le_refl _) o)).add (Box.stay _ _) (heap_alloc_new W o)
theorem Led.two(h:Led w Q W)(o1 o2:Obj):Led w (fun X=>(Q X∧Box W.heap.size o1 X)∧Box (W.heap.size+1) o2 X) ((W.alloc o1).alloc o2):=by
 have e:(W.alloc o1).heap.size=W.heap.size+1:=by simp
 have:=(h.box o1).box o2
 rw[e] at this
 exact this
theorem Led.drew(h:Led w Q W):Led w Q W.drew:=h.next (Below.refl _ _).drew
theorem Led.vars(h:Led w Q W)(hv:Vars w.heap.size w):Vars W.heap.size W:=(hv.on h.bel).mono h.bel.size
theorem Led.bytes(h:Led w Q W){a:Option Addr}{len:Nat}(b:Draws.BytesAt w w.heap.size a len):Draws.BytesAt W W.heap.size a len:=(b.below h.bel).mono h.bel.size
end
theorem varsR{w:World}{B:Nat}(h:Vars B w):VarsR B w:=fun w' hb=>let n:=h w' hb;⟨n.pow,n.max,n.syn,n.rng⟩
section
variable {W:World} {v v':Value} {d:DocP} {s:List TypeP}
theorem KD.implText(k:KD v d W)(hv:Vars W.heap.size W):Calls Tryz.prog 5 #[v] W fun e w'=>e=.returned (.string (docT d))∧Below W.heap.size W w':=by
 obtain ⟨A,B,h,hB⟩:=k
 exact Selss.implDocText W A B v d h hB hv.pow
theorem KD.specText(k:KD v d W):Calls Tryz.prog 16 #[v] W fun e w'=>e=.returned (.string (docT d))∧Below W.heap.size W w':=by
 obtain ⟨A,B,h,hB⟩:=k
 exact Selss.specDocText W A B v d h hB
theorem KD.implRight(k:KD v d W):Calls Tryz.prog 24 #[v] W fun e w'=>e=.returned (.bool (docB d))∧Below W.heap.size W w':=by
 obtain ⟨A,B,h,hB⟩:=k
 exact Selss.implDocRight W A B v d h hB
theorem KD.specRight(k:KD v d W):Calls Tryz.prog 25 #[v] W fun e w'=>e=.returned (.bool (docB d))∧Below W.heap.size W w':=by
 obtain ⟨A,B,h,hB⟩:=k
 exact Selss.specDocRight W A B v d h hB
theorem KD.implCount(k:KD v d W):Calls Tryz.prog 26 #[v] W fun e w'=>e=.returned (.int .i64 (countD d))∧Below W.heap.size W w':=by
 obtain ⟨A,B,h,hB⟩:=k
 exact Selss.implCountOf W A B v d h hB
theorem KD.specCount(k:KD v d W):Calls Tryz.prog 27 #[v] W fun e w'=>e=.returned (.int .i64 (countD d))∧Below W.heap.size W w':=by
 obtain ⟨A,B,h,hB⟩:=k
 exact Selss.specCountOf W A B v d h hB
theorem KD.same(k:KD v d W)(k':KD v' d W):Calls Tryz.prog 17 #[v,v'] W fun e w'=>e=.returned (.bool true)∧Below W.heap.size W w':=by
 obtain ⟨A,B,h,hB⟩:=k
 obtain ⟨A',B',h',hB'⟩:=k'
 exact Selss.lwDoc W A B A' B' v v' d h h' hB hB'
theorem KS.implText(k:KS v s W)(hv:Vars W.heap.size W):Calls Tryz.prog 10 #[v] W fun e w'=>e=.returned (.string (schT s))∧Below W.heap.size W w':=by
 obtain ⟨B,h,hB⟩:=k
 exact implSchemaText W B v s h hB W.heap.size hv.pow (Nat.le_refl _)
theorem KS.specText(k:KS v s W):Calls Tryz.prog 18 #[v] W fun e w'=>e=.returned (.string (schT s))∧Below W.heap.size W w':=by
 obtain ⟨B,h,hB⟩:=k
 exact specSchemaText W 0 B v s h hB
theorem KS.implRight(k:KS v s W):Calls Tryz.prog 28 #[v] W fun e w'=>e=.returned (.bool (schemaB s))∧Below W.heap.size W w':=by
 obtain ⟨B,h,hB⟩:=k
 exact implSchemaRight W 0 B v s h hB
theorem KS.specRight(k:KS v s W):Calls Tryz.prog 29 #[v] W fun e w'=>e=.returned (.bool (schemaB s))∧Below W.heap.size W w':=by
 obtain ⟨B,h,hB⟩:=k
 exact specSchemaRight W 0 B v s h hB
theorem KS.same(k:KS v s W)(k':KS v' s W):Calls Tryz.prog 19 #[v,v'] W fun e w'=>e=.returned (.bool true)∧Below W.heap.size W w':=by
 obtain ⟨B,h,hB⟩:=k
 obtain ⟨B',h',hB'⟩:=k'
 exact lwSchema W 0 B 0 B' v v' s h h' hB hB'
end
section
variable {P:Program} {L:List Oper} {E:Exit→Act→World→Prop} {S:World→Prop}
theorem tU(i:Nat)(v:Value){oi:Oper}{fuel:Nat}{listed:Array Bool}{a:Act}{w:World}(hw:S w)(hy:∀ w,S w→(execOp a.eval oi).run P w=.ok (.value v) w)
  (h:Due.anyD P .any L.toArray E 100000 (fun _ X=>S X) fuel (listed.setIfInBounds i true) (a.put oi.dst v) w)
  (hi:Draws.nth L i=some oi:=by rfl) (hg:Region.wanted oi (yielded L.toArray a.tmps)=true:=by rfl) (hb:Draws.okC .any L.toArray 100000 listed i=true:=by kernel_rfl)
  (hQ:∀ c a w,E (.panic c) (a.put oi.dst v) w→E (.panic c) a w:=by exact fun _ _ _ h=>h):Due.anyD P .any L.toArray E 100000 (fun _ X=>S X) (fuel+1) listed a w :=
 Draws.dU i v hi hb (.inl ⟨hg,hy⟩) hw (fun _ h=>h) hQ h
theorem tX(i:Nat){oi:Oper}{fuel:Nat}{listed:Array Bool}{a:Act}{w:World}(hw:S w)
  (h:Due.anyD P .any L.toArray E 100000 (fun _ X=>S X) fuel (listed.setIfInBounds i true) (a.put oi.dst undef) w)
  (hi:Draws.nth L i=some oi:=by rfl) (hg:Region.wanted oi (yielded L.toArray a.tmps)=false:=by rfl) (hb:Draws.okC .any L.toArray 100000 listed i=true:=by kernel_rfl)
  (hQ:∀ c a w,E (.panic c) (a.put oi.dst undef) w→E (.panic c) a w:=by exact fun _ _ _ h=>h):Due.anyD P .any L.toArray E 100000 (fun _ X=>S X) (fuel+1) listed a w :=
 Draws.dU i undef hi hb (.inr ⟨hg,rfl⟩) hw (fun _ h=>h) hQ h
end
def DRes(d:DocP)(c:Int)(W W':World)(e:Ending):Prop :=
 (∃ a n ca b m cb,e=.returned (.agg #[.slice a n ca,.slice b m cb,.int .i64 c])∧KD (.agg #[.slice a n ca,.slice b m cb]) d W')∧Below W.heap.size W W'
theorem DRes.of{t:ByteArray}{W W':World}{e:Ending}(h:Selss.OutRes W W' t e):DRes (outP t).1 (outP t).2 W W' e:=by
 obtain ⟨v0,v1,rfl,hb,hx⟩:=h
 have hd:=hx.doc
 have hd':=hd
 obtain ⟨a,ca,b,cb,hv,_⟩:=hd'
 cases hv
 exact⟨⟨a,_,ca,b,_,cb,rfl,_,_,hd,Nat.le_refl _⟩,hb⟩
theorem implRd(t:ByteArray)(ht:t.size≤1048576)(W:World)(hv:Vars W.heap.size W):Calls Tryz.prog 7 #[.string t] W fun e w'=>DRes (outP t).1 (outP t).2 W w' e :=
 (Selss.implDocRead t ht W W.heap.size hv (Nat.le_refl _)).mono fun e w' h=>DRes.of h
theorem specRd(t:ByteArray)(ht:t.size≤1048576)(W:World):Calls Tryz.prog 8 #[.string t] W fun e w'=>DRes (outP t).1 (outP t).2 W w' e :=
 (Selss.specDocRead t ht W).mono fun e w' h=>DRes.of h
def SRes(s:List TypeP)(c:Int)(W W':World)(e:Ending):Prop :=
 (∃ a n ca,e=.returned (.agg #[.slice a n ca,.int .i64 c])∧KS (.agg #[.slice a n ca]) s W')∧Below W.heap.size W W'
theorem SRes.of{t:ByteArray}{W W':World}{e:Ending}(h:OutS W W' t e∧Below W.heap.size W W'):SRes (outS t).1 (outS t).2 W W' e:=by
 obtain ⟨⟨a,ca,rfl,hc,hx⟩,hb⟩:=h
 exact⟨⟨a,_,ca,rfl,_,((show SchemaX W' W.heap.size W'.heap.size (.agg #[.slice a (outS t).1.length ca]) (outS t).1 from ⟨a,ca,rfl,hx,hc⟩).at_).wide (Nat.zero_le _) (Nat.le_refl _),Nat.le_refl _⟩,hb⟩
theorem implRs(t:ByteArray)(ht:OkS t)(W:World)(hv:Vars W.heap.size W):Calls Tryz.prog 12 #[.string t] W fun e w'=>SRes (outS t).1 (outS t).2 W w' e :=
 (implSchemaRead t ht W W.heap.size (varsR hv) (Nat.le_refl _)).mono fun e w' h=>SRes.of h
theorem specRs(t:ByteArray)(ht:OkS t)(W:World):Calls Tryz.prog 13 #[.string t] W fun e w'=>SRes (outS t).1 (outS t).2 W w' e :=
 (specSchemaRead t ht W).mono fun e w' h=>SRes.of h
theorem outP_text{t:ByteArray}(h:(outP t).2=0):docT (outP t).1=t:=by
 classical
 by_cases hb:8000<t.size
 ·rw[Selss.outP_big hb] at h;cases h
 by_cases hx:∃ d,docB d=true∧docT d=t
 ·obtain ⟨d,h1,h2⟩:=hx
  rw[Selss.outP_is hb h1 h2];exact h2
 ·rw[Selss.outP_not hb hx] at h;cases h
theorem outP_codes(t:ByteArray):(outP t).2=0∨(outP t).2=2∨(outP t).2=3:=by
 classical
 by_cases hb:8000<t.size
 ·rw[Selss.outP_big hb];exact .inr (.inl rfl)
 by_cases hx:∃ d,docB d=true∧docT d=t
 ·obtain ⟨d,h1,h2⟩:=hx
  rw[Selss.outP_is hb h1 h2];exact .inl rfl
 ·rw[Selss.outP_not hb hx];exact .inr (.inr rfl)
theorem outS_text{t:ByteArray}(h:(outS t).2=0):schT (outS t).1=t:=by
 unfold outS at h ⊢
 split at h
 ·cases h
 ·rename_i h8
  split at h
  ·rename_i hx
   rw[if_neg h8,if_pos hx];exact hx.1
  ·cases h
theorem outS_codes(t:ByteArray):(outS t).2=0∨(outS t).2=2∨(outS t).2=3:=by
 unfold outS
 split
 ·exact .inr (.inl rfl)
 ·split
  ·exact .inl rfl
  ·exact .inr (.inr rfl)
theorem back_d{d:DocP}(h:docT d≠ByteArray.empty)(hs:(docT d).size≤8000):outP (docT d)=(d,0) :=
 Selss.outP_is (by omega) (Selss.docT_right rfl h) rfl
theorem back_s{s:List TypeP}(h:schT s≠ByteArray.empty)(hs:(schT s).size≤8000):outS (schT s)=(s,0):=by
 have hb:schemaB s=true:=by
  cases hb:schemaB s with
  | true=>rfl
  | false =>
   exfalso;apply h
   have:=schT_no hb
   exact ByteArray.ext (Array.eq_empty_of_size_eq_zero this)
 unfold outS
 rw[if_neg (by omega),read_schema hb,if_pos ⟨rfl,schT_ne hb⟩]
theorem notEmpty{t:ByteArray}(h:¬ t=⟨#[]⟩):t.toList.isEmpty=false:=by
 cases he:t.toList with
 | nil=>exact absurd (show t=⟨#[]⟩ from Selss.bytes_nil he) h
 | cons a l=>rfl
theorem isEmpty_:(⟨#[]⟩:ByteArray).toList.isEmpty=true:=by rw[Lib.toList_data];rfl
theorem docOk:Draws.DocOk:=fun w p len cap a A B sa sn sc s h1 h2 h3 h4 h5 h6 h7=>Draws.specDoc w p len cap a A B sa sn sc s h1 h2 h3 h4 h5 h6 h7
theorem drawD(W:World)(len cap:Nat)(a:Option Addr)(h:Draws.BytesAt W W.heap.size a len)(hsm:len≤140737488351232) :
  Calls Tryz.prog 4 #[.slice a len cap] W fun e w'=>(∃ a n ca b m cb d,e=.returned (.agg #[.slice a n ca,.slice b m cb])∧KD (.agg #[.slice a n ca,.slice b m cb]) d w')∧Below W.heap.size W w' :=
 (Draws.drawDocText docOk W len cap a h hsm).mono fun e w' ⟨⟨v,d,e1,hd⟩,hb⟩=>by
  have hd':=hd
  obtain ⟨a,ca,b,cb,hv,_⟩:=hd'
  subst hv
  exact⟨⟨a,_,ca,b,_,cb,d,e1,_,_,hd,Nat.le_refl _⟩,hb⟩
theorem drawS(W:World)(len cap:Nat)(a:Option Addr)(h:Draws.BytesAt W W.heap.size a len)(hsm:len≤140737488351232) :
  Calls Tryz.prog 9 #[.slice a len cap] W fun e w'=>(∃ a n ca s,e=.returned (.agg #[.slice a n ca])∧KS (.agg #[.slice a n ca]) s w')∧Below W.heap.size W w' :=
 (Draws.drawSchemaText W len cap a h hsm).mono fun e w' ⟨⟨s,v,_,e1,hd⟩,hb⟩=>by
  have hd':=hd
  obtain ⟨a,ca,hv,_⟩:=hd'
  subst hv
  exact⟨⟨a,_,ca,s,e1,_,hd.at_.wide (Nat.zero_le _) (Nat.le_refl _),Nat.le_refl _⟩,hb⟩
end Go.Proofs.YtmembhpoidcmlaaGreatDoor.TextL
