/-
  Contract: the model's DocRead answers what outP says, plain part. Conditions: a text of at most 2^20 bytes.
-/
import Derived.Test.YtmembhpoidcmlaaGreatDoorRows
import Derived.Test.YtmembhpoidcmlaaGreatDoorModRd
import Derived.Test.YtmembhpoidcmlaaGreatDoorOwnFrag
import Derived.Test.YtmembhpoidcmlaaGreatDoorImplDoc
import Derived.Lib.SplitLaws
import Derived.Test.YtmembhpoidcmlaaGreatDoorVars
import Derived.Test.YtmembhpoidcmlaaGreatDoorReadS
import Derived.Deep.RegionHeld3
import Derived.Test.YtmembhpoidcmlaaGreatDoorModRdB
namespace Go.Proofs.YtmembhpoidcmlaaGreatDoor.Selss
open Lib (hid)
open Go.RowKit Words Decs Splits
set_option linter.unusedVariables false
set_option maxRecDepth 100000
def GotF(L:List FragP)(W0 V:List Tok):Prop:=(∀ X,ReadsFrags X V↔ReadsFrags (L++X) W0)∧(∀ s,ReadsFrags s W0→∃ X,s=L++X)
theorem gotF_start(W0:List Tok):GotF [] W0 W0:=⟨fun _=>Iff.rfl,fun s _=>⟨s,rfl⟩⟩
theorem gotF_more{L:List FragP}{W0 V V1:List Tok}{x:FragP}(h:GotF L W0 V)(h1:ReadsFrag x V V1):GotF (L++[x]) W0 V1:=by
 have hne:V≠[]:=fun e=>by subst e;cases h1.1
 refine⟨fun X=>?_,fun s hs=>?_⟩
 ·rw[List.append_assoc,←h.1]
  refine⟨fun hx=>⟨V1,h1,hx⟩,?_⟩
  rintro⟨V2,h2,h3⟩
  obtain ⟨_,rfl⟩:=frag_one h1 h2
  exact h3
 ·obtain ⟨X,rfl⟩:=h.2 s hs
  have hx:=(h.1 X).2 hs
  cases X with
  | nil=>exact absurd hx hne
  | cons y X =>
   obtain ⟨V2,h2,h3⟩:=hx
   obtain ⟨rfl,_⟩:=frag_one h1 h2
   exact⟨X,by simp⟩
theorem gotF_end{L:List FragP}{W0:List Tok}(h:GotF L W0 []):ReadsFrags L W0:=by
 have:=(h.1 []).1 rfl
 rwa [List.append_nil] at this
theorem gotF_none{L:List FragP}{W0 V:List Tok}(h:GotF L W0 V)(hne:V≠[])(h1:¬ ∃ x W1,ReadsFrag x V W1):¬ ∃ s,ReadsFrags s W0:=by
 rintro⟨s,hs⟩
 obtain ⟨X,rfl⟩:=h.2 s hs
 have hx:=(h.1 X).2 hs
 cases X with
 | nil=>exact absurd hx hne
 | cons y X =>
  obtain ⟨V2,h2,_⟩:=hx
  exact h1 ⟨_,_,h2⟩
theorem readsDoc_none{W:List Tok}(h:¬ ∃ s W',word W=[123]∧Reads s (W.drop 1) W'):¬ ∃ d,ReadsDoc d W:=fun ⟨d,W',h1,h2,_⟩=>h ⟨_,W',h1,h2⟩
theorem readsDoc_none'{W W':List Tok}{s:Sels}(hr:Reads s (W.drop 1) W')(h:¬ ∃ l,ReadsFrags l W'):¬ ∃ d,ReadsDoc d W:=by
 rintro⟨d,W1,h1,h2,h3⟩
 obtain ⟨_,rfl⟩:=reads_one hr h2
 exact h ⟨_,h3⟩
def set2(w:World)(g:Nat)(v0 v1:Value):World:=(w.setCell ⟨g,0,none⟩ v0).setCell ⟨g,1,none⟩ v1
theorem set2_block{w:World}{g:Nat}{x0 x1:Value}{T:TypeId}(h:w.heap[g]?=some (.cells #[x0,x1] T (0,0)))(v0 v1:Value) :
  (set2 w g v0 v1).heap[g]?=some (.cells #[v0,v1] T (0,0)) :=
 heap_setCell_same _ g 1 _ _ _ (heap_setCell_same _ g 0 _ _ _ h)
theorem set2_below{B g:Nat}{a w:World}(h:Below B a w)(hg:B≤g)(v0 v1:Value):Below B a (set2 w g v0 v1) :=
 (h.setCell (p:=⟨g,0,none⟩) hg v0).setCell (p:=⟨g,1,none⟩) hg v1
theorem set2_size(w:World)(g:Nat)(v0 v1:Value):(set2 w g v0 v1).heap.size=w.heap.size:=by simp[set2]
theorem set2_other(w:World)(g:Nat)(v0 v1:Value)(c:Nat)(h:c≠g):(set2 w g v0 v1).heap[c]?=w.heap[c]?:=by
 unfold set2
 rw[Go.Deep.blk_setCell_other _ ⟨g,_,none⟩ _ c h,Go.Deep.blk_setCell_other _ ⟨g,_,none⟩ _ c h]
theorem RdI.at{w:World}{p cap k:Nat}{a:Option Addr}{W:List Tok}(h:RdI w p a cap W k):w.cell? ⟨p,1,none⟩=some (.int .i64 k)∧w.cell? ⟨p,0,none⟩=some (.slice a W.length cap)∧w.drew.cell? ⟨p,1,none⟩=some (.int .i64 k)∧w.drew.cell? ⟨p,0,none⟩=some (.slice a W.length cap) :=
 ⟨cell_of h.hd rfl,cell_of h.hd rfl,cell_of (w:=w.drew) h.hd rfl,cell_of (w:=w.drew) h.hd rfl⟩
noncomputable def rdAt(p:Nat)(w:World):Nat:=(intOf ((w.cell? ⟨p,1,none⟩).getD .nilIface)).toNat
theorem rdAt_of{w:World}{p cap k:Nat}{a:Option Addr}{W:List Tok}(h:RdI w p a cap W k):rdAt p w=k:=by
 unfold rdAt;rw[h.at.1];simp[intOf]
theorem RdI.drew{w:World}{p cap k:Nat}{a:Option Addr}{W:List Tok}(h:RdI w p a cap W k):RdI w.drew p a cap W k:=⟨h.hd,h.row,h.small,h.sizes⟩
def DocRes(w w':World)(p:Nat)(a:Option Addr)(cap:Nat)(W:List Tok)(e:Ending):Prop :=
 ∃ v err k',e=.returned (.tuple #[v,err])∧OnlyP p w w'∧k'≤W.length∧RdI w' p a cap W k' ∧
  ((err=.nilIface∧∃ d,DocX w' w.heap.size w'.heap.size v d∧ReadsDoc d W)∨(err=(.iface 116 (.agg #[.int .i64 3]))∧v=.agg #[.slice none 0 0,.slice none 0 0]∧¬ ∃ d,ReadsDoc d W))
set_option maxHeartbeats 4000000 in
theorem docOk(w:World)(p cap:Nat)(a:Option Addr)(W:List Tok)(hR:RdI w p a cap W 0)(hv:Vars p w) :
  Calls Tryz.prog 70 #[.pointer (some ⟨p,0,none⟩)] w fun e w'=>DocRes w w' p a cap W e:=by
 have hplt:=hR.lt
 have hsm:=hR.small
 have HV:=hid hv
 have HA:Hid (∀ o,Below w.heap.size w (w.alloc o)):=hid fun o=>(Below.refl _ _).alloc (Nat.le_refl _) o
 have HR0:Hid (∀ o,RdI (w.alloc o) p a cap W 0):=hid fun o=>hR.below hplt (HA.out o)
 have HV0:Hid (∀ o,Vars p (w.alloc o)):=hid fun o=>hv.on ((HA.out o).mono (by omega))
 clear hv hR
 go_enter Tryz.func70,Tryz.ntmps70
 go_wp2_with fail
 refine(blockOk (W.length+1) _ p cap 0 a W (by omega) (HR0.out _) (by omega) (HV0.out _)).mono ?_
 rintro e w1 ⟨v,err,k1,rfl,ho,g1,g2,hR1,hcase⟩
 have hr:=(ho.block w.heap.size (by simp) (by omega)).trans (heap_alloc_new w _)
 have OF:=hid (((OnlyP.refl p w).below (Nat.le_refl _) (HA.out _)).trans ho)
 have RF:=hid hR1
 have hz1:=lt_of_get hr
 rw[show ∀ o,(w.alloc o).heap.size=w.heap.size+1 from fun o=>by simp] at hcase
 clear ho hR1
 rcases hcase with ⟨rfl,s,a',cap',rfl,hsx,hwd,hreads,hlt⟩|⟨rfl,rfl,hno⟩
 ·have HX:=hid hsx
  have HRd:=hid (And.intro hwd hreads)
  have hlen:=hsx.2.1
  clear hsx hwd hreads
  have ⟨⟨e0,e1⟩,p0,p1⟩:=keep2 hr
  have hg0:Hid ((w1.alloc (.cells #[.slice a' s.len cap',.slice none 0 0] 26)).heap[w1.heap.size]?=some (.cells #[.slice a' s.len cap',.slice none 0 0] 26 (0,0))):=hid (heap_alloc_new w1 _)
  have HA1:Hid (Below w1.heap.size w1 (w1.alloc (.cells #[.slice a' s.len cap',.slice none 0 0] 26))):=hid ((Below.refl _ _).alloc (Nat.le_refl _) _)
  have hr0:Hid ((w1.alloc (.cells #[.slice a' s.len cap',.slice none 0 0] 26)).heap[w.heap.size]?=_):=hid ((HA1.out.block w.heap.size hz1).trans hr)
  have hsz1:Hid ((w1.alloc (.cells #[.slice a' s.len cap',.slice none 0 0] 26)).heap.size=w1.heap.size+1):=hid (by simp)
  have OF1:=hid (OF.out.below (by omega) HA1.out)
  have RF1:=hid (RF.out.below RF.out.lt HA1.out)
  have HX1:=hid (HX.out.below (Nat.le_refl _) HA1.out)
  clear hr
  go_wp2_with fail
  clear e0 e1 p0 p1 OF RF HX HA1
  generalize w1.alloc (.cells #[.slice a' s.len cap',.slice none 0 0] 26)=wd at *
  generalize hg:w1.heap.size=g at *
  clear hg w1
  go_loopw [] (fun wr=>∃ (L:List RowF) (kc:Nat) (v:Value),k1+L.length≤kc∧kc≤W.length∧Hid (GotF (L.map RowF.frag) (W.drop k1) (W.drop kc))∧OwnFrag wr (g+1) v L∧RdI wr p a cap W kc∧OnlyP p w wr∧Hid (wr.heap[w.heap.size]?=some (.cells #[.slice none 0 0,.slice none 0 0] 26 (0,0)))∧Hid (wr.heap[g]?=some (.cells #[.slice a' s.len cap',v] 26 (0,0)))∧SelsX wr (w.heap.size+1) g a' s.len s) (fun wr=>W.length - rdAt p wr)
  case atStart=>exact⟨[],k1,_,by simp,g2,hid (gotF_start _),OwnFrag.none_ _ _,RF1.out,OF1.out,hr0,hg0,HX1.out⟩
  case round =>
   obtain ⟨L,kc,v,hlk,hkc,hgot,hown,hR,hO,hr,hs,hx⟩:=hrel
   have HOW:=hid hown
   have HR:=hid hR
   have HO:=hid hO
   have HX:=hid hx
   have hz:=hO.size
   have hgz:=lt_of_get hs.out
   have ⟨c1,c0,d1,d0⟩:=hR.at
   have hmz:Hid (rdAt p wr=kc):=hid (rdAt_of hR)
   clear hown hR hO hx hr0 hg0 OF1 RF1 HX1
   by_cases hlt2:kc<W.length
   ·have hli:(kc:Int)<(W.length:Int):=by omega
    have HNE:Hid (W.drop kc≠[]):=hid fun e=>by have:=congrArg List.length e;simp at this;omega
    go_wp2_with fail
    go_region
    go_wp2_with fail
    refine(fragOk wr.drew p cap kc a W (RdI.drew HR.out) hkc ((HO.out.vars hplt HV.out).on ((Below.refl p wr).drew))).mono ?_
    rintro e w2 ⟨nm,on,a2,cap2,s2,err,kx,rfl,ho2,h1,h2,hR2,hcase⟩
    have ho2':OnlyP p wr w2:=((OnlyP.refl p wr).below (Nat.le_refl _) ((Below.refl wr.heap.size wr).drew)).trans ho2
    replace hr:=hid ((ho2'.block w.heap.size (by omega) (by omega)).trans hr.out)
    replace hs:=hid ((ho2'.block g hgz (by omega)).trans hs.out)
    have HO2:=hid (HO.out.trans ho2')
    have HR2:=hid hR2
    have HOW2:=hid (HOW.out.frame ho2'.size (fun c c1 c2=>ho2'.block c c2 (by omega)))
    have HLT:Hid (∀ g,v.ownBlock=some g→g<wr.heap.size):=hid fun g hg=>(HOW.out.own.lt g hg).2
    have HX2:=hid (HX.out.block fun c x1 x2=>ho2'.block c (by omega) (by omega))
    have hz2:=ho2'.size
    have HHI:Hid (∀ q∈L,q.hi≤wr.heap.size):=hid fun q hq=>(HOW.out.ok q hq).2.2.1
    rcases hcase with ⟨rfl,hsx,hok,hro,hlt3⟩|⟨rfl,hno⟩
    ·have HSX:Hid (SelsX w2 wr.heap.size w2.heap.size a2 s2.len s2):=hid hsx
     have HOK:=hid hok
     have HRO:=hid hro
     clear hsx hok hro ho2 ho2' hR2
     have hb3:Below w2.heap.size w2 ((w2.alloc (.cells #[.string nm,.string on,.slice a2 s2.len cap2] 51)).alloc (.cells #[.string nm,.string on,.slice a2 s2.len cap2] 51)):=((Below.refl _ w2).alloc (Nat.le_refl _) _).alloc (by simp) _
     have HC3:Hid (((w2.alloc (.cells #[.string nm,.string on,.slice a2 s2.len cap2] 51)).alloc (.cells #[.string nm,.string on,.slice a2 s2.len cap2] 51)).heap[w2.heap.size+1]?=some (.cells (RowF.cells ⟨nm,on,a2,cap2,s2,wr.heap.size,w2.heap.size⟩).toArray 51 (0,0))):=hid (by
      have:=heap_alloc_new (w2.alloc (.cells #[.string nm,.string on,.slice a2 s2.len cap2] 51)) (.cells #[.string nm,.string on,.slice a2 s2.len cap2] 51)
      rw[show (w2.alloc (.cells #[.string nm,.string on,.slice a2 s2.len cap2] 51)).heap.size=w2.heap.size+1 by simp] at this
      exact this)
     have HOW3:=hid (HOW2.out.frame hb3.size (fun c _ c2=>hb3.block c c2))
     have HX3:=hid (HX2.out.below (by omega) hb3)
     have HSX3:=hid (HSX.out.below (Nat.le_refl _) hb3)
     have hz3:=hb3.size
     have hL:L.length+1≤8001:=by omega
     have HO3:=hid (HO2.out.below (Nat.le_trans hz hz2) hb3)
     have HR3:=hid (HR2.out.below HR2.out.lt hb3)
     have hr3:=hid ((hb3.block w.heap.size (by omega)).trans hr.out)
     have hs3:=hid ((hb3.block g (by omega)).trans hs.out)
     have hs2:=hid (((Below.refl w2.heap.size w2).alloc (Nat.le_refl _) (.cells #[.string nm,.string on,.slice a2 s2.len cap2] 51)).block g (by omega) |>.trans hs.out)
     have ⟨⟨e0,e1⟩,p0,p1⟩:=keep2 hs2.out
     have ⟨⟨s0,s1⟩,q0,q1⟩:=keep2 hs3.out
     have hne1:g≠w2.heap.size:=by omega
     clear hb3 c0 c1 d0 d1
     go_wp2_with (at_builtin;refine app_frag rfl _ _ rfl (g+1) v L rfl HOW3.out (w2.heap.size+1) 1 rfl ⟨nm,on,a2,cap2,s2,wr.heap.size,w2.heap.size⟩ HC3.out ⟨⟨HOK.out,HSX3.out⟩,hgz,hz3,fun g hg=>.inl (HLT.out g hg)⟩ HHI.out (by omega) (by omega) ?_;intro v4 w4 hown4 hb4;obtain ⟨a4,n4,cap4,rfl⟩:∃ a4 n4 cap4,v4=.slice a4 n4 cap4:=(let ⟨x,y,h⟩:=hown4.len;⟨x,_,y,h⟩);have hs4:=(hb4.block g (by omega)).trans hs3.out;have ⟨⟨t0,t1⟩,r0,r1⟩:=keep2 hs4)
     have hoth:∀ c,c≠g→(w4.setCell ⟨g,1,none⟩ (.slice a4 n4 cap4)).heap[c]?=w4.heap[c]?:=fun c hc=>Go.Deep.blk_setCell_other _ ⟨g,_,none⟩ _ c hc
     have hr5:=hid ((hoth w.heap.size (by omega)).trans ((hb4.block w.heap.size (by omega)).trans hr3.out))
     have hs5:Hid ((w4.setCell ⟨g,1,none⟩ (.slice a4 n4 cap4)).heap[g]?=some (.cells #[.slice a' s.len cap',(.slice a4 n4 cap4)] 26 (0,0))):=hid (heap_setCell_same w4 g 1 _ _ _ hs4)
     have hO4:=HO3.out.below (by omega) hb4
     have HO5:=hid (hO4.put (g:=g) (j:=1) (by omega) (.slice a4 n4 cap4))
     have HR4:=hid (HR3.out.below (B:=g+1) (by omega) hb4)
     have HR5:=hid (Rd.put HR4.out (g:=g) (j:=1) (by omega) (.slice a4 n4 cap4))
     have HOW5:=hid (hown4.frame (w':=w4.setCell ⟨g,1,none⟩ (.slice a4 n4 cap4)) (by simp) (fun c x1 x2=>hoth c (by omega)))
     have HX5:=hid ((HX3.out.below (C:=g+1) (by omega) hb4).block fun c x1 x2=>hoth c (by omega))
     have HG5:=hid (gotF_more hgot.out HRO.out)
     have hm1:rdAt p (w4.setCell ⟨g,1,none⟩ (.slice a4 n4 cap4))=kx:=rdAt_of HR5.out
     go_roundw
     case rel=>exact⟨L++[⟨nm,on,a2,cap2,s2,wr.heap.size,w2.heap.size⟩],kx,(.slice a4 n4 cap4),by simp;omega,h2,hid (by rw[List.map_append];exact HG5.out),HOW5.out,HR5.out,HO5.out,hr5,hs5,HX5.out⟩
     case measure=>rw[hm1,hmz.out];omega
    ·have HNO:=hid (gotF_none hgot.out HNE.out hno)
     have HAF:=hid ((Below.refl w2.heap.size w2).alloc (Nat.le_refl _) (.cells #[.string nm,.string on,.slice a2 s2.len cap2] 51))
     have hrF:=hid ((HAF.out.block w.heap.size (by omega)).trans hr.out)
     have HN:Hid (¬ ∃ d,ReadsDoc d W):=hid (readsDoc_none' HRd.out.2 HNO.out)
     have OF:=hid (HO2.out.below (by omega) HAF.out)
     have RF:=hid (HR2.out.below HR2.out.lt HAF.out)
     have HFX:=hid (set2_block hrF.out (.slice none 0 0) (.slice none 0 0))
     have HOF:=hid (OF.out.below (Nat.le_refl _) (set2_below (Below.refl _ _) (g:=w.heap.size) (Nat.le_refl _) (.slice none 0 0) (.slice none 0 0)))
     have HRF:=hid (RF.out.below (B:=p+1) (Nat.lt_succ_self _) (set2_below (Below.refl _ _) (g:=w.heap.size) hplt (.slice none 0 0) (.slice none 0 0)))
     have ⟨⟨e0,e1⟩,p0,p1⟩:=keep2 hr.out
     have ⟨⟨s0,s1⟩,q0,q1⟩:=keep2 hrF.out
     clear hno ho2 ho2' hR2 hr hs c0 c1 d0 d1
     go_wp2_with fail
     change bodyPost _ _ _ _ _ (set2 (w2.alloc (.cells #[.string nm,.string on,.slice a2 s2.len cap2] 51)) w.heap.size (.slice none 0 0) (.slice none 0 0))
     generalize set2 (w2.alloc (.cells #[.string nm,.string on,.slice a2 s2.len cap2] 51)) w.heap.size (.slice none 0 0) (.slice none 0 0)=WF at *
     have ⟨⟨f0,f1⟩,_⟩:=keep2 HFX.out
     exact bodyPost_ret (v:=.tuple #[.agg #[.slice none 0 0,.slice none 0 0],.iface 116 (.agg #[.int .i64 3])]) (by simp[results,Tryz.results70,go_sem,f0,f1]) rfl ⟨_,_,kx,rfl,HOF.out,h2,HRF.out,.inr ⟨rfl,rfl,HN.out⟩⟩
   ·obtain rfl:kc=W.length:=by omega
    have hli:¬ (W.length:Int)<(W.length:Int):=by omega
    obtain ⟨a5,cap5,rfl,hcl,hfx⟩:=HOW.out.fragsX (by omega) (by omega)
    have ⟨⟨s0,s1⟩,q0,q1⟩:=keep2 (w1:=wr.drew) hs.out
    have ⟨⟨e0,e1⟩,p0,p1⟩:=keep2 (w1:=wr.drew) hr.out
    have OF:=hid (HO.out.below (Nat.le_refl _) ((Below.refl w.heap.size wr).drew))
    have hrd:wr.drew.heap[w.heap.size]?=_:=hr.out
    have HFX:=hid (set2_block hrd (.slice a' s.len cap') (.slice a5 L.length cap5))
    have HOF:=hid (OF.out.below (Nat.le_refl _) (set2_below (Below.refl _ _) (g:=w.heap.size) (Nat.le_refl _) (.slice a' s.len cap') (.slice a5 L.length cap5)))
    have HRF:=hid ((RdI.drew HR.out).below (B:=p+1) (Nat.lt_succ_self _) (set2_below (Below.refl _ _) (g:=w.heap.size) hplt (.slice a' s.len cap') (.slice a5 L.length cap5)))
    have HXF:=hid (HX.out.block (w':=set2 wr.drew w.heap.size (.slice a' s.len cap') (.slice a5 L.length cap5)) fun c x1 x2=>set2_other wr.drew w.heap.size _ _ c (by omega))
    have HFF:=hid (hfx.block (w':=set2 wr.drew w.heap.size (.slice a' s.len cap') (.slice a5 L.length cap5)) fun c x1 x2=>set2_other wr.drew w.heap.size _ _ c (by omega))
    have HSZ:Hid ((set2 wr.drew w.heap.size (.slice a' s.len cap') (.slice a5 L.length cap5)).heap.size=wr.heap.size):=hid (by rw[set2_size];rfl)
    have HDX:Hid (DocX (set2 wr.drew w.heap.size (.slice a' s.len cap') (.slice a5 L.length cap5)) w.heap.size (set2 wr.drew w.heap.size (.slice a' s.len cap') (.slice a5 L.length cap5)).heap.size (.agg #[.slice a' s.len cap',.slice a5 L.length cap5]) ⟨s,L.map RowF.frag⟩):=Lib.hid
     ⟨a',cap',a5,cap5,g+1,by simp,HXF.out.wide (by omega) (by omega),by rw[HSZ.out];simpa using HFF.out,by simpa using hcl⟩
    have HRX:Hid (ReadsDoc ⟨s,L.map RowF.frag⟩ W):=hid ⟨W.drop k1,HRd.out.1,HRd.out.2,gotF_end (by have:=hgot.out;rwa [List.drop_length] at this)⟩
    have hX0:(wr.setCell ⟨w.heap.size,0,none⟩ (.slice a' s.len cap')).drew.heap[w.heap.size]?=some (.cells #[.slice a' s.len cap',.slice none 0 0] 26 (0,0)):=heap_setCell_same wr w.heap.size 0 _ _ _ hr.out
    have ⟨⟨x0,x1⟩,y0,y1⟩:=keep2 hX0
    clear hfx hrd hr hX0
    go_wp2_with fail
    go_region
    go_wp2_with fail
    change bodyPost _ _ _ _ _ (set2 wr.drew w.heap.size (.slice a' s.len cap') (.slice a5 L.length cap5))
    generalize set2 wr.drew w.heap.size (.slice a' s.len cap') (.slice a5 L.length cap5)=WF at *
    have ⟨⟨f0,f1⟩,_⟩:=keep2 HFX.out
    exact bodyPost_ret (v:=.tuple #[.agg #[.slice a' s.len cap',.slice a5 L.length cap5],.nilIface]) (by simp[results,Tryz.results70,go_sem,f0,f1]) rfl ⟨_,_,W.length,rfl,HOF.out,Nat.le_refl _,HRF.out,.inl ⟨rfl,_,HDX.out,HRX.out⟩⟩
 ·have HN:=hid (readsDoc_none hno)
  have HFX:=hid (set2_block hr (.slice none 0 0) (.slice none 0 0))
  have HOF:=hid (OF.out.below (Nat.le_refl _) (set2_below (Below.refl _ _) (g:=w.heap.size) (Nat.le_refl _) (.slice none 0 0) (.slice none 0 0)))
  have HRF:=hid (RF.out.below (B:=p+1) (Nat.lt_succ_self _) (set2_below (Below.refl _ _) (g:=w.heap.size) hplt (.slice none 0 0) (.slice none 0 0)))
  have ⟨⟨e0,e1⟩,p0,p1⟩:=keep2 hr
  clear hno hr
  go_wp2_with fail
  change bodyPost _ _ _ _ _ (set2 w1 w.heap.size (.slice none 0 0) (.slice none 0 0))
  generalize set2 w1 w.heap.size (.slice none 0 0) (.slice none 0 0)=WF at *
  have ⟨⟨f0,f1⟩,_⟩:=keep2 HFX.out
  exact bodyPost_ret (v:=.tuple #[.agg #[.slice none 0 0,.slice none 0 0],.iface 116 (.agg #[.int .i64 3])]) (by simp[results,Tryz.results70,go_sem,f0,f1]) rfl ⟨_,_,k1,rfl,HOF.out,g2,HRF.out,.inr ⟨rfl,rfl,HN.out⟩⟩
theorem splitK_L:∀(n:Nat)(s:Tok),s.length<n→Lib.splitK [32] 0 (Lib.count s [32]) s=splitL 32 s:=by
 intro n
 induction n with
 | zero=>intro s h;omega
 | succ n ih =>
  intro s hs
  by_cases hm:(32:UInt8)∈s
  ·obtain ⟨a,b,rfl,ha⟩:=List.eq_append_cons_of_mem hm
   have hi:Lib.index (a++32::b) [32]=(a.length:Int):=index_word ha
   have hd:(a++32::b).drop (a.length + [(32:UInt8)].length)=b:=by simp
   rw[Lib.count_hit (by simp) hi,hd,Nat.add_comm,splitL_word ha]
   unfold Lib.splitK
   rw[hi,if_neg (by simp),show ((a.length:Int)).toNat=a.length from rfl,hd,ih b (by simp at hs;omega)]
   simp
  ·have hi:=index_none hm
   rw[Lib.count_miss hi,splitL_last hm];rfl
theorem splitB_L(t:ByteArray):(Lib.splitB ⟨#[32]⟩ 0 (Lib.countB t ⟨#[32]⟩) t).map bl=splitL 32 (bl t):=by
 have h:=Lib.splitB_data ⟨#[32]⟩ 0 (Lib.countB t ⟨#[32]⟩) t
 exact h.trans (splitK_L _ _ (Nat.lt_succ_self _))
theorem implClone(s:ByteArray)(hs:s.size≤8000)(w:World):Calls Tryz.prog 69 #[.string s] w fun e w'=>e=.returned (.string s)∧Below w.heap.size w w':=by
 go_enter Tryz.func69,Tryz.ntmps69
 go_wp2_with fail
 refine(Tryz.stringslite_Clone s _ (by omega)).mono ?_
 rintro e w1 ⟨rfl,hb⟩
 go_wp2_with fail
 go_ret
 exact⟨rfl,hb⟩
theorem rd_made{w:World}{t:ByteArray}(ht:t.size≤8000){b:Nat}(hb:w.heap[b]?=some (.cells ((Lib.splitB ⟨#[32]⟩ 0 (Lib.countB t ⟨#[32]⟩) t).map Value.string).toArray 9 (0,0))) :
  RdI (w.alloc (.cells #[.slice (some ⟨b,0,none⟩) (Lib.countB t ⟨#[32]⟩+1) (Lib.countB t ⟨#[32]⟩+1),.int .i64 0] 113)) w.heap.size (some ⟨b,0,none⟩) (Lib.countB t ⟨#[32]⟩+1) (splitL 32 (bl t)) 0:=by
 have hlen:=Lib.splitB_all ⟨#[32]⟩ (by decide) 0 _ t rfl
 have hl2:(splitL 32 (bl t)).length=Lib.countB t ⟨#[32]⟩+1:=by rw[←splitB_L,List.length_map,hlen]
 have hbl:(bl t).length=t.size:=by simp[bl]
 have hbz:=lt_of_get hb
 refine⟨by rw[hl2];exact heap_alloc_new w _,fun i x hx=>?_,by have:=splitL_len 32 (bl t);omega,fun x hx=>by have:=splitL_sizes 32 (bl t) x hx;omega⟩
 refine⟨b,0,rfl,hbz,?_⟩
 rw[←splitB_L,List.getElem?_map] at hx
 obtain ⟨y,hy,rfl⟩:=Option.map_eq_some_iff.1 hx
 have h1:(w.alloc (.cells #[.slice (some ⟨b,0,none⟩) (Lib.countB t ⟨#[32]⟩+1) (Lib.countB t ⟨#[32]⟩+1),.int .i64 0] 113)).heap[b]?=_:=(((Below.refl w.heap.size w).alloc (Nat.le_refl _) _).block b hbz).trans hb
 rw[Nat.zero_add]
 exact cell_of h1 (by simp[hy,bl])
def placedF(at_:Nat):Value:=.iface 118 (.agg #[.int .i64 at_,.iface 116 (.agg #[.int .i64 3])])
def ReadRes(w w':World)(t:ByteArray)(e:Ending):Prop :=
 ∃ v err,e=.returned (.tuple #[v,err])∧Below w.heap.size w w' ∧
  ((err=.nilIface∧∃ d,docB d=true∧ReadsDoc d (splitL 32 (bl t))∧DocX w' w.heap.size w'.heap.size v d) ∨
  ((∃ k,err=placedF k)∧v=.agg #[.slice none 0 0,.slice none 0 0]∧¬ ∃ d,docB d=true∧ReadsDoc d (splitL 32 (bl t))))
set_option maxHeartbeats 4000000 in
theorem implReadDoc(t:ByteArray)(ht:t.size≤8000)(w:World)(B:Nat)(hv:Vars B w)(hB:B≤w.heap.size) :
  Calls Tryz.prog 39 #[.string t] w fun e w'=>ReadRes w w' t e:=by
 have HV:=hid hv
 have HA:Hid (∀ o,Below w.heap.size w (w.alloc o)):=hid fun o=>(Below.refl _ _).alloc (Nat.le_refl _) o
 have htb:t.size<4294967281:=by omega
 go_enter Tryz.func39,Tryz.ntmps39
 go_wp2_with fail
 refine(implClone t ht _).mono ?_
 rintro e w1 ⟨rfl,hb1⟩
 have hr:=(hb1.block w.heap.size (by simp)).trans (heap_alloc_new w _)
 have HB1:=hid ((HA.out _).trans (hb1.mono (HA.out _).size))
 obtain ⟨m,hm⟩:=(HV.out.on (HB1.out.mono hB)).here.max
 clear hb1
 go_wp2_with fail
 refine(Tryz.strings_Split t ⟨#[32]⟩ m w1 htb hm (by decide)).mono ?_
 rintro e w2 ⟨rfl,rfl⟩
 clear hm
 go_wp2_with fail
 have hbw:=heap_alloc_new w1 (.cells ((Lib.splitB ⟨#[32]⟩ 0 (Lib.countB t ⟨#[32]⟩) t).map Value.string).toArray 9)
 have hA1:Below w1.heap.size w1 (w1.alloc (.cells ((Lib.splitB ⟨#[32]⟩ 0 (Lib.countB t ⟨#[32]⟩) t).map Value.string).toArray 9)):=(Below.refl _ _).alloc (Nat.le_refl _) _
 have hsz2:(w1.alloc (.cells ((Lib.splitB ⟨#[32]⟩ 0 (Lib.countB t ⟨#[32]⟩) t).map Value.string).toArray 9)).heap.size=w1.heap.size+1:=by simp
 generalize w1.alloc (.cells ((Lib.splitB ⟨#[32]⟩ 0 (Lib.countB t ⟨#[32]⟩) t).map Value.string).toArray 9)=w2 at *
 have HRM:=hid (rd_made ht hbw)
 have hA2:Below w2.heap.size w2 (w2.alloc (.cells #[.slice (some ⟨w1.heap.size,0,none⟩) (Lib.countB t ⟨#[32]⟩+1) (Lib.countB t ⟨#[32]⟩+1),.int .i64 0] 113)):=(Below.refl _ _).alloc (Nat.le_refl _) _
 generalize w2.alloc (.cells #[.slice (some ⟨w1.heap.size,0,none⟩) (Lib.countB t ⟨#[32]⟩+1) (Lib.countB t ⟨#[32]⟩+1),.int .i64 0] 113)=w3 at *
 rw[←hsz2]
 have hz1:=lt_of_get hr
 generalize hp:w2.heap.size=p at *
 have hb13:Below w1.heap.size w1 w3:=hA1.trans (hA2.mono (by omega))
 replace hr:=(hb13.block w.heap.size hz1).trans hr
 have HB3:=hid (HB1.out.trans (hb13.mono (by omega)))
 have hz3:=HRM.out.lt
 have hwp:w.heap.size<p:=by omega
 clear hbw hA1 hA2 hb13 hsz2
 refine(docOk w3 p _ _ (splitL 32 (bl t)) HRM.out ((HV.out.on (HB3.out.mono hB)).mono (by omega))).mono ?_
 rintro e w4 ⟨v,err,k,rfl,ho,hk,hR4,hcase⟩
 replace hr:=(ho.block w.heap.size (by omega) (by omega)).trans hr
 have HB4:=hid (HB3.out.trans (ho.toBelow (B:=w.heap.size) (by omega) (by omega)))
 have hz4:=ho.size
 have HR4:=hid hR4
 clear ho hR4 HRM
 rcases hcase with ⟨rfl,d,hdx,hrd⟩|⟨rfl,rfl,hno⟩
 ·have HRD:=hid hrd
  obtain ⟨a2,n2,c2,b2,m2,e2,rfl⟩:∃ a n c b m e,v=.agg #[.slice a n c,.slice b m e]:=(let ⟨a,ca,b,cb,M,hv,_⟩:=hdx;⟨_,_,_,_,_,_,hv⟩)
  have hA4:Below w4.heap.size w4 (w4.alloc (.cells #[.slice a2 n2 c2,.slice b2 m2 e2] 26)):=(Below.refl _ _).alloc (Nat.le_refl _) _
  have HDX:=hid (hdx.below (Nat.le_refl _) hA4)
  have HB5:=hid (HB4.out.trans (hA4.mono (by omega)))
  have HR5:=hid (HR4.out.below HR4.out.lt hA4)
  have hr5:(w4.alloc (.cells #[.slice a2 n2 c2,.slice b2 m2 e2] 26)).heap[w.heap.size]?=_:=(hA4.block w.heap.size (by omega)).trans hr
  have hz5:=hA4.size
  have hd5:=heap_alloc_new w4 (.cells #[.slice a2 n2 c2,.slice b2 m2 e2] 26)
  clear hdx hrd hA4 hr
  go_wp2_with fail
  refine(implDocRight (w4.alloc (.cells #[.slice a2 n2 c2,.slice b2 m2 e2] 26)) w3.heap.size w4.heap.size _ d HDX.out.doc (by simp)).mono ?_
  rintro e w6 ⟨rfl,hb6⟩
  have hr:=(hb6.block w.heap.size (by omega)).trans hr5
  have hd6:=(hb6.block w4.heap.size (lt_of_get hd5)).trans hd5
  have ⟨⟨x0,x1⟩,y0,y1⟩:=keep2 hd6
  have BF:=hid (HB5.out.trans (hb6.mono (by omega)))
  have HDX6:=hid (HDX.out.below (by omega) hb6)
  have HR6:=hid (HR5.out.below HR5.out.lt hb6)
  have hz6:=hb6.size
  have ⟨c1,c0,d1,d0⟩:=RdI.at HR6.out
  clear hb6 hr5 hd5 hd6
  obtain ⟨db,hdb⟩:∃ b,docB d=b:=⟨_,rfl⟩
  rw[hdb]
  have HDB:=hid hdb
  clear hdb
  cases db
  ·have HFX:=hid (set2_block hr (.slice none 0 0) (.slice none 0 0))
   have HBF:=hid (set2_below BF.out (g:=w.heap.size) (Nat.le_refl _) (.slice none 0 0) (.slice none 0 0))
   have ⟨⟨e0,e1⟩,p0,p1⟩:=keep2 hr
   clear hr
   go_wp2_with fail
   go_region
   go_wp2_with fail
   change bodyPost _ _ _ _ _ (set2 w6 w.heap.size (.slice none 0 0) (.slice none 0 0)).drew
   generalize set2 w6 w.heap.size (.slice none 0 0) (.slice none 0 0)=WF at *
   have ⟨⟨f0,f1⟩,_⟩:=keep2 (w1:=WF.drew) HFX.out
   exact bodyPost_ret (v:=.tuple #[.agg #[.slice none 0 0,.slice none 0 0],.iface 118 (.agg #[.int .i64 k,.iface 116 (.agg #[.int .i64 3])])]) (by simp[results,Tryz.results39,go_sem,f0,f1]) rfl ⟨_,_,rfl,HBF.out.drew,.inr ⟨⟨k,rfl⟩,rfl,fun ⟨d2,g1,g2⟩=>by rw[doc_one g2 HRD.out,HDB.out] at g1;cases g1⟩⟩
  ·have HFX:=hid (set2_block hr (.slice a2 n2 c2) (.slice b2 m2 e2))
   have HBF:=hid (set2_below BF.out (g:=w.heap.size) (Nat.le_refl _) (.slice a2 n2 c2) (.slice b2 m2 e2))
   have HDF:Hid (DocX (set2 w6 w.heap.size (.slice a2 n2 c2) (.slice b2 m2 e2)) w.heap.size (set2 w6 w.heap.size (.slice a2 n2 c2) (.slice b2 m2 e2)).heap.size (.agg #[.slice a2 n2 c2,.slice b2 m2 e2]) d):=hid ((HDX6.out.block (w':=set2 w6 w.heap.size (.slice a2 n2 c2) (.slice b2 m2 e2)) fun c x1 x2=>set2_other w6 w.heap.size _ _ c (by omega)).wide (by omega) (by rw[set2_size];omega))
   have ⟨⟨e0,e1⟩,p0,p1⟩:=keep2 hr
   clear hr
   go_wp2_with fail
   change bodyPost _ _ _ _ _ (set2 w6 w.heap.size (.slice a2 n2 c2) (.slice b2 m2 e2))
   generalize set2 w6 w.heap.size (.slice a2 n2 c2) (.slice b2 m2 e2)=WF at *
   have ⟨⟨f0,f1⟩,_⟩:=keep2 HFX.out
   exact bodyPost_ret (v:=.tuple #[.agg #[.slice a2 n2 c2,.slice b2 m2 e2],.nilIface]) (by simp[results,Tryz.results39,go_sem,f0,f1]) rfl ⟨_,_,rfl,HBF.out,.inl ⟨rfl,d,HDB.out,HRD.out,HDF.out⟩⟩
 ·have HN:=hid hno
  have hA4:Below w4.heap.size w4 (w4.alloc (.cells #[.slice none 0 0,.slice none 0 0] 26)):=(Below.refl _ _).alloc (Nat.le_refl _) _
  have BF:=hid (HB4.out.trans (hA4.mono (by omega)))
  replace hr:(w4.alloc (.cells #[.slice none 0 0,.slice none 0 0] 26)).heap[w.heap.size]?=_:=(hA4.block w.heap.size (by omega)).trans hr
  have HR5:=hid (HR4.out.below HR4.out.lt hA4)
  have ⟨c1,c0,d1,d0⟩:=RdI.at HR5.out
  clear hno hA4
  have HFX:=hid (set2_block hr (.slice none 0 0) (.slice none 0 0))
  have HBF:=hid (set2_below BF.out (g:=w.heap.size) (Nat.le_refl _) (.slice none 0 0) (.slice none 0 0))
  have ⟨⟨e0,e1⟩,p0,p1⟩:=keep2 hr
  clear hr
  go_wp2_with fail
  go_region
  go_wp2_with fail
  change bodyPost _ _ _ _ _ (set2 (w4.alloc (.cells #[.slice none 0 0,.slice none 0 0] 26)) w.heap.size (.slice none 0 0) (.slice none 0 0)).drew
  generalize set2 (w4.alloc (.cells #[.slice none 0 0,.slice none 0 0] 26)) w.heap.size (.slice none 0 0) (.slice none 0 0)=WF at *
  have ⟨⟨f0,f1⟩,_⟩:=keep2 (w1:=WF.drew) HFX.out
  exact bodyPost_ret (v:=.tuple #[.agg #[.slice none 0 0,.slice none 0 0],.iface 118 (.agg #[.int .i64 k,.iface 116 (.agg #[.int .i64 3])])]) (by simp[results,Tryz.results39,go_sem,f0,f1]) rfl ⟨_,_,rfl,HBF.out.drew,.inr ⟨⟨k,rfl⟩,rfl,fun ⟨d2,g1,g2⟩=>HN.out ⟨d2,g2⟩⟩⟩
end Go.Proofs.YtmembhpoidcmlaaGreatDoor.Selss
namespace Go.Proofs.YtmembhpoidcmlaaGreatDoor.ErrAs
open Lib (hid)
open Go.RowKit Go.Extern.Stop Go.Stop Go.Extern
set_option linter.unusedVariables false
set_option maxRecDepth 100000
theorem typeOfQ(v:Value)(w:World):(ReflectliteType.typeOf #[.iface 118 v]).run Tryz.prog w=.ok (.iface 177 (.agg #[.pointer (some ⟨9,118,none⟩)])) w:=by kernel_rfl
theorem assignableQ (w : World) : (ReflectliteType.relation "AssignableTo" ReflectliteType.assignableTo #[.agg #[.pointer (some ⟨9, 118, none⟩)], .iface 177 (.agg #[.pointer (some ⟨9, 116, none⟩)])]).run Tryz.prog w = .ok (.bool false) w := by kernel_rfl
theorem mUnwrap (a : Int) (x : Value) (w : World) : (Go.method 371 118 (.agg #[.int .i64 a, x]) "Unwrap").run Tryz.prog w = .ok (188, .agg #[.int .i64 a, x]) w := by kernel_rfl
theorem noAs(v:Value)(xT:TypeId)(w:World):(Instr.typeAssert (.iface 118 v) xT 182 true).run Tryz.prog w=.ok (.tuple #[.nilIface,.bool false]) w:=run_typeAssert_lacksB Tryz.underlying182 (by kernel_rfl) (by kernel_rfl) v xT w
theorem hasUnwrap(v:Value)(xT:TypeId)(w:World):(Instr.typeAssert (.iface 118 v) xT 185 true).run Tryz.prog w=.ok (.tuple #[.iface 118 v,.bool true]) w:=run_typeAssert_hasB Tryz.underlying185 (by kernel_rfl) v xT w
set_option maxHeartbeats 4000000 in
theorem asPlaced(a c:Int)(t:Addr)(old:Value)(w:World)(hg:ErrVar w)(ht0:w.cell? t=some old)(hf0:w.frozen? t=false) :
  Calls Tryz.prog 71 #[.iface 118 (.agg #[.int .i64 a,.iface 116 (.agg #[.int .i64 c])]),.iface 120 (.pointer (some t))] w fun e w'=>e=.returned (.bool true)∧w'=(((((w.alloc (.cells #[.pointer (some t)] 120)).alloc (.cells #[.pointer (some ⟨9,120,none⟩),.pointer (some ⟨w.heap.size,0,none⟩),.int .u64 150] 150)).alloc (.cells #[.pointer (some ⟨9,120,none⟩),.pointer (some ⟨w.heap.size,0,none⟩),.int .u64 150] 150)).alloc (.cells #[.int .i64 a,.iface 116 (.agg #[.int .i64 c])] 118)).alloc (.cells #[.int .i64 c] 116)).setCell t (.int .i64 c):=by
 have x1:=@run_callFunc_extern Tryz.prog 95 _ (fun args=>ReflectliteValue.unpack (args.getD 0 (.tuple #[]))) Tryz.func95 (by kernel_rfl) (by kernel_rfl) (by kernel_rfl) (by kernel_rfl)
 have x2 := @run_callFunc_extern Tryz.prog 96 _ (ReflectliteValue.methodAny (ReflectliteValue.valueError "reflectlite.Value.Type" 0) (fun t _ _ _ => ReflectliteType.toType t)) Tryz.func96 (by kernel_rfl) (by kernel_rfl) (by kernel_rfl) (by kernel_rfl)
 have x3 := @run_callFunc_extern Tryz.prog 97 _ (ReflectliteValue.method (ReflectliteValue.valueError "reflectlite.Value.IsNil" 0) ReflectliteValue.isNil) Tryz.func97 (by kernel_rfl) (by kernel_rfl) (by kernel_rfl) (by kernel_rfl)
 have x4:=@run_callFunc_extern Tryz.prog 181 _ (ReflectliteType.abiMethod fun t=>do pure (.int .u8 (←Rtype.kind t))) Tryz.func181 (by kernel_rfl) (by kernel_rfl) (by kernel_rfl) (by kernel_rfl)
 have x5:=@run_callFunc_extern Tryz.prog 217 _ (ReflectliteType.method ReflectliteType.elem) Tryz.func217 (by kernel_rfl) (by kernel_rfl) (by kernel_rfl) (by kernel_rfl)
 have x6 := @run_callFunc_extern Tryz.prog 218 _ (ReflectliteType.relation "Implements" ReflectliteType.implements_) Tryz.func218 (by kernel_rfl) (by kernel_rfl) (by kernel_rfl) (by kernel_rfl)
 have x7:=@run_callFunc_extern Tryz.prog 116 _ (ReflectliteType.typeOf) Tryz.func116 (by kernel_rfl) (by kernel_rfl) (by kernel_rfl) (by kernel_rfl)
 have x8 := @run_callFunc_extern Tryz.prog 215 _ (ReflectliteType.relation "AssignableTo" ReflectliteType.assignableTo) Tryz.func215 (by kernel_rfl) (by kernel_rfl) (by kernel_rfl) (by kernel_rfl)
 have x9 := @run_callFunc_extern Tryz.prog 117 _ (ReflectliteValue.method (ReflectliteValue.valueError "reflectlite.Value.Elem" 0) ReflectliteValue.elem) Tryz.func117 (by kernel_rfl) (by kernel_rfl) (by kernel_rfl) (by kernel_rfl)
 have x0:=@run_callFunc_extern Tryz.prog 118 _ (ReflectliteValue.set) Tryz.func118 (by kernel_rfl) (by kernel_rfl) (by kernel_rfl) (by kernel_rfl)
 have y1:=typeOfS
 have y1q:=typeOfQ
 have y2:=mAssignableTo
 have y2q:=mUnwrap
 have y2r:=noAs
 have y2s:=hasUnwrap
 have y3:=assignableS
 have y3q:=assignableQ
 have y4:=valueOfS
 have y5:=valueOfP
 have y6:=typeP
 have y7:=mKind
 have y8:=mElem
 have y9:=mImplements
 have z1:=kindP
 have z2:=kindS
 have z3:=elemP
 have z4:=implementsS
 have z5:=isNilP ⟨w.heap.size,0,none⟩ t ((w.alloc (.cells #[.pointer (some t)] 120)).alloc (.cells #[.pointer (some ⟨9,120,none⟩),.pointer (some ⟨w.heap.size,0,none⟩),.int .u64 150] 150)) (by simp)
 have hlt:=hg.lt
 have hg2:((w.alloc (.cells #[.pointer (some t)] 120)).alloc (.cells #[.pointer (some ⟨9,120,none⟩),.pointer (some ⟨w.heap.size,0,none⟩),.int .u64 150] 150)).cell? ⟨0,0,none⟩=some (.iface 177 (.agg #[.pointer (some ⟨9,61,none⟩)])):=by
  rw[World.cell?_alloc_lt _ _ ⟨0,0,none⟩ (by simp <;> omega),World.cell?_alloc_lt _ _ ⟨0,0,none⟩ hlt];exact hg
 have htl:t.block<w.heap.size:=by
  rcases Nat.lt_or_ge t.block w.heap.size with h|h
  ·exact h
  ·simp[World.cell?,Array.getElem?_eq_none h] at ht0
 have z6:=elemV ⟨w.heap.size,0,none⟩ t ((((w.alloc (.cells #[.pointer (some t)] 120)).alloc (.cells #[.pointer (some ⟨9,120,none⟩),.pointer (some ⟨w.heap.size,0,none⟩),.int .u64 150] 150)).alloc (.cells #[.pointer (some ⟨9,120,none⟩),.pointer (some ⟨w.heap.size,0,none⟩),.int .u64 150] 150)).alloc (.cells #[.int .i64 a,.iface 116 (.agg #[.int .i64 c])] 118)) (by rw[World.cell?_alloc_lt _ _ ⟨w.heap.size,0,none⟩ (by simp;omega),World.cell?_alloc_lt _ _ ⟨w.heap.size,0,none⟩ (by simp;omega)];simp)
 have z7:=setS t ⟨w.heap.size+1+1+1+1,0,none⟩ c old (((((w.alloc (.cells #[.pointer (some t)] 120)).alloc (.cells #[.pointer (some ⟨9,120,none⟩),.pointer (some ⟨w.heap.size,0,none⟩),.int .u64 150] 150)).alloc (.cells #[.pointer (some ⟨9,120,none⟩),.pointer (some ⟨w.heap.size,0,none⟩),.int .u64 150] 150)).alloc (.cells #[.int .i64 a,.iface 116 (.agg #[.int .i64 c])] 118)).alloc (.cells #[.int .i64 c] 116))
  (by rw[World.cell?_alloc_at _ _ _ _ (by simp)];rfl)
  (by rw[World.cell?_alloc_lt _ _ t (by simp;omega),World.cell?_alloc_lt _ _ t (by simp;omega),World.cell?_alloc_lt _ _ t (by simp;omega),World.cell?_alloc_lt _ _ t (by simp;omega),World.cell?_alloc_lt _ _ t htl];exact ht0)
  (by rw[World.frozen?_alloc_old _ _ t (by simp;omega),World.frozen?_alloc_old _ _ t (by simp;omega),World.frozen?_alloc_old _ _ t (by simp;omega),World.frozen?_alloc_old _ _ t (by simp;omega),World.frozen?_alloc_old _ _ t (Nat.ne_of_lt htl)];exact hf0)
 clear hg ht0 hf0
 go_enter Tryz.func71,Tryz.ntmps71
 go_wp2
 refine wp_loop_rounds 2 ?_
 rw[rounds_succ]
 go_wp2
 rw[rounds_succ]
 go_wp2
 go_ret
 exact⟨rfl,rfl⟩
theorem below5(w:World)(o o1 o2 o3 o4 o5:Obj):Below (w.heap.size+1) (w.alloc o) ((((((w.alloc o).alloc o1).alloc o2).alloc o3).alloc o4).alloc o5) :=
 (((((Below.refl _ _).alloc (by simp) _).alloc (by simp) _).alloc (by simp) _).alloc (by simp) _).alloc (by simp) _
theorem codePlaced(a c:Int)(w:World)(hg:ErrVar w):Calls Tryz.prog 40 #[.iface 118 (.agg #[.int .i64 a,.iface 116 (.agg #[.int .i64 c])])] w fun e w'=>e=.returned (.int .i64 c)∧Below w.heap.size w w':=by
 have hg1:ErrVar (w.alloc (.cells #[.int .i64 0] 116)):=hg.below ((Below.refl _ _).alloc (Nat.le_refl _) _)
 have HG:=hid hg1
 clear hg1 hg
 go_enter Tryz.func40,Tryz.ntmps40
 go_wp2_with fail
 refine(asPlaced a c ⟨w.heap.size,0,none⟩ (.int .i64 0) _ HG.out (by simp) (by simp)).mono ?_
 rintro e w1 ⟨rfl,hw1⟩
 have hc:w1.cell? ⟨w.heap.size,0,none⟩=some (.int .i64 c):=by
  rw[hw1];exact World.cell?_setCell_same' _ _ _ (by rw[(below5 w _ _ _ _ _ _).cell (p:=⟨w.heap.size,0,none⟩) (Nat.lt_succ_self _)];simp)
 have hb:Below w.heap.size w w1:=by
  rw[hw1]
  exact(((((((Below.refl _ _).alloc (Nat.le_refl _) _).alloc (by simp) _).alloc (by simp;omega) _).alloc (by simp;omega) _).alloc (by simp;omega) _).alloc (by simp;omega) _).setCell (Nat.le_refl _) _
 clear hw1
 go_wp2_with fail
 go_ret
 exact⟨rfl,hb⟩
end Go.Proofs.YtmembhpoidcmlaaGreatDoor.ErrAs
namespace Go.Proofs.YtmembhpoidcmlaaGreatDoor.Selss
open Lib (hid)
open Go.RowKit Words Decs Splits ErrAs
set_option linter.unusedVariables false
set_option maxRecDepth 100000
theorem set3_other(w:World)(g:Nat)(v0 v1 v2:Value)(c:Nat)(h:c≠g):(set3 w g v0 v1 v2).heap[c]?=w.heap[c]?:=by
 unfold Selss.set3
 repeat rw[Go.Deep.blk_setCell_other _ ⟨g,_,none⟩ _ c h]
def zeroDoc:DocP:=⟨.nil,[]⟩
open Classical in
noncomputable def outP(t:ByteArray):DocP×Int :=
 if 8000<t.size then (zeroDoc,2) else if h:∃ d,docB d=true∧docT d=t then (h.choose,0) else (zeroDoc,3)
theorem outP_big{t:ByteArray}(h:8000<t.size):outP t=(zeroDoc,2):=by unfold outP;rw[if_pos h]
theorem outP_is{t:ByteArray}(h:¬ 8000<t.size){d:DocP}(hb:docB d=true)(ht:docT d=t):outP t=(d,0):=by
 have he:∃ d,docB d=true∧docT d=t:=⟨d,hb,ht⟩
 unfold outP
 rw[if_neg h,dif_pos he]
 have:=he.choose_spec
 rw[docT_inj this.1 hb (this.2.trans ht.symm)]
theorem outP_not{t:ByteArray}(h:¬ 8000<t.size)(hn:¬ ∃ d,docB d=true∧docT d=t):outP t=(zeroDoc,3):=by
 unfold outP
 rw[if_neg h,dif_neg hn]
theorem zeroX(w:World)(A B:Nat)(h:A≤B):DocX w A B (.agg #[.slice none 0 0,.slice none 0 0]) zeroDoc :=
 ⟨none,0,none,0,A,rfl,⟨rfl,Nat.zero_le _,Nat.le_refl _,.inl rfl⟩,⟨rfl,Nat.zero_le _,h,.inl rfl⟩,Nat.le_refl _⟩
def OutRes(w w':World)(t:ByteArray)(e:Ending):Prop :=
 ∃ v0 v1,e=.returned (.agg #[v0,v1,.int .i64 (outP t).2])∧Below w.heap.size w w'∧DocX w' w.heap.size w'.heap.size (.agg #[v0,v1]) (outP t).1
set_option maxHeartbeats 4000000 in
theorem implDocRead(t:ByteArray)(ht:t.size≤1048576)(w:World)(B:Nat)(hv:Vars B w)(hB:B≤w.heap.size) :
  Calls Tryz.prog 7 #[.string t] w fun e w'=>OutRes w w' t e:=by
 have HV:=hid hv
 have HA:Hid (∀ o,Below w.heap.size w (w.alloc o)):=hid fun o=>(Below.refl _ _).alloc (Nat.le_refl _) o
 by_cases hbig:8000<t.size
 ·have HO:=hid (outP_big hbig)
  have hbi:(8000:Int)<(t.size:Int):=by omega
  go_enter Tryz.func7,Tryz.ntmps7
  go_wp2_with fail
  exact bodyPost_ret (v:=.agg #[.slice none 0 0,.slice none 0 0,.int .i64 2]) (by simp[results,Tryz.results7,go_sem]) rfl ⟨_,_,by rw[HO.out],HA.out _,by rw[HO.out];exact zeroX _ _ _ (HA.out _).size⟩
 ·have hbi:(t.size:Int)≤8000:=by omega
  go_enter Tryz.func7,Tryz.ntmps7
  go_wp2_with fail
  refine(implReadDoc t (by omega) _ B (HV.out.on ((HA.out _).mono hB)) (Nat.le_trans hB (HA.out _).size)).mono ?_
  rintro e w1 ⟨v,err,rfl,hb,hcase⟩
  have hr:=(hb.block w.heap.size (by simp)).trans (heap_alloc_new w _)
  have HB1:=hid ((HA.out _).trans (hb.mono (HA.out _).size))
  have hz1:=HB1.out.size
  have hsz:∀ o,(w.alloc o).heap.size=w.heap.size+1:=fun o=>by simp
  rw[hsz] at hcase
  obtain ⟨a2,n2,c2,b2,m2,e2,rfl⟩:∃ a n c b m e,v=.agg #[.slice a n c,.slice b m e]:=by
   rcases hcase with ⟨_,d,_,_,a,ca,b,cb,M,hv,_⟩|⟨_,hv,_⟩
   ·exact⟨_,_,_,_,_,_,hv⟩
   ·exact⟨_,_,_,_,_,_,hv⟩
  have HAd:Hid (Below w1.heap.size w1 (w1.alloc (.cells #[.slice a2 n2 c2,.slice b2 m2 e2] 26)).drew):=hid ((Below.refl w1.heap.size w1).alloc (Nat.le_refl _) (.cells #[.slice a2 n2 c2,.slice b2 m2 e2] 26)).drew
  have HBd:=hid (HB1.out.trans (HAd.out.mono hz1))
  have hrd:(w1.alloc (.cells #[.slice a2 n2 c2,.slice b2 m2 e2] 26)).drew.heap[w.heap.size]?=_:=(HAd.out.block w.heap.size (lt_of_get hr)).trans hr
  have hdd:(w1.alloc (.cells #[.slice a2 n2 c2,.slice b2 m2 e2] 26)).drew.heap[w1.heap.size]?=some (.cells #[.slice a2 n2 c2,.slice b2 m2 e2] 26 (0,0)):=heap_alloc_new w1 _
  have HE:Hid (ErrVar (w1.alloc (.cells #[.slice a2 n2 c2,.slice b2 m2 e2] 26)).drew):=hid (HV.out.on (HBd.out.mono hB)).here.err
  have ⟨⟨c0,c1⟩,_,_⟩:=keep2 hdd
  have ⟨⟨d0,d1,d2⟩,p0,p1,p2⟩:=keep3 hrd
  have hlt1:=lt_of_get hr
  have hne:w1.heap.size≠w.heap.size:=by omega
  have hne2:w.heap.size≠w1.heap.size:=by omega
  clear hb hsz hr
  rcases hcase with ⟨rfl,d,hdb,hrd2,hdx⟩|⟨⟨k,rfl⟩,hv,hno⟩
  ·have HO:=hid (outP_is hbig hdb (docT_of_reads hrd2 hdb))
   have HDX:=hid hdx
   clear hrd2 hdx hdb
   have CC:Hid (Calls Tryz.prog 40 #[.nilIface] (w1.alloc (.cells #[.slice a2 n2 c2,.slice b2 m2 e2] 26)).drew fun e w'=>e=.returned (.int .i64 0)∧Below (w1.alloc (.cells #[.slice a2 n2 c2,.slice b2 m2 e2] 26)).drew.heap.size (w1.alloc (.cells #[.slice a2 n2 c2,.slice b2 m2 e2] 26)).drew w'):=hid (codeNil _)
   go_wp2_with fail
   go_region_held3 (fun w'=>w'.cell? ⟨w1.heap.size,0,none⟩=some (.slice a2 n2 c2)∧w'.cell? ⟨w1.heap.size,1,none⟩=some (.slice b2 m2 e2)) (go_keep)
    (first | (go_at_call 40;refine CC.out.mono ?_;rintro e w3 ⟨rfl,hb3⟩;have hd3:=(hb3.block w1.heap.size (lt_of_get hdd)).trans hdd;have hr3:=(hb3.block w.heap.size (lt_of_get hrd)).trans hrd;have ⟨⟨x0,x1⟩,_,_⟩:=keep2 hd3;have ⟨⟨z0,z1,z2⟩,q0,q1,q2⟩:=keep3 hr3))
   all_goals
    have HB3:=hid (HBd.out.trans (hb3.mono HBd.out.size))
    have HFX:=hid (set3_block hr3 (.slice a2 n2 c2) (.slice b2 m2 e2) (.int .i64 0))
    have HBF:=hid (set3_below HB3.out (g:=w.heap.size) (Nat.le_refl _) (.slice a2 n2 c2) (.slice b2 m2 e2) (.int .i64 0))
    have HSZ:Hid ((set3 w3 w.heap.size (.slice a2 n2 c2) (.slice b2 m2 e2) (.int .i64 0)).heap.size=w3.heap.size):=hid (set3_size _ _ _ _ _)
    have HZ3:=hid (Nat.le_trans hz1 (Nat.le_trans HAd.out.size hb3.size))
    have HDF:Hid (DocX (set3 w3 w.heap.size (.slice a2 n2 c2) (.slice b2 m2 e2) (.int .i64 0)) w.heap.size (set3 w3 w.heap.size (.slice a2 n2 c2) (.slice b2 m2 e2) (.int .i64 0)).heap.size (.agg #[.slice a2 n2 c2,.slice b2 m2 e2]) d):=hid ((((HDX.out.below (Nat.le_refl _) HAd.out).below (C:=(w1.alloc (.cells #[.slice a2 n2 c2,.slice b2 m2 e2] 26)).drew.heap.size) (HAd.out.size) hb3).block (w':=set3 w3 w.heap.size (.slice a2 n2 c2) (.slice b2 m2 e2) (.int .i64 0)) fun c x1 x2=>set3_other w3 w.heap.size _ _ _ c (by omega)).wide (by omega) (by rw[HSZ.out];exact Nat.le_trans HAd.out.size hb3.size))
    clear hb3 hr3 hd3 hdd hrd
    go_wp2_with fail
    change bodyPost _ _ _ _ _ (set3 w3 w.heap.size (.slice a2 n2 c2) (.slice b2 m2 e2) (.int .i64 0))
    generalize set3 w3 w.heap.size (.slice a2 n2 c2) (.slice b2 m2 e2) (.int .i64 0)=WF at *
    have ⟨⟨f0,f1,f2⟩,_⟩:=keep3 HFX.out
    exact bodyPost_ret (v:=.agg #[.slice a2 n2 c2,.slice b2 m2 e2,.int .i64 0]) (by simp[results,Tryz.results7,go_sem,f0,f1,f2]) rfl ⟨_,_,by rw[HO.out],HBF.out,by rw[HO.out];exact HDF.out⟩
  ·have HO:=hid (outP_not hbig fun ⟨d,g1,g2⟩=>hno ⟨d,g1,by rw[←g2];exact reads_of_docT g1⟩)
   have HZV:Hid ((a2=none∧n2=0∧c2=0)∧b2=none∧m2=0∧e2=0):=hid (by simpa using hv)
   clear hv hno
   unfold placedF
   have CC:Hid (Calls Tryz.prog 40 #[.iface 118 (.agg #[.int .i64 k,.iface 116 (.agg #[.int .i64 3])])] (w1.alloc (.cells #[.slice a2 n2 c2,.slice b2 m2 e2] 26)).drew fun e w'=>e=.returned (.int .i64 3)∧Below (w1.alloc (.cells #[.slice a2 n2 c2,.slice b2 m2 e2] 26)).drew.heap.size (w1.alloc (.cells #[.slice a2 n2 c2,.slice b2 m2 e2] 26)).drew w'):=hid (codePlaced k 3 _ HE.out)
   go_wp2_with fail
   go_region_held3 (fun w'=>w'.cell? ⟨w1.heap.size,0,none⟩=some (.slice a2 n2 c2)∧w'.cell? ⟨w1.heap.size,1,none⟩=some (.slice b2 m2 e2)) (go_keep)
    (first | (go_at_call 40;refine CC.out.mono ?_;rintro e w3 ⟨rfl,hb3⟩;have hd3:=(hb3.block w1.heap.size (lt_of_get hdd)).trans hdd;have hr3:=(hb3.block w.heap.size (lt_of_get hrd)).trans hrd;have ⟨⟨x0,x1⟩,_,_⟩:=keep2 hd3;have ⟨⟨z0,z1,z2⟩,q0,q1,q2⟩:=keep3 hr3))
   all_goals
    have HB3:=hid (HBd.out.trans (hb3.mono HBd.out.size))
    have HFX:=hid (set3_block hr3 (.slice a2 n2 c2) (.slice b2 m2 e2) (.int .i64 3))
    have HBF:=hid (set3_below HB3.out (g:=w.heap.size) (Nat.le_refl _) (.slice a2 n2 c2) (.slice b2 m2 e2) (.int .i64 3))
    have HSZ:Hid ((set3 w3 w.heap.size (.slice a2 n2 c2) (.slice b2 m2 e2) (.int .i64 3)).heap.size=w3.heap.size):=hid (set3_size _ _ _ _ _)
    have HZ3:=hid (Nat.le_trans hz1 (Nat.le_trans HAd.out.size hb3.size))
    have HDF:Hid (DocX (set3 w3 w.heap.size (.slice a2 n2 c2) (.slice b2 m2 e2) (.int .i64 3)) w.heap.size (set3 w3 w.heap.size (.slice a2 n2 c2) (.slice b2 m2 e2) (.int .i64 3)).heap.size (.agg #[.slice a2 n2 c2,.slice b2 m2 e2]) zeroDoc):=hid (by
     obtain ⟨⟨rfl,rfl,rfl⟩,rfl,rfl,rfl⟩:=HZV.out
     exact zeroX _ _ _ (by rw[HSZ.out];exact HZ3.out))
    clear hb3 hr3 hd3 hdd hrd
    go_wp2_with fail
    change bodyPost _ _ _ _ _ (set3 w3 w.heap.size (.slice a2 n2 c2) (.slice b2 m2 e2) (.int .i64 3))
    generalize set3 w3 w.heap.size (.slice a2 n2 c2) (.slice b2 m2 e2) (.int .i64 3)=WF at *
    have ⟨⟨f0,f1,f2⟩,_⟩:=keep3 HFX.out
    exact bodyPost_ret (v:=.agg #[.slice a2 n2 c2,.slice b2 m2 e2,.int .i64 3]) (by simp[results,Tryz.results7,go_sem,f0,f1,f2]) rfl ⟨_,_,by rw[HO.out],HBF.out,by rw[HO.out];exact HDF.out⟩
end Go.Proofs.YtmembhpoidcmlaaGreatDoor.Selss
namespace Go.Proofs.YtmembhpoidcmlaaGreatDoor.Selss
open Go.RowKit Words Decs Splits
set_option linter.unusedVariables false
theorem modOk:∀ d,d≤100→ModOk d
 | 0,_=>modOk_zero
 | d+1,h=>modOk_succ d (by omega) (modOk d (by omega))
end Go.Proofs.YtmembhpoidcmlaaGreatDoor.Selss
namespace Go.Proofs.YtmembhpoidcmlaaGreatDoor.Selss
open Go.RowKit Words Decs Splits
set_option linter.unusedVariables false
set_option maxRecDepth 100000
theorem docT_right{d:DocP}{t:ByteArray}(h:docT d=t)(ht:t≠ByteArray.empty):docB d=true:=by
 cases hb:docB d with
 | true=>rfl
 | false =>
  exfalso;apply ht;rw[←h];unfold docT;rw[hb];rfl
theorem docT_ne{d:DocP}(h:docB d=true):docT d≠ByteArray.empty:=fun e=>by
 have hr:=reads_of_docT h
 rw[e] at hr
 obtain ⟨W',h1,_⟩:=hr
 cases h1
theorem out_mod{t:ByteArray}(hb:¬ 8000<t.size)(h:docT (docOf t)=t)(ht:t≠ByteArray.empty):outP t=(docOf t,0):=outP_is hb (docT_right h ht) h
theorem out_mod_not{t:ByteArray}(hb:¬ 8000<t.size)(h:docT (docOf t)≠t∨t=ByteArray.empty):outP t=(zeroDoc,3):=outP_not hb fun ⟨e,h1,h2⟩=>by
 rcases h with h|h
 ·exact h (by rw[←h2,docOf_text h1])
 ·exact docT_ne h1 (h2.trans h)
theorem rd_spec{w:World}{t:ByteArray}(ht:t.size≤8000){a:Option Addr}{cap A:Nat}(h:StrsAt w A w.heap.size a (splitL 32 (bl t)).length (splitL 32 (bl t))) :
  RdS (w.alloc (.cells #[.slice a (splitL 32 (bl t)).length cap,.int .i64 0] 68)) w.heap.size a cap (splitL 32 (bl t)) 0:=by
 have hbl:(bl t).length=t.size:=by simp[bl]
 refine⟨heap_alloc_new w _,fun i x hx=>?_,by have:=splitL_len 32 (bl t);omega,fun x hx=>by have:=splitL_sizes 32 (bl t) x hx;omega⟩
 rcases h.2 with h0|⟨b,off,ha,hA,hb,hc⟩
 ·exact absurd h0 (splitL_ne 32 (bl t))
 ·exact⟨b,off,ha,hb,((((Below.refl w.heap.size w).alloc (Nat.le_refl _) _).cell (p:=⟨b,off+i,none⟩) hb)).trans (hc i x hx)⟩
end Go.Proofs.YtmembhpoidcmlaaGreatDoor.Selss
