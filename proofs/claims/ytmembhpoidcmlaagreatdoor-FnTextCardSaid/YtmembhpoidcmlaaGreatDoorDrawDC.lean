/-
  A question that is being drawn: its selections and its Frags in rows of the call's own; an append of a Frag that tells which block has grown. Conditions: as each theorem says.
-/
import Derived.Test.YtmembhpoidcmlaaGreatDoorRows
import Derived.Test.YtmembhpoidcmlaaGreatDoorDrawDA
import Derived.Deep.CutRange
import Derived.Deep.CutBlock
import Derived.Deep.RegionHeld3
import Derived.Test.YtmembhpoidcmlaaGreatDoorOwnFrag
namespace Go.Proofs.YtmembhpoidcmlaaGreatDoor.Draws
open Lib (hid)
open Go.RowKit Texts Bytes Rw Words
open Selss (OwnSel RowS rowsSels SelsX Sels)
set_option linter.unusedVariables false
set_option maxRecDepth 100000
def SelsOfC(d:Nat):Prop:=∀ (w:World) (p len cap:Nat) (a:Option Addr) (A B:Nat) (sa:Option Addr) (sn sc:Nat) (s:List TypeP) (t:ByteArray),Src w p a len cap→SchemaAt w A B (.agg #[.slice sa sn sc]) s→p<A→B≤w.heap.size→schemaB s=true→schWt s≤1048576→Good s t →
  Calls Tryz.prog 66 #[.pointer (some ⟨p,0,none⟩),.agg #[.slice sa sn sc],.string t,.int .i64 d] w fun e w' =>
   (∃ a' c' L,e=.returned (.slice a' L.length c')∧OwnSel w' w.heap.size (.slice a' L.length c') L∧RowsD w' L∧1≤L.length∧L.length≤3)∧Src w' p a len cap∧Only p w w'
section
variable {w W:World} {p len cap:Nat} {a:Option Addr} {A B:Nat} {sa:Option Addr} {sn sc:Nat} {s:List TypeP} {X1 xb:Nat} {x:TypeP} {xa:Option Addr} {xca:Nat} {xc:Option Addr} {xcc:Nat} {v:Value} {L:List RowS}
theorem DrwS.n(h:DrwS w W p len cap a A B sa sn sc s X1 xb x xa xca xc xcc v L)(most:Int)(hm:most≤9223372036854775807) :
  Calls Tryz.prog 36 #[.pointer (some ⟨p,0,none⟩),.int .i64 most] W fun e w'=>(∃ r,e=.returned (.int .i64 r)∧0≤r∧(r<most∨r=0))∧DrwS w w' p len cap a A B sa sn sc s X1 xb x xa xca xc xcc v L∧Only p W w' :=
 (src_n _ p len cap a h.src most hm).mono fun e w' ⟨h1,h2,h3⟩=>⟨h1,h.step h3 h2,h3⟩
theorem DrwS.one(h:DrwS w W p len cap a A B sa sn sc s X1 xb x xa xca xc xcc v L)(of:Int)(hm:of≤9223372036854775807) :
  Calls Tryz.prog 67 #[.pointer (some ⟨p,0,none⟩),.int .i64 of] W fun e w'=>(∃ b,e=.returned (.bool b))∧DrwS w w' p len cap a A B sa sn sc s X1 xb x xa xca xc xcc v L∧Only p W w' :=
 (src_one _ p len cap a h.src of hm).mono fun e w' ⟨h1,h2,h3⟩=>⟨h1,h.step h3 h2,h3⟩
theorem DrwS.pick(h:DrwS w W p len cap a A B sa sn sc s X1 xb x xa xca xc xcc v L)(L2:List ByteArray)(h1:1≤L2.length)(h2:L2.length≤100) :
  Calls Tryz.prog 38 #[.pointer (some ⟨p,0,none⟩),.slice (some ⟨W.heap.size,0,none⟩) L2.length L2.length] (W.alloc (.cells (L2.map Value.string).toArray 9)) fun e w'=>(∃ y,y∈L2∧e=.returned (.string y))∧DrwS w w' p len cap a A B sa sn sc s X1 xb x xa xca xc xcc v L :=
 have hp:p<W.heap.size:=h.src.lt
 have hd:=h.below ((Below.refl _ _).alloc (Nat.le_refl _) (.cells (L2.map Value.string).toArray 9))
 (src_pick _ p len cap a hd.src W.heap.size L2 (heap_alloc_new W _) (by omega) h1 h2).mono fun e w' ⟨g1,g2,g3⟩=>⟨g1,hd.step g3 g2⟩
theorem DrwS.members(h:DrwS w W p len cap a A B sa sn sc s X1 xb x xa xca xc xcc v L)(hs:schemaB s=true)(hw:schWt s≤1048576)(t:ByteArray)(hg:Good s t) :
  Calls Tryz.prog 89 #[.agg #[.slice sa sn sc],.string t] W fun e w'=>(∃ am cm M,e=.returned (.slice am M.length cm)∧M.length≤cm∧TextsAt w' W.heap.size w'.heap.size am M.length M∧1≤M.length∧M.length≤8∧∀ m∈M,Good s m)∧DrwS w w' p len cap a A B sa sn sc s X1 xb x xa xca xc xcc v L :=
 (specMembersOf W A B _ s t (by have:=hg.1;unfold OkS;omega) h.sch (Nat.le_trans h.Bw h.only.size) hw).mono fun e w' ⟨⟨am,cm,h1,h2,h3⟩,hb⟩ =>
  ⟨⟨am,cm,_,h1,h2,h3.at_ textLies id,good_members hs hg⟩,h.below hb⟩
theorem DrwS.type(h:DrwS w W p len cap a A B sa sn sc s X1 xb x xa xca xc xcc v L)(hs:schemaB s=true)(hw:schWt s≤1048576)(t:ByteArray)(ht:t.size≤20) :
  Calls Tryz.prog 88 #[.agg #[.slice sa sn sc],.string t] W fun e w'=>(∃ v0 v2 v3 v4,e=.returned (.agg #[v0,.int .i64 (typeIn t s).kind,v2,v3,v4]))∧DrwS w w' p len cap a A B sa sn sc s X1 xb x xa xca xc xcc v L∧Only p W w' :=
 (specTypeOf W A B _ s t (by unfold OkS;omega) h.sch (Nat.le_trans h.Bw h.only.size) hw).mono fun e w' ⟨⟨ta,tca,tc,tcc,h1,_⟩,hb⟩ =>
  by subst h1;rw[typeOfP_yes t hs];exact⟨⟨_,_,_,_,rfl⟩,h.below hb,(Only.refl p W).of_below (Nat.le_refl _) hb⟩
theorem DrwS.sub{d:Nat}(HN:SelsOfC d)(h:DrwS w W p len cap a A B sa sn sc s X1 xb x xa xca xc xcc v L)(hs:schemaB s=true)(hw:schWt s≤1048576)(t:ByteArray)(hg:Good s t) :
  Calls Tryz.prog 66 #[.pointer (some ⟨p,0,none⟩),.agg #[.slice sa sn sc],.string t,.int .i64 d] W fun e w' =>
   (∃ a' c' n u,e=.returned (.slice a' n c')∧n=Sels.len u∧SelsX w' W.heap.size w'.heap.size a' n u∧∀ k key nm f,RowsD w' [⟨k,key,nm,f,a',c',u,W.heap.size,w'.heap.size⟩])∧DrwS w w' p len cap a A B sa sn sc s X1 xb x xa xca xc xcc v L∧Only p W w' :=
 (HN W p len cap a A B sa sn sc s t h.src h.sch h.pA (Nat.le_trans h.Bw h.only.size) hs hw hg).mono fun e w' ⟨⟨a',c',L',h1,h2,h3,h4,h5⟩,hs',ho⟩=>by
  have hz:=ho.size
  obtain ⟨a9,c9,e9,_,hx⟩:=h2.selsX (by omega) hz
  obtain ⟨rfl,rfl⟩:a'=a9∧c'=c9:=by cases e9;exact⟨rfl,rfl⟩
  refine⟨⟨a',c',L'.length,rowsSels L',h1,(Selss.rowsSels_len L').symm,hx,fun k key nm f r hr=>?_⟩,h.step ho hs',ho⟩
  rw[List.mem_singleton] at hr;subst hr
  exact⟨L',by simp only[Selss.rowsSels_len];exact OwnIn.of h2 hz,rfl,by omega⟩
theorem app_drw{W8 W9:World}{ops:Array Oper}{rest:List Oper}{o:Oper}{ac:Act}{Q:Exit→Act→World→Prop}(hgd:o.guard=none)(sx xx:Operand)
  (ho:o.op=.call { callee:=.builtin .append,args:=#[sx,xx],argTypes:=#[23,23] })
  (hs:ac.eval sx=v) (h8:DrwS w W8 p len cap a A B sa sn sc s X1 xb x xa xca xc xcc v L) (h9:DrwS w W9 p len cap a A B sa sn sc s X1 xb x xa xca xc xcc v L) (hz:W8.heap.size≤W9.heap.size) (c:Nat)
  (hx:ac.eval xx=.slice (some ⟨W9.heap.size,0,none⟩) 1 c) (k:Int) (key nm:ByteArray) (f:Int) (ra:Option Addr) (rc:Nat) (ru:Sels)
  (hok:Selss.OkI k∧Selss.OkS key∧Selss.OkS nm∧Selss.OkI f) (hsx:SelsX W9 W8.heap.size W9.heap.size ra ru.len ru) (hrd:RowsD W9 [⟨k,key,nm,f,ra,rc,ru,W8.heap.size,W9.heap.size⟩]) (hl:L.length+1≤1048576)
  (h:∀ g cap9 w' L',L'=L++[⟨k,key,nm,f,ra,rc,ru,W8.heap.size,W9.heap.size⟩]→L'.length=L.length+1→DrwS w w' p len cap a A B sa sn sc s X1 xb x xa xca xc xcc (.slice (some ⟨g,0,none⟩) L'.length cap9) L'→wpList Tryz.prog ops Q rest (ac.put o.dst (.slice (some ⟨g,0,none⟩) (L.length+1) cap9)) w') :
  wpList Tryz.prog ops Q (o::rest) ac (W9.alloc (.cells #[.int .i64 k,.string key,.string nm,.int .i64 f,.slice ra ru.len rc] 97)):=by
 have hal:Below W9.heap.size W9 (W9.alloc (.cells #[.int .i64 k,.string key,.string nm,.int .i64 f,.slice ra ru.len rc] 97)):=(Below.refl _ _).alloc (Nat.le_refl _) _
 have ha:=h9.below hal
 have hw8:=h8.only.size
 have hp8:=h8.x1
 have hp81:=h8.xb1
 have hp82:=h8.xb2
 have hlt8:∀ g,v.ownBlock=some g→g<W8.heap.size:=fun g hg=>(h8.own.own.lt g hg).2
 refine app_selG hgd sx xx ho (w.heap.size+1) v L hs ha.own W9.heap.size c hx ⟨k,key,nm,f,ra,rc,ru,W8.heap.size,W9.heap.size⟩ (heap_alloc_new W9 _) ⟨hok,hsx.below (Nat.le_refl _) hal,by show w.heap.size+1≤W8.heap.size;omega,by simp,fun g hg=>.inl (hlt8 g hg)⟩ (fun q hq=>(h8.own.ok q hq).2.2.2.1) hl (by simp;omega) fun g cap9 w' hown hgrow hat=>?_
 have hd:=ha.app hown hgrow hat (hrd.frame fun r hr c' c1 c2=>by rw[List.mem_singleton] at hr;subst hr;exact Go.Deep.blk_alloc_lt _ _ _ c2) (fun g hg=>.inl (hlt8 g hg)) (by simp)
 exact h g cap9 w' _ rfl (by simp) (by simpa using hd)
end
set_option maxHeartbeats 4000000 in
theorem selsOf_of(d:Nat)(hd1:1≤d)(hd4:d≤4)(HN:1<d→SelsOfC (d - 1)):SelsOfC d:=by
 intro w p len cap a A B sa sn sc s t hsrc hsch hpA hB hs hw hgood
 have HSRC:=hid hsrc
 have HSCH:=hid hsch
 have HNH:=hid HN
 have HS:=hid hs
 have HW:=hid hw
 have HG:=hid hgood
 have hpw:=hsrc.lt
 have HXOK:=hid (typeIn_in (good_fresh hgood))
 have HA:Hid (∀ o1 o2,Below w.heap.size w ((w.alloc o1).alloc o2)):=hid fun o1 o2=>((Below.refl _ _).alloc (Nat.le_refl _) o1).alloc (by simp) o2
 have htk:t.size≤20:=hgood.1
 clear hsrc hsch HN hs hw hgood
 go_enter Tryz.func66,Tryz.ntmps66
 go_wp2_with fail
 have hK0:((w.alloc (.cells #[.slice sa sn sc] 35)).alloc (.cells #[] 97)).heap[w.heap.size]?=some (.cells #[.slice sa sn sc] 35 (0,0)):=by
  rw[Go.Deep.blk_alloc_lt _ _ _ (by simp)];exact heap_alloc_new w _
 have hz2:((w.alloc (.cells #[.slice sa sn sc] 35)).alloc (.cells #[] 97)).heap.size=w.heap.size+2:=by simp
 have hO2:OwnSel ((w.alloc (.cells #[.slice sa sn sc] 35)).alloc (.cells #[] 97)) (w.heap.size+1) (.slice (some ⟨w.heap.size+1,0,none⟩) 0 0) []:=by
  have:=OwnSel.made (w.alloc (.cells #[.slice sa sn sc] 35)) (w.heap.size+1) (by simp)
  simpa using this
 have hb2:=HA.out (.cells #[.slice sa sn sc] 35) (.cells #[] 97)
 generalize (w.alloc (.cells #[.slice sa sn sc] 35)).alloc (.cells #[] 97)=w2 at *
 have HZ2:=hid hz2
 have HK0:=hid hK0
 have HO2:=hid hO2
 have HB2:=hid hb2
 clear hz2 hK0 hO2 hb2 HA
 refine(specTypeOf w2 A B _ s t (by unfold OkS;omega) (HSCH.out.below hB HB2.out) (Nat.le_trans hB HB2.out.size) HW.out).mono ?_
 rintro e w3 ⟨⟨fa,fca,fc,fcc,rfl,hx⟩,hb3⟩
 rw[typeOfP_yes t HS.out] at hx ⊢
 generalize hxx:typeIn t s=x at HXOK hx ⊢
 have HXX:=hid hxx
 clear hxx
 have HD3:Hid (DrwS w (w3.alloc (.cells #[.string x.name,.int .i64 x.kind,.int .i64 x.bytes,.slice fa x.fields.length fca,.slice fc x.members.length fcc] 77)) p len cap a A B sa sn sc s (w3.heap.size+1) w3.heap.size x fa fca fc fcc (.slice (some ⟨w.heap.size+1,0,none⟩) ([]:List RowS).length 0) []):=hid (by
  have hb:=HB2.out.trans (hb3.mono HB2.out.size)
  have hz:=hb3.size
  have hz2:=HZ2.out
  have hal:∀ o,Below w3.heap.size w3 (w3.alloc o):=fun o=>(Below.refl _ _).alloc (Nat.le_refl _) o
  obtain ⟨a1,ca1,c1,cc1,M,e1,hok,hf,hm⟩:=hx
  simp[TypeP.cells] at e1
  obtain ⟨⟨rfl,rfl⟩,rfl,rfl⟩:=e1
  have e2:=hf.1.2.2.1
  have e3:=hm.1.2.2.1
  refine⟨HSRC.out.below hpw (hb.trans ((hal _).mono hb.size)),(Only.refl p w).of_below (Nat.le_refl _) (hb.trans ((hal _).mono hb.size)),HSCH.out.below hB (hb.trans ((hal _).mono hb.size)),?_,?_,?_,?_,RowsD.nil _,?_,by omega,by omega,by simp,hpA,hpw,hB⟩
  ·rw[Go.Deep.blk_alloc_lt _ _ _ (by omega),hb3.block _ (by omega)];exact HK0.out
  ·exact heap_alloc_new w3 _
  ·exact RowsAt.wide fieldLies (RowsAt.block fieldLies (hf.1.at_ fieldLies id) fun c c1 c2=>Go.Deep.blk_alloc_lt _ _ _ (by omega)) (by omega) (by omega)
  ·exact(HO2.out.frame hb3.size fun c c1 c2=>hb3.block c c2).frame (by simp) fun c c1 c2=>Go.Deep.blk_alloc_lt _ _ _ c2
  ·intro g hg
   have:g=w.heap.size+1:=by simpa [Value.ownBlock] using hg.symm
   exact .inl this)
 obtain ⟨X1,hX1⟩:∃ q,w3.heap.size+1=q:=⟨_,rfl⟩
 obtain ⟨xb,hxb⟩:∃ q,w3.heap.size=q:=⟨_,rfl⟩
 rw[hX1,hxb] at HD3
 have CN:Hid (Calls Tryz.prog 36 #[.pointer (some ⟨p,0,none⟩),.int .i64 3] (w3.alloc (.cells #[.string x.name,.int .i64 x.kind,.int .i64 x.bytes,.slice fa x.fields.length fca,.slice fc x.members.length fcc] 77)) fun e w'=>(∃ r,e=.returned (.int .i64 r)∧0≤r∧(r<3∨r=0))∧DrwS w w' p len cap a A B sa sn sc s X1 xb x fa fca fc fcc (.slice (some ⟨w.heap.size+1,0,none⟩) ([]:List RowS).length 0) []):=hid ((src_n _ p len cap a HD3.out.src 3 (by omega)).mono fun e w' ⟨h1,h2,h3⟩=>⟨h1,HD3.out.step h3 h2⟩)
 have HXB:=hid hxb
 clear hb3 hx hX1 hxb
 simp only[TypeP.cells]
 go_wp2_with fail
 rw[HXB.out]
 refine CN.out.mono ?_
 rintro e w5 ⟨⟨r,rfl,hr0,hr1⟩,hd5⟩
 obtain ⟨k0,rfl⟩:=Int.eq_ofNat_of_zero_le hr0
 have hk0:k0+1≤3:=by omega
 have HD5:=hid hd5
 clear hd5 CN hr0 hr1
 go_wp2_with fail
 have HKND:Hid (x.kind=2∨x.kind=3):=hid (by have:=HG.out.2;rwa [HXX.out] at this)
 go_loopw [9,11] (fun v k wr=>∃ (a':Option Addr) (c':Nat) (L:List RowS) (k':Nat),v=.slice a' L.length c'∧k=.int .i64 k'∧L.length+k'≤3∧Hid (DrwS w wr p len cap a A B sa sn sc s X1 xb x fa fca fc fcc (.slice a' L.length c') L)) (fun _ k _=>(intOf k).toNat)
 case atStart=>exact⟨_,_,[],k0+1,rfl,by go_num,by simp;omega,HD5⟩
 case round =>
  obtain ⟨a',c',L,k',rfl,rfl,hlk,HD⟩:=hrel
  by_cases hkp:0<k'
  ·have hki:(0:Int)<(k':Int):=by omega
   have hk1:Hid ((k':Int) - 1=((k' - 1:Nat):Int)):=hid (by omega)
   have ⟨⟨z0,z1,z2,z3,z4⟩,_⟩:=keep5 HD.out.xbox
   go_upto_region 6 with fail
   go_cut [33] from 27 to 32 (fun v33 wx=>∃ b,v33=.bool b∧Hid (b=false→x.kind=2)∧Hid (DrwS w wx p len cap a A B sa sn sc s X1 xb x fa fca fc fcc (.slice a' L.length c') L))
   case first =>
    by_cases hk3:x.kind=3
    ·have hk3b:(x.kind == 3)=true:=by simpa using hk3
     have HT:Hid (true=false→x.kind=2):=hid (fun h=>by cases h)
     clear hk3
     go_wp2_with fail
     go_meet
     exact⟨true,rfl,HT,HD⟩
    ·have hk3b:(x.kind == 3)=false:=by simpa using hk3
     have HT:Hid (∀ b:Bool,b=false→x.kind=2):=hid (fun _ _=>HKND.out.resolve_right hk3)
     clear hk3
     go_wp2_with (go_at_call 67;refine(HD.out.one 5 (by omega)).mono ?_;rintro e w6 ⟨⟨b,rfl⟩,hd6,ho6⟩)
     go_meet
     exact⟨b,rfl,hid (HT.out b),hid hd6⟩
   case rest =>
    obtain ⟨b,rfl,HB2K,HDc⟩:=hcut
    clear z0 z1 z2 z3 z4
    have ⟨⟨z0,z1,z2,z3,z4⟩,_⟩:=keep5 HDc.out.xbox
    have ⟨y0,_⟩:=keep1 HDc.out.box
    cases b
    ·have hx2:x.kind=2:=HB2K.out rfl
     have HGF:=hid (good_fields HS.out HG.out (by rw[HXX.out];exact hx2))
     rw[HXX.out] at HGF
     have hf1:1≤x.fields.length:=HGF.out.1
     have hf8:x.fields.length≤8:=HGF.out.2.1
     have HFM:Hid (∀ f∈x.fields,f.name.size≤8∧f.typ.size≤8∧((typeIn f.typ s).kind≠1→Good s f.typ)):=hid HGF.out.2.2
     obtain ⟨f0,fb,fo,_,rfl,_,_,_⟩:=HDc.out.fields.at (i:=0) (by omega)
     obtain ⟨nf,hnf⟩:∃ q,x.fields.length=q:=⟨_,rfl⟩
     rw[hnf] at hf1 hf8 z3
     have HNF:=hid hnf
     have hf0i:(0:Int)<(nf:Int):=by omega
     clear hx2 HGF hnf
     go_upto_region 13 with fail
     go_cut [14] from 66 to 74 (fun v14 wy=>∃ (f:FieldP) (g:Nat),v14=.pointer (some ⟨g,0,none⟩)∧Hid (f∈x.fields∧f.ok)∧Hid (wy.heap[g]?=some (.cells #[.string f.name,.string f.typ,.bool f.list,.bool f.must,.int .i64 f.size,.int .i64 f.cap] 84 (0,0)))∧w.heap.size≤g∧Hid (DrwS w wy p len cap a A B sa sn sc s X1 xb x (some ⟨fb,fo,none⟩) fca fc fcc (.slice a' L.length c') L))
     case first =>
      have C13:Hid (∀ W,Below wc.heap.size wc W→Calls Tryz.prog 36 #[.pointer (some ⟨p,0,none⟩),.int .i64 (nf:Int)] W fun e w'=>(∃ r,e=.returned (.int .i64 r)∧0≤r∧(r<nf∨r=0))∧DrwS w w' p len cap a A B sa sn sc s X1 xb x (some ⟨fb,fo,none⟩) fca fc fcc (.slice a' L.length c') L∧Only p W w'):=hid fun W hb=>(HDc.out.below hb).n (nf:Int) (by omega)
      have HB0:Hid (Below wc.heap.size wc wc.drew):=hid (Below.refl _ _).drew
      have HB1:Hid (∀ o,Below wc.heap.size wc (wc.alloc o).drew):=hid fun o=>((Below.refl _ _).alloc (Nat.le_refl _) o).drew
      have HG1:Hid (∀ o,(wc.alloc o).drew.heap[wc.heap.size]?=some o):=hid fun o=>heap_alloc_new wc o
      have x0:wc.drew.cell? ⟨xb,3,none⟩=_:=z3
      have hxw2:xb<wc.heap.size:=by have:=HDc.out.x1;have:=HDc.out.xb2;omega
      have hxw:xb<wc.drew.heap.size:=by have:=HDc.out.x1;have:=HDc.out.xb2;show xb<wc.heap.size;omega
      have HOW:Hid (X1≤wc.heap.size∧(∀ b,(Value.slice a' L.length c').ownBlock=some b→b<wc.heap.size)∧(∀ r∈L,r.hi≤wc.heap.size)∧p≠wc.heap.size∧w.heap.size≤wc.heap.size):=hid ⟨HDc.out.x1,fun b hb=>(HDc.out.own.own.lt b hb).2,fun r hr=>(HDc.out.own.ok r hr).2.2.2.1,by have:=HDc.out.src.lt;omega,HDc.out.only.size⟩
      go_region_with (first
       | (go_at_call 36;refine(C13.out _ HB0.out).mono ?_;rintro e w7 ⟨⟨r,rfl,hr0,hr1⟩,hd7,ho7⟩;obtain ⟨i,rfl⟩:=Int.eq_ofNat_of_zero_le hr0;have hi:i<nf:=(by omega);have hii:(i:Int)<(nf:Int):=(by omega);obtain ⟨f,fb',fo',hf,e5,hfA,hfB,hfok,hfc⟩:=hd7.fields.at (i:=i) (by rw[HNF.out];exact hi);cases e5;obtain ⟨c0,c1,c2,c3,c4,c5⟩:=row6 hfc;have ⟨⟨q0,q1,q2,q3,q4⟩,_⟩:=keep5 hd7.xbox;rw[HNF.out] at q3;have HF:=hid (List.mem_of_getElem? hf);have HFOK:=hid hfok;have HD7:=hid hd7;have hfbw:fb<w7.heap.size:=(by have:=hd7.x1;omega);have hxbw:xb<w7.heap.size:=(by have:=hd7.x1;have:=hd7.xb2;omega);have HEND:Hid (∃ g,g=w7.heap.size∧w.heap.size≤g∧∀ o,(w7.alloc o).heap[g]?=some o∧DrwS w (w7.alloc o) p len cap a A B sa sn sc s X1 xb x (some ⟨fb,fo,none⟩) fca fc fcc (.slice a' L.length c') L):=hid ⟨_,rfl,hd7.only.size,fun o=>⟨heap_alloc_new w7 o,hd7.below ((Below.refl _ _).alloc (Nat.le_refl _) o)⟩⟩;clear hr0 hr1 hd7 ho7 hfc hf hfok hfA hfB)
       | (go_at_call 36;refine(C13.out _ (HB1.out _)).mono ?_;rintro e w7 ⟨⟨r,rfl,hr0,hr1⟩,hd7,ho7⟩;obtain ⟨i,rfl⟩:=Int.eq_ofNat_of_zero_le hr0;have hi:i<nf:=(by omega);have hii:(i:Int)<(nf:Int):=(by omega);obtain ⟨f,fb',fo',hf,e5,hfA,hfB,hfok,hfc⟩:=hd7.fields.at (i:=i) (by rw[HNF.out];exact hi);cases e5;obtain ⟨c0,c1,c2,c3,c4,c5⟩:=row6 hfc;have ⟨⟨q0,q1,q2,q3,q4⟩,_⟩:=keep5 hd7.xbox;rw[HNF.out] at q3;have HF:=hid (List.mem_of_getElem? hf);have HFOK:=hid hfok;have HD7:=hid hd7;have hgz:=(ho7.block wc.heap.size (by show wc.heap.size<(wc.alloc _).heap.size;simp) HOW.out.2.2.2.1.symm).trans (HG1.out _);have ⟨⟨i0,i1,i2,i3,i4,i5⟩,j0,j1,j2,j3,j4,j5⟩:=keep6 hgz;have HPUT:=hid (hd7.put6 HOW.out.1 HOW.out.2.1 HOW.out.2.2.1 hgz (.string f.name) (.string f.typ) (.bool f.list) (.bool f.must) (.int .i64 f.size) (.int .i64 f.cap));clear hr0 hr1 hd7 ho7 hfc hf hfok hfA hfB hgz))
      all_goals go_wp2_with fail
      all_goals go_meet
      all_goals (first
       | (obtain ⟨g,hg,hwg,hend⟩:=HEND.out;subst hg;exact⟨f,_,rfl,hid ⟨HF.out,HFOK.out⟩,hid (hend _).1,hwg,hid (hend _).2⟩)
       | exact⟨f,_,rfl,hid ⟨HF.out,HFOK.out⟩,hid HPUT.out.2,HOW.out.2.2.2.2,hid HPUT.out.1⟩)
     case rest =>
      obtain ⟨f,fg,rfl,HFF,HFB,hfg,HDf⟩:=hcut
      obtain ⟨hfn,hft,hfgd⟩:=HFM.out f HFF.out.1
      have HFGD:=hid hfgd
      have hfcap:=HFF.out.2.2.2.2
      unfold OkI at hfcap
      obtain ⟨hfc1,hfc2⟩:=hfcap
      have ⟨⟨e0,e1,e2,e3,e4,e5⟩,_⟩:=keep6 HFB.out
      have HOW:Hid (X1≤wc.heap.size∧(∀ b,(Value.slice a' L.length c').ownBlock=some b→b<wc.heap.size)∧(∀ r∈L,r.hi≤wc.heap.size)∧p<wc.heap.size∧w.heap.size≤wc.heap.size):=hid ⟨HDf.out.x1,fun b hb=>(HDf.out.own.own.lt b hb).2,fun r hr=>(HDf.out.own.ok r hr).2.2.2.1,HDf.out.src.lt,HDf.out.only.size⟩
      have hfl:=lt_of_get HFB.out
      have HFP:Hid (fg≠p):=hid (by have:=HDf.out.pw;omega)
      have HYA:Hid (∀ o,(wc.alloc o).heap[wc.heap.size]?=some o∧(wc.alloc o).heap[fg]?=wc.heap[fg]?∧DrwS w (wc.alloc o) p len cap a A B sa sn sc s X1 xb x (some ⟨fb,fo,none⟩) fca fc fcc (.slice a' L.length c') L):=hid fun o=>⟨heap_alloc_new wc o,Go.Deep.blk_alloc_lt _ _ _ hfl,HDf.out.below ((Below.refl _ _).alloc (Nat.le_refl _) o)⟩
      clear hfgd
      go_upto_if 82 with fail
      obtain ⟨yg,hyg⟩:∃ q,wc.heap.size=q:=⟨_,rfl⟩
      rw[hyg] at HOW HYA
      obtain ⟨wa,hwa⟩:∃ q,wc.alloc (.cells #[.int .i64 1,.string f.name,.string f.name,.int .i64 (-1),.slice none 0 0] 97)=q:=⟨_,rfl⟩
      have HA1:Hid (wa.heap[yg]?=some (.cells #[.int .i64 1,.string f.name,.string f.name,.int .i64 (-1),.slice none 0 0] 97 (0,0))):=hid (by rw[←hwa];exact(HYA.out _).1)
      have HA2:Hid (wa.heap[fg]?=some (.cells #[.string f.name,.string f.typ,.bool f.list,.bool f.must,.int .i64 f.size,.int .i64 f.cap] 84 (0,0))):=hid (by rw[←hwa];exact(HYA.out _).2.1.trans HFB.out)
      have HA3:Hid (DrwS w wa p len cap a A B sa sn sc s X1 xb x (some ⟨fb,fo,none⟩) fca fc fcc (.slice a' L.length c') L):=hid (by rw[←hwa];exact(HYA.out _).2.2)
      have HAO:Hid (Only p wc wa):=hid (by rw[←hwa];exact(Only.refl p wc).of_below (Nat.le_refl _) ((Below.refl _ _).alloc (Nat.le_refl _) _))
      obtain ⟨cb,hcb⟩:∃ q,decide (0<f.cap)=q:=⟨_,rfl⟩
      rw[hwa,hyg,hcb]
      have HCB:=hid hcb
      clear hcb hwa hyg HYA e0 e1 e2 e3 e4 e5
      have ⟨⟨e0,e1,e2,e3,e4,e5⟩,_⟩:=keep6 HA2.out
      have ⟨⟨i0,i1,i2,i3,i4⟩,j0,j1,j2,j3,j4⟩:=keep5 HA1.out
      have hYP:yg≠p:=by have:=HOW.out.2.2.2.1;omega
      have hFY:fg≠yg:=fun e=>by have h1:=HA1.out;have h2:=HA2.out;rw[e,h1] at h2;cases h2
      go_cut [83] from 84 to 97 (fun v83 wy=>∃ (key:ByteArray) (fst:Int),Hid (key.size≤9∧0≤fst+1∧fst≤100)∧Hid (wy.heap[yg]?=some (.cells #[.int .i64 1,.string key,.string f.name,.int .i64 fst,.slice none 0 0] 97 (0,0)))∧Hid (wy.heap[fg]?=some (.cells #[.string f.name,.string f.typ,.bool f.list,.bool f.must,.int .i64 f.size,.int .i64 f.cap] 84 (0,0)))∧Hid (DrwS w wy p len cap a A B sa sn sc s X1 xb x (some ⟨fb,fo,none⟩) fca fc fcc (.slice a' L.length c') L))
      case first =>
       cases cb
       rotate_left
       ·have hcap:0<f.cap:=of_decide_eq_true HCB.out
        have C1:=hid (fun w=>drwMin f.cap 3 hfc1 hfc2 (by omega) (by omega) w)
        obtain ⟨mm,hmm⟩:∃ q,min f.cap 3=q:=⟨_,rfl⟩
        have hm1:1≤mm:=by omega
        have hm3:mm≤3:=by omega
        rw[hmm] at C1
        have C2:=hid (HA3.out.n (mm+1) (by omega))
        clear hmm hcap
        go_wp2_with (first
         | (go_at_call 90;refine(C1.out _).mono ?_;rintro e w' ⟨rfl,rfl⟩)
         | (go_at_call 36;refine C2.out.mono ?_;rintro e w7 ⟨⟨r,rfl,hr0,hr1⟩,hd7,ho7⟩;have K1:=(ho7.block yg (lt_of_get HA1.out) hYP).trans HA1.out;have K2:=(ho7.block fg (lt_of_get HA2.out) (Ne.symm (fun e=>HFP.out e.symm))).trans HA2.out;have ⟨⟨l0,l1,l2,l3,l4⟩,m0,m1,m2,m3,m4⟩:=keep5 K1;have ⟨⟨n0,n1,n2,n3,n4,n5⟩,_⟩:=keep6 K2;have HK1:=hid K1;have HK2:=hid K2;have HD7:=hid hd7;have hrr:r=0∨r=1∨r=2∨r=3:=(by omega);clear hd7 ho7 K1 K2 hr0 hr1))
        have HW1:Hid ((w7.setCell ⟨yg,3,none⟩ (.int .i64 r)).heap[yg]?=some (.cells #[.int .i64 1,.string f.name,.string f.name,.int .i64 r,.slice none 0 0] 97 (0,0))):=hid (by rw[heap_setCell_same _ _ _ _ _ _ HK1.out];simp)
        have HW2:Hid ((w7.setCell ⟨yg,3,none⟩ (.int .i64 r)).heap[fg]?=some (.cells #[.string f.name,.string f.typ,.bool f.list,.bool f.must,.int .i64 f.size,.int .i64 f.cap] 84 (0,0))):=hid ((Go.Deep.blk_setCell_other _ ⟨yg,3,none⟩ _ _ hFY).trans HK2.out)
        have HW3:=hid (HD7.out.putAt HOW.out.1 HOW.out.2.1 HOW.out.2.2.1 3 (.int .i64 r))
        generalize w7.setCell ⟨yg,3,none⟩ (.int .i64 r)=w8 at *
        clear l0 l1 l2 l3 l4 m0 m1 m2 m3 m4 n0 n1 n2 n3 n4 n5 e0 e1 e2 e3 e4 e5 i0 i1 i2 i3 i4 j0 j1 j2 j3 j4 HK1 HK2
        have HPK:Hid (∀ key:ByteArray,(w8.drew.setCell ⟨yg,1,none⟩ (.string key)).heap[yg]?=some (.cells #[.int .i64 1,.string key,.string f.name,.int .i64 r,.slice none 0 0] 97 (0,0))∧(w8.drew.setCell ⟨yg,1,none⟩ (.string key)).heap[fg]?=some (.cells #[.string f.name,.string f.typ,.bool f.list,.bool f.must,.int .i64 f.size,.int .i64 f.cap] 84 (0,0))∧DrwS w (w8.drew.setCell ⟨yg,1,none⟩ (.string key)) p len cap a A B sa sn sc s X1 xb x (some ⟨fb,fo,none⟩) fca fc fcc (.slice a' L.length c') L):=hid fun key=>⟨by rw[heap_setCell_same w8.drew _ _ _ _ _ HW1.out];simp,(Go.Deep.blk_setCell_other _ ⟨yg,1,none⟩ _ _ hFY).trans HW2.out,HW3.out.drew.putAt HOW.out.1 HOW.out.2.1 HOW.out.2.2.1 1 (.string key)⟩
        have ⟨⟨l0,l1,l2,l3,l4⟩,m0,m1,m2,m3,m4⟩:=keep5 (show w8.drew.heap[yg]?=_ from HW1.out)
        have ⟨⟨n0,n1,n2,n3,n4,n5⟩,_⟩:=keep6 (show w8.drew.heap[fg]?=_ from HW2.out)
        have hns:¬ 9223372036854775807<f.name.size+1:=by omega
        have hns0:¬ 9223372036854775807<f.name.size+0:=by omega
        have hsz1:(f.name++(⟨#[107]⟩:ByteArray)).size≤9:=by rw[ByteArray.size_append];show f.name.size+1≤9;omega
        have HSZ:=hid hsz1
        clear hsz1
        rcases hrr with rfl|rfl|rfl|rfl
        all_goals go_region
        all_goals go_wp2_with fail
        all_goals go_meet
        all_goals (first
         | exact⟨_,_,hid ⟨HSZ.out,by omega,by omega⟩,hid (HPK.out _).1,hid (HPK.out _).2.1,hid (HPK.out _).2.2⟩
         | exact⟨_,_,hid ⟨by omega,by omega,by omega⟩,hid (HPK.out _).1,hid (HPK.out _).2.1,hid (HPK.out _).2.2⟩)
       ·go_wp2_with fail
        go_meet
        exact⟨f.name,-1,hid ⟨by omega,by omega,by omega⟩,HA1,HA2,HA3⟩
      case rest =>
       obtain ⟨key,fst,HKF,HY1,HY2,HDy⟩:=hcut
       clear e0 e1 e2 e3 e4 e5 i0 i1 i2 i3 i4 j0 j1 j2 j3 j4
       have ⟨⟨e0,e1,e2,e3,e4,e5⟩,_⟩:=keep6 HY2.out
       have ⟨y0,_⟩:=keep1 HDy.out.box
       have hfld:∀ (W:World) (v0 v2 v3 v4:Value) (k:Int),(Instr.field 77 (.agg #[v0,.int .i64 k,v2,v3,v4]) 1).run Tryz.prog W=.ok (.int .i64 k) W:=fun _ _ _ _ _ _=>rfl
       have CT:=hid (HDy.out.type HS.out HW.out f.typ (by omega))
       have HOKR:Hid (Selss.OkI 1∧Selss.OkS key∧Selss.OkS f.name∧Selss.OkI fst):=hid ⟨by unfold Selss.OkI;omega,by have:=HKF.out.1;unfold Selss.OkS;omega,by unfold Selss.OkS;omega,by have:=HKF.out.2;unfold Selss.OkI;omega⟩
       have hll:L.length+1≤1048576:=by omega
       obtain ⟨kf,hkf⟩:∃ q,(typeIn f.typ s).kind=q:=⟨_,rfl⟩
       rw[hkf] at CT HFGD
       clear hkf
       by_cases hleaf:kf=1
       ·have hlb:(kf != 1)=false:=by simp[hleaf]
        clear hleaf
        go_wp2_with (first
         | (go_at_call 88;refine CT.out.mono ?_;rintro e w9 ⟨⟨v0,v2,v3,v4,rfl⟩,hd9,ho9⟩;have HD9:=hid hd9;have K1:=(ho9.block yg (lt_of_get HY1.out) hYP).trans HY1.out;have ⟨⟨l0,l1,l2,l3,l4⟩,_⟩:=keep5 K1;clear hd9 ho9 K1)
         | (at_builtin;refine app_drw rfl _ _ rfl rfl HD9.out HD9.out (Nat.le_refl _) _ rfl _ _ _ _ none 0 .nil HOKR.out ⟨rfl,Nat.zero_le _,Nat.le_refl _,.inl rfl⟩ (rowNone _ _ _ _ _ _ rfl) hll ?_;intro g9 cap9 w10 L9 hL9 hn9 hd10;have HD10:=hid hd10;have HN9:=hid hn9;clear hd10 hL9 hn9))
        go_roundw
        case rel=>exact⟨_,cap9,L9,k' - 1,by rw[HN9.out],by have:=hk1.out;go_num,by have:=HN9.out;omega,HD10⟩
        case measure=>simp[intOf];omega
       ·have hlb:(kf != 1)=true:=by simp[hleaf]
        have HFG:Hid (Good s f.typ):=hid (HFGD.out hleaf)
        clear hleaf
        by_cases hdd:1<d
        ·have hdi:(1:Int)<(d:Int):=by omega
         have hd1':(d:Int) - 1=((d - 1:Nat):Int):=by omega
         have HF1:=hid (HNH.out hdd)
         clear hdd
         go_upto_region 21 with (first
          | (go_at_call 88;refine CT.out.mono ?_;rintro e w9 ⟨⟨v0,v2,v3,v4,rfl⟩,hd9,ho9⟩;have HD9:=hid hd9;have K1:=(ho9.block yg (lt_of_get HY1.out) hYP).trans HY1.out;have K2:=(ho9.block fg (lt_of_get HY2.out) HFP.out).trans HY2.out;have HK1:=hid K1;have ⟨⟨n0,n1,n2,n3,n4,n5⟩,_⟩:=keep6 K2;have ⟨b9,_⟩:=keep1 hd9.box;have CS9:=hid (hd9.sub HF1.out HS.out HW.out f.typ HFG.out);clear hd9 ho9 K1 K2)
          | (go_at_call 66;refine CS9.out.mono ?_;rintro e w10 ⟨⟨ra,rc,rn,ru,rfl,rfl,hrx,hrd⟩,hd10,ho10⟩;have K1:=(ho10.block yg (lt_of_get HK1.out) hYP).trans HK1.out;have ⟨⟨l0,l1,l2,l3,l4⟩,m0,m1,m2,m3,m4⟩:=keep5 K1;have HK3:=hid K1;have HRX:=hid hrx;have HRD:=hid hrd;have HD10:=hid hd10;have HZ10:=hid ho10.size;clear hrx hrd hd10 ho10 K1))
         obtain ⟨w11,hw11⟩:∃ q,w10.setCell ⟨yg,4,none⟩ (.slice ra ru.len rc)=q:=⟨_,rfl⟩
         have HZ11:Hid (w11.heap.size=w10.heap.size):=hid (by rw[←hw11];simp)
         have HO11:Hid (∀ c,c≠yg→w11.heap[c]?=w10.heap[c]?):=hid fun c hc=>by rw[←hw11];exact Go.Deep.blk_setCell_other _ ⟨yg,4,none⟩ _ _ hc
         have HD11:Hid (DrwS w w11 p len cap a A B sa sn sc s X1 xb x (some ⟨fb,fo,none⟩) fca fc fcc (.slice a' L.length c') L):=hid (by rw[←hw11];exact HD10.out.putAt HOW.out.1 HOW.out.2.1 HOW.out.2.2.1 4 _)
         have HK11:Hid (w11.heap[yg]?=some (.cells #[.int .i64 1,.string key,.string f.name,.int .i64 fst,.slice ra ru.len rc] 97 (0,0))):=hid (by rw[←hw11,heap_setCell_same _ _ _ _ _ _ HK3.out];simp)
         have hy9:yg<w9.heap.size:=lt_of_get HK1.out
         have HSX11:Hid (SelsX w11 w9.heap.size w11.heap.size ra ru.len ru):=hid (by rw[HZ11.out];exact HRX.out.block fun c c1 c2=>HO11.out c (by omega))
         have HRD11:Hid (∀ k key nm f,RowsD w11 [⟨k,key,nm,f,ra,rc,ru,w9.heap.size,w11.heap.size⟩]):=hid fun k key nm f=>by
          rw[HZ11.out];exact(HRD.out k key nm f).frame fun r hr c c1 c2=>by rw[List.mem_singleton] at hr;subst hr;exact HO11.out c (by have c3:w9.heap.size≤c:=c1;omega)
         have HZZ:Hid (w9.heap.size≤w11.heap.size):=hid (by rw[HZ11.out];exact HZ10.out)
         rw[hw11]
         clear hw11 l0 l1 l2 l3 l4 m0 m1 m2 m3 m4 n0 n1 n2 n3 n4 n5 b9
         have ⟨⟨l0,l1,l2,l3,l4⟩,_⟩:=keep5 HK11.out
         go_wp2_with (at_builtin;refine app_drw rfl _ _ rfl rfl HD9.out HD11.out HZZ.out _ rfl _ _ _ _ ra rc ru HOKR.out HSX11.out (HRD11.out _ _ _ _) hll ?_;intro g9 cap9 w12 L9 hL9 hn9 hd12;have HD12:=hid hd12;have HN9:=hid hn9;clear hd12 hL9 hn9)
         go_roundw
         case rel=>exact⟨_,cap9,L9,k' - 1,by rw[HN9.out],by have:=hk1.out;go_num,by have:=HN9.out;omega,HD12⟩
         case measure=>simp[intOf];omega
        ·have hdi:(d:Int)≤1:=by omega
         clear hdd
         go_wp2_with (go_at_call 88;refine CT.out.mono ?_;rintro e w9 ⟨⟨v0,v2,v3,v4,rfl⟩,hd9,ho9⟩;have HD9:=hid hd9;clear hd9 ho9)
         go_roundw
         case rel=>exact⟨a',c',L,k' - 1,rfl,by have:=hk1.out;go_num,by omega,HD9⟩
         case measure=>simp[intOf];omega
    ·have CM:=hid (HDc.out.members HS.out HW.out t HG.out)
     go_wp2_with fail
     refine CM.out.mono ?_
     rintro e w6 ⟨⟨am,cm,M,rfl,hcm,hm,hM1,hM8,hMg⟩,hd6⟩
     have HM:=hid hm
     have HMG:=hid hMg
     have HD6:=hid hd6
     have hpc:=HDc.out.src.lt
     obtain ⟨nm,hnm⟩:∃ q,M.length=q:=⟨_,rfl⟩
     rw[hnm] at hcm hM1 hM8 HM ⊢
     have HNM:=hid hnm
     have C6:=hid (hd6.n (nm:Int) (by omega))
     clear hm hMg hd6 hnm CM z0 z1 z2 z3 z4 y0
     go_wp2_with fail
     refine C6.out.mono ?_
     rintro e w7 ⟨⟨r,rfl,hr0,hr1⟩,hd7,ho7⟩
     obtain ⟨i,rfl⟩:=Int.eq_ofNat_of_zero_le hr0
     have hi:i<nm:=by omega
     have hii:(i:Int)<(nm:Int):=by omega
     obtain ⟨m,mb,mo,hmi,rfl,hmA,hmB,hmok,hmc⟩:=(HM.out.block textLies fun c c1 c2=>ho7.block c c2 (by omega)).at hi
     rw[Nat.mul_one] at hmc
     have HMI:=hid (HMG.out m (List.mem_of_getElem? hmi))
     have HD7:=hid hd7
     have C7:=hid (hd7.one 3 (by omega))
     clear hd7 ho7 hr0 hr1 hmi C6
     go_wp2_with fail
     refine C7.out.mono ?_
     rintro e w8 ⟨⟨b2,rfl⟩,hd8,ho8⟩
     have HD8:=hid hd8
     clear hmc C7
     cases b2
     ·have HF1:Hid (1<d→SelsOfC (d - 1)):=HNH
      by_cases hdd:1<d
      ·have hdi:(1:Int)<(d:Int):=by omega
       have hd1':(d:Int) - 1=((d - 1:Nat):Int):=by omega
       have ⟨y0,_⟩:=keep1 HD8.out.box
       have C8:=hid (hd8.sub (HF1.out hdd) HS.out HW.out m HMI.out)
       clear hd8 ho8 hdd
       have hll:L.length+1≤1048576:=by omega
       have HOKR:Hid (Selss.OkI 2∧Selss.OkS ⟨#[]⟩∧Selss.OkS m∧Selss.OkI (-1)):=hid ⟨by unfold Selss.OkI;omega,by unfold Selss.OkS;decide,by have:=HMI.out.1;unfold Selss.OkS;omega,by unfold Selss.OkI;omega⟩
       go_wp2_with (first
        | (go_at_call 66;refine C8.out.mono ?_;rintro e w9 ⟨⟨ra,rc,rn,ru,rfl,rfl,hrx,hrd⟩,hd9,ho9⟩;have HRX:=hid hrx;have HRD:=hid hrd;have HD9:=hid hd9;have HZ9:=hid ho9.size;clear hrx hrd hd9 ho9)
        | (at_builtin;refine app_drw rfl _ _ rfl rfl HD8.out HD9.out HZ9.out _ rfl _ _ _ _ _ _ _ HOKR.out HRX.out (HRD.out _ _ _ _) hll ?_;intro g9 cap9 w10 L9 hL9 hn9 hd10;have HD10:=hid hd10;have HN9:=hid hn9;clear hd10 hL9 hn9))
       go_roundw
       case rel=>exact⟨_,cap9,L9,k' - 1,by rw[HN9.out],by have:=hk1.out;go_num,by have:=HN9.out;omega,HD10⟩
       case measure=>simp[intOf];omega
      ·have hdi:(d:Int)≤1:=by omega
       clear hd8 ho8 hdd
       go_wp2_with fail
       go_roundw
       case rel=>exact⟨a',c',L,k' - 1,rfl,by have:=hk1.out;go_num,by omega,HD8⟩
       case measure=>simp[intOf];omega
     ·have C8:=hid (hd8.pick [⟨#[102,97]⟩,⟨#[102,98]⟩] (by simp) (by simp))
      clear hd8 ho8
      have hll:L.length+1≤1048576:=by omega
      have HZP:Hid (∀ y:ByteArray,y∈([⟨#[102,97]⟩,⟨#[102,98]⟩]:List ByteArray)→Selss.OkI 3∧Selss.OkS ⟨#[]⟩∧Selss.OkS y∧Selss.OkI (-1)):=hid fun y hy=>⟨by unfold Selss.OkI;omega,by unfold Selss.OkS;decide,by
       simp only[List.mem_cons,List.not_mem_nil,or_false] at hy
       rcases hy with rfl|rfl <;> (unfold Selss.OkS;decide),by unfold Selss.OkI;omega⟩
      go_wp2_with (first
       | (go_at_call 38;refine C8.out.mono ?_;rintro e w9 ⟨⟨y,hy,rfl⟩,hd9⟩;have HOKR:=hid (HZP.out y hy);have HD9:=hid hd9;clear hd9 hy)
       | (at_builtin;refine app_drw rfl _ _ rfl rfl HD9.out HD9.out (Nat.le_refl _) _ rfl _ _ _ _ none 0 .nil HOKR.out ⟨rfl,Nat.zero_le _,Nat.le_refl _,.inl rfl⟩ (rowNone _ _ _ _ _ _ rfl) hll ?_;intro g9 cap9 w10 L9 hL9 hn9 hd10;have HD10:=hid hd10;have HN9:=hid hn9;clear hd10 hL9 hn9))
      go_roundw
      case rel=>exact⟨_,cap9,L9,k' - 1,by rw[HN9.out],by have:=hk1.out;go_num,by have:=HN9.out;omega,HD10⟩
      case measure=>simp[intOf];omega
  ·obtain rfl:k'=0:=by omega
   have hki:((0:Nat):Int)≤0:=by omega
   clear hkp
   have HSO:Hid (∀ o,DrwS w (wr.alloc o) p len cap a A B sa sn sc s X1 xb x fa fca fc fcc (.slice a' L.length c') L):=hid fun o=>HD.out.below ((Below.refl _ _).alloc (Nat.le_refl _) o)
   have HWZ:Hid (w.heap.size≤wr.heap.size):=hid HD.out.only.size
   by_cases hl0:L.length=0
   ·have hlb:((L.length:Int) == 0)=true:=by simp[hl0]
    have HE:=hid (OwnSel.lit (w:=wr) HWZ.out 1 ⟨#[105,100]⟩ ⟨#[105,100]⟩ (-1) ⟨by unfold Selss.OkI;omega,by unfold Selss.OkS;decide,by unfold Selss.OkS;decide,by unfold Selss.OkI;omega⟩)
    have HR:Hid (∀ o,RowsD (wr.alloc o) [⟨1,⟨#[105,100]⟩,⟨#[105,100]⟩,-1,none,0,.nil,wr.heap.size,wr.heap.size⟩]):=hid fun o=>(rowNone wr _ _ _ _ _ rfl).frame fun r hr c c1 c2=>by rw[List.mem_singleton] at hr;subst hr;exact Go.Deep.blk_alloc_lt _ _ _ c2
    generalize L.length=n at hlb hl0 ⊢
    clear hl0
    go_wp2_with fail
    go_ret
    exact⟨⟨_,_,[_],rfl,HE.out,HR.out _,by simp,by simp⟩,(HSO.out _).src,(HSO.out _).only⟩
   ·have hlb:((L.length:Int) == 0)=false:=by simpa using hl0
    have HL1:Hid (1≤L.length∧L.length≤3):=hid ⟨by omega,by omega⟩
    have HN:Hid (∃ n,L.length=n):=hid ⟨_,rfl⟩
    clear hl0
    go_wp2_with fail
    go_ret
    exact⟨⟨_,_,L,rfl,OwnSel.mono HD.out.own (Nat.le_succ _),HD.out.rows,HL1.out⟩,HD.out.src,HD.out.only⟩
theorem specSelsOf:∀ d,1≤d→d≤4→SelsOfC d
 | 0,h,_=>absurd h (by omega)
 | d+1,h,h4=>selsOf_of (d+1) h h4 fun h1=>by rw[Nat.add_sub_cancel];exact specSelsOf d (by omega) (by omega)
end Go.Proofs.YtmembhpoidcmlaaGreatDoor.Draws
namespace Go.Proofs.YtmembhpoidcmlaaGreatDoor.Draws
open Go.RowKit Texts Bytes Rw Words
open Selss (OwnSel RowS rowsSels SelsX Sels OwnFrag RowF FragP)
set_option linter.unusedVariables false
set_option maxRecDepth 100000
theorem flat_at:∀{R:List RowS}{i q:Nat}{r:RowS}{u:Value},R[i]?=some r→r.cells[q]?=some u→(R.flatMap RowS.cells)[i * 5+q]?=some u
 | x::R,0,q,r,u,h,hq=>by
  cases h
  rw[List.flatMap_cons,Nat.zero_mul,Nat.zero_add,List.getElem?_append_left (List.getElem?_eq_some_iff.1 hq).1];exact hq
 | x::R,i+1,q,r,u,h,hq=>by
  have e:x.cells.length=5:=rfl
  rw[List.flatMap_cons,List.getElem?_append_right (by rw[e];omega),e,show (i+1) * 5+q - 5=i * 5+q by omega]
  exact flat_at (by simpa using h) hq
theorem OwnSel.place{w:World}{base:Nat}{a:Option Addr}{n c:Nat}{L:List RowS}(h:OwnSel w base (.slice a n c) L)(hL:L≠[]) :
  ∃ gb C,a=some ⟨gb,0,none⟩∧base≤gb∧w.heap[gb]?=some (.cells C 97 (0,0))∧n=L.length∧C.size=c * 5∧n≤c∧C.toList.take (n * 5)=L.flatMap RowS.cells:=by
 obtain ⟨hl,⟨hv,hn⟩|⟨gb,cap,cur,hv,hb,hg,hc,hm,hs,ht⟩⟩:=h.own
 ·exact absurd (List.eq_nil_of_length_eq_zero hn) hL
 ·cases hv
  exact⟨gb,cur,rfl,hb,hg,rfl,hs,hc,ht⟩
theorem OwnSel.cell{w:World}{base:Nat}{a:Option Addr}{n c:Nat}{L:List RowS}(h:OwnSel w base (.slice a n c) L){i:Nat}{r:RowS}(hi:L[i]?=some r) :
  ∃ gb,a=some ⟨gb,0,none⟩∧base≤gb∧gb<w.heap.size∧n=L.length∧n≤c∧(∀ q u,r.cells[q]?=some u→w.cell? ⟨gb,i * 5+q,none⟩=some u)∧∀ j,w.frozen? ⟨gb,j,none⟩=false:=by
 obtain ⟨gb,C,e,hb,hg,hn,hs,hc,ht⟩:=OwnSel.place h (by rintro rfl;simp at hi)
 refine⟨gb,e,hb,lt_of_get hg,hn,hc,fun q u hq=>?_,fun j=>frozen_of_row w gb j _ _ hg⟩
 have hf:=flat_at hi hq
 rw[←ht] at hf
 have h2:=(List.getElem?_eq_some_iff.1 hf).1
 rw[List.length_take] at h2
 rw[List.getElem?_take_of_lt (by omega)] at hf
 exact cell_of hg (by rw[←hf];simp)
theorem OwnIn.cell{w:World}{lo hi:Nat}{a:Option Addr}{n c:Nat}{L:List RowS}(h:OwnIn w lo hi (.slice a n c) L){i:Nat}{r:RowS}(hi':L[i]?=some r) :
  ∃ gb,a=some ⟨gb,0,none⟩∧lo≤gb∧gb<hi∧n=L.length∧n≤c∧(∀ q u,r.cells[q]?=some u→w.cell? ⟨gb,i * 5+q,none⟩=some u)∧∀ j,w.frozen? ⟨gb,j,none⟩=false:=by
 obtain ⟨w0,h1,h2,h3,h4⟩:=h
 obtain ⟨gb,C,e,hb,hg,hn,hs,hc,ht⟩:=OwnSel.place h2 (by rintro rfl;simp at hi')
 have hlt:gb<hi:=by rw[←h1];exact lt_of_get hg
 have hg':=(h4 gb hb hlt).trans hg
 obtain ⟨gb',e',_,_,_,_,hcell,_⟩:=OwnSel.cell h2 hi'
 obtain rfl:gb'=gb:=by rw[e] at e';cases e';rfl
 exact⟨gb',e,hb,hlt,hn,hc,fun q u hq=>(World.cell?_of_block (w:=w0) (h4 gb' hb hlt)).trans (hcell q u hq),fun j=>frozen_of_row w gb' j _ _ hg'⟩
def FragsD(w:World)(F:List RowF):Prop:=∀ r∈F,∃ inn:List RowS,OwnIn w r.lo r.hi (.slice r.a r.u.len r.cap) inn∧rowsSels inn=r.u∧inn.length≤4∧RowsD w inn
theorem FragsD.frame{w w':World}{F:List RowF}(h:FragsD w F)(g:∀ r∈F,∀ c,r.lo≤c→c<r.hi→w'.heap[c]?=w.heap[c]?):FragsD w' F:=fun r hr=>by
 obtain ⟨inn,h1,h2,h3,h4⟩:=h r hr
 refine⟨inn,h1.frame (g r hr),h2,h3,h4.frame fun q hq c c1 c2=>?_⟩
 obtain ⟨w0,e1,e2,e3,e4⟩:=h1
 obtain ⟨_,_,g3,g4,_⟩:=e2.ok q hq
 exact g r hr c (by omega) (by omega)
theorem FragsD.nil(w:World):FragsD w []:=fun r hr=>by cases hr
section
variable {w:World} {ops:Array Oper} {rest:List Oper} {o:Oper} {a:Act} {Q:Exit→Act→World→Prop}
theorem app_fragG(hgd:o.guard=none)(s x:Operand)
  (ho:o.op=.call { callee:=.builtin .append,args:=#[s,x],argTypes:=#[24,24] })
  (base:Nat) (v:Value) (L:List RowF) (hs:a.eval s=v) (hown:OwnFrag w base v L)
  (B c:Nat) (hx:a.eval x=.slice (some ⟨B,0,none⟩) 1 c) (r:RowF) (hc:w.heap[B]?=some (.cells r.cells.toArray 51 (0,0)))
  (hr:Selss.OkF w r.lo r.hi r∧base≤r.lo∧r.hi≤w.heap.size∧∀ g,v.ownBlock=some g→g<r.lo∨r.hi≤g) (hord:∀ q∈L,q.hi≤r.lo)
  (hsize:L.length+1≤1048576) (hbase:base≤w.heap.size)
  (h:∀ g cap w',OwnFrag w' base (.slice (some ⟨g,0,none⟩) (L.length+1) cap) (L++[r])→w.grownBy w' v.ownBlock→(v.ownBlock=some g∨g=w.heap.size)→wpList Tryz.prog ops Q rest (a.put o.dst (.slice (some ⟨g,0,none⟩) (L.length+1) cap)) w'):wpList Tryz.prog ops Q (o::rest) a w:=by
 obtain ⟨i0,hi,hz0,hz1,hz2⟩:=info_parts Selss.infoFrag3
 refine wpList_append_lies w hgd s x 24 ho base 51 i0 _ 3 56 Tryz.underlying24 hi hz0 hz1 hz2 rfl (by decide) v L.length (L.flatMap RowF.cells) hs hown.own ⟨B,0,none⟩ 1 c r.cells hx rfl
  (fun j u hj=>World.news_of_block hc j u (by simpa using hj)) (fun u hu=>?_) (by omega) (by unfold maxLen;omega) (by omega) hbase _ rfl ?_
 ·simp[RowF.cells] at hu
  rcases hu with rfl|rfl|rfl <;> rfl
 ·intro g cap w' hown' hgrow hat hlt
  have hblk:∀ c,c<w.heap.size→some c≠v.ownBlock→w'.heap[c]?=w.heap[c]?:=fun c h1 h2=>hgrow.block c h1 h2
  refine h g cap w' ⟨?_,List.pairwise_append.2 ⟨hown.order,List.pairwise_singleton _ _,fun q hq r' hr'=>by rw[List.mem_singleton] at hr';subst hr';exact hord q hq⟩,fun q hq=>?_⟩ hgrow hat
  ·rw[List.flatMap_append,List.length_append];simpa using hown'
  ·have hq2:Selss.OkF w q.lo q.hi q∧base≤q.lo∧q.hi≤w.heap.size∧∀ g,v.ownBlock=some g→g<q.lo∨q.hi≤g:=by
    rcases List.mem_append.1 hq with hq|hq
    ·exact hown.ok q hq
    ·rw[List.mem_singleton] at hq;subst hq;exact hr
   obtain ⟨⟨h1,h2⟩,h3,h4,h5⟩:=hq2
   have far:∀ c,q.lo≤c→c<q.hi→w'.heap[c]?=w.heap[c]?:=fun c c1 c2=>hblk c (by omega) fun e=>by
    have:=h5 c e.symm;omega
   have last:∀ g',(Value.slice (some ⟨g,0,none⟩) (L.length+1) cap).ownBlock=some g'→g' < q.lo∨q.hi≤g':=fun g' hg'=>by
    have e:g'=g:=by simpa [Value.ownBlock] using hg'.symm
    subst e
    rcases hat with hat|hat
    ·exact h5 _ hat
    ·right;omega
   exact⟨⟨h1,h2.block far⟩,h3,Nat.le_trans h4 hgrow.size,last⟩
end
structure DocS(w W:World)(p len cap:Nat)(a:Option Addr)(A B:Nat)(sa:Option Addr)(sn sc:Nat)(s:List TypeP)(db:Nat)(ra:Option Addr)(rc:Nat)(L:List RowS)(lo M E:Nat)(fv:Value)(F:List RowF):Prop where
 src:Src W p a len cap
 only:Only p w W
 sch:SchemaAt W A B (.agg #[.slice sa sn sc]) s
 box:W.heap[w.heap.size]?=some (.cells #[.slice sa sn sc] 35 (0,0))
 res:W.heap[w.heap.size+1]?=some (.cells #[.slice none 0 0,.slice none 0 0] 26 (0,0))
 dbox:W.heap[db]?=some (.cells #[.slice ra L.length rc,fv] 26 (0,0))
 sels:OwnIn W lo M (.slice ra L.length rc) L
 rows:RowsD W L
 frags:OwnFrag W E fv F
 fragsD:FragsD W F
 l1:1≤L.length
 l3:L.length≤3
 lo1:w.heap.size+2≤lo
 lo2:lo≤M
 M1:M≤E
 db1:w.heap.size+2≤db
 db2:db<E
 db3:db<lo∨M≤db
 E1:E≤W.heap.size
 pA:p<A
 pw:p<w.heap.size
 Bw:B≤w.heap.size
section
variable {w W W':World} {p len cap:Nat} {a:Option Addr} {A B:Nat} {sa:Option Addr} {sn sc:Nat} {s:List TypeP} {db:Nat} {ra:Option Addr} {rc:Nat} {L:List RowS} {lo M E:Nat} {fv:Value} {F:List RowF}
theorem DocS.step(h:DocS w W p len cap a A B sa sn sc s db ra rc L lo M E fv F)(g:Only p W W')(hs:Src W' p a len cap):DocS w W' p len cap a A B sa sn sc s db ra rc L lo M E fv F:=by
 have h1:=h.only.size
 have hk:∀ c,c<W.heap.size→c≠p→W'.heap[c]?=W.heap[c]?:=g.block
 obtain ⟨e1,e2,e3,e4,e5,e6,e7,e8,e9,e10,l1,l3,q1,q2,q3,q4,q5,q6,q7,q8,q9,q10⟩:=h
 refine⟨hs,e2.trans g,SchemaAt.far e3 fun c c1 c2=>hk c (by omega) (by omega),(hk _ (by omega) (by omega)).trans e4,(hk _ (by omega) (by omega)).trans e5,(hk _ (by omega) (by omega)).trans e6,e7.frame fun c c1 c2=>hk c (by omega) (by omega),e8.frame fun r hr c c1 c2=>?_,e9.frame g.size fun c c1 c2=>hk c c2 (by omega),e10.frame fun r hr c c1 c2=>?_,l1,l3,q1,q2,q3,q4,q5,q6,Nat.le_trans q7 g.size,q8,q9,q10⟩
 ·obtain ⟨w0,z1,z2,z3,z4⟩:=e7
  obtain ⟨_,_,g3,g4,_⟩:=z2.ok r hr
  exact hk c (by omega) (by omega)
 ·obtain ⟨_,g3,g4,_⟩:=e9.ok r hr
  exact hk c (by omega) (by omega)
theorem DocS.below(h:DocS w W p len cap a A B sa sn sc s db ra rc L lo M E fv F)(g:Below W.heap.size W W'):DocS w W' p len cap a A B sa sn sc s db ra rc L lo M E fv F :=
 h.step ((Only.refl p W).of_below (Nat.le_refl _) g) (h.src.below h.src.lt g)
theorem DocS.drew(h:DocS w W p len cap a A B sa sn sc s db ra rc L lo M E fv F):DocS w W.drew p len cap a A B sa sn sc s db ra rc L lo M E fv F:=h.below (Below.refl _ _).drew
theorem DocS.app(h:DocS w W p len cap a A B sa sn sc s db ra rc L lo M E fv F){g c:Nat}{r:RowF}(hown:OwnFrag W' E (.slice (some ⟨g,0,none⟩) (F.length+1) c) (F++[r]))(hgrow:W.grownBy W' fv.ownBlock)
  (hr:FragsD W [r]) (hlo:∀ g,fv.ownBlock=some g→g<r.lo∨r.hi≤g) (hhi:r.hi≤W.heap.size) (hfar:E≤r.lo) :
  DocS w (W'.setCell ⟨db,1,none⟩ (.slice (some ⟨g,0,none⟩) (F.length+1) c)) p len cap a A B sa sn sc s db ra rc L lo M E (.slice (some ⟨g,0,none⟩) (F.length+1) c) (F++[r]):=by
 have hsz:=hgrow.size
 have hk:∀ c,c<W.heap.size→c<E→W'.heap[c]?=W.heap[c]?:=fun c c1 c2=>hgrow.block c c1 fun e=>by
  have:=(h.frags.own.lt c e.symm).1;omega
 have hk2:∀ c,c≠db→(W'.setCell ⟨db,1,none⟩ (.slice (some ⟨g,0,none⟩) (F.length+1) c)).heap[c]?=W'.heap[c]?:=fun c hc=>Go.Deep.blk_setCell_other _ ⟨db,1,none⟩ _ _ hc
 obtain ⟨e1,e2,e3,e4,e5,e6,e7,e8,e9,e10,l1,l3,q1,q2,q3,q4,q5,q6,q7,q8,q9,q10⟩:=h
 have h1:=e2.size
 have hall:∀ x,x<E→x≠db→(W'.setCell ⟨db,1,none⟩ (.slice (some ⟨g,0,none⟩) (F.length+1) c)).heap[x]?=W.heap[x]?:=fun x x1 x2=>(Go.Deep.blk_setCell_other _ ⟨db,1,none⟩ _ _ x2).trans (hk x (by omega) x1)
 have hb1:Below (w.heap.size+2) W W':=⟨hgrow.os,hgrow.tape,hgrow.output,hsz,fun x hx=>hk x (by omega) (by omega)⟩
 have hb2:=hb1.setCell (p:=⟨db,1,none⟩) (show w.heap.size+2≤db by omega) (.slice (some ⟨g,0,none⟩) (F.length+1) c)
 refine⟨e1.below (by omega) hb2,e2.of_below (by omega) hb2,SchemaAt.far e3 fun c c1 c2=>hall c (by omega) (by omega),(hall _ (by omega) (by omega)).trans e4,(hall _ (by omega) (by omega)).trans e5,?_,e7.frame fun c c1 c2=>hall c (by omega) (by omega),e8.frame fun r hr c c1 c2=>?_,hown.frame (by simp) fun c c1 c2=>Go.Deep.blk_setCell_other _ ⟨db,1,none⟩ _ _ (by show c≠db;omega),fun q hq=>?_,l1,l3,q1,q2,q3,q4,q5,q6,by simp;omega,q8,q9,q10⟩
 ·rw[heap_setCell_same _ _ _ _ _ _ ((hk db (by omega) q5).trans e6)];simp
 ·obtain ⟨w0,z1,z2,z3,z4⟩:=e7
  obtain ⟨_,_,g3,g4,_⟩:=z2.ok r hr
  exact hall c (by omega) (by omega)
 ·have key:(∀ c,q.lo≤c→c<q.hi→(W'.setCell ⟨db,1,none⟩ (.slice (some ⟨g,0,none⟩) (F.length+1) c)).heap[c]?=W.heap[c]?)→True:=fun _=>trivial
  have far:∀ x,q.lo≤x→x<q.hi→E≤q.lo→(∀ g,fv.ownBlock=some g→g<q.lo∨q.hi≤g)→q.hi≤W.heap.size→(W'.setCell ⟨db,1,none⟩ (.slice (some ⟨g,0,none⟩) (F.length+1) c)).heap[x]?=W.heap[x]?:=fun x x1 x2 x3 x4 x5 =>
   (Go.Deep.blk_setCell_other _ ⟨db,1,none⟩ _ _ (by show x≠db;omega)).trans (hgrow.block x (by omega) fun e=>by have:=x4 x e.symm;omega)
  rcases List.mem_append.1 hq with hq|hq
  ·obtain ⟨_,g3,g4,g5⟩:=e9.ok q hq
   have:=FragsD.frame (w':=W'.setCell ⟨db,1,none⟩ (.slice (some ⟨g,0,none⟩) (F.length+1) c)) (F:=[q]) (fun r hr=>by rw[List.mem_singleton] at hr;subst hr;exact e10 r hq) fun r hr x x1 x2=>by rw[List.mem_singleton] at hr;subst hr;exact far x x1 x2 g3 g5 g4
   exact this q (by simp)
  ·rw[List.mem_singleton] at hq;subst hq
   have:=hr.frame (w':=W'.setCell ⟨db,1,none⟩ (.slice (some ⟨g,0,none⟩) (F.length+1) c)) fun r hr x x1 x2=>by rw[List.mem_singleton] at hr;subst hr;exact far x x1 x2 hfar hlo hhi
   exact this q (by simp)
theorem DocS.raise{E':Nat}(h:DocS w W p len cap a A B sa sn sc s db ra rc L lo M E (.slice none 0 0) [])(h1:E≤E')(h2:E'≤W.heap.size):DocS w W p len cap a A B sa sn sc s db ra rc L lo M E' (.slice none 0 0) []:=by
 obtain ⟨e1,e2,e3,e4,e5,e6,e7,e8,e9,e10,l1,l3,q1,q2,q3,q4,q5,q6,q7,q8,q9,q10⟩:=h
 exact⟨e1,e2,e3,e4,e5,e6,e7,e8,OwnFrag.none_ _ _,e10,l1,l3,q1,q2,by omega,q4,by omega,q6,h2,q8,q9,q10⟩
theorem DocS.n(h:DocS w W p len cap a A B sa sn sc s db ra rc L lo M E fv F)(most:Int)(hm:most≤9223372036854775807) :
  Calls Tryz.prog 36 #[.pointer (some ⟨p,0,none⟩),.int .i64 most] W fun e w'=>(∃ r,e=.returned (.int .i64 r)∧0≤r∧(r<most∨r=0))∧DocS w w' p len cap a A B sa sn sc s db ra rc L lo M E fv F∧Only p W w' :=
 (src_n _ p len cap a h.src most hm).mono fun e w' ⟨h1,h2,h3⟩=>⟨h1,h.step h3 h2,h3⟩
theorem DocS.subs(h:DocS w W p len cap a A B sa sn sc s db ra rc L lo M E fv F)(hs:schemaB s=true)(hw:schWt s≤1048576)(t:ByteArray)(hg:Good s t)(d:Nat)(hd1:1≤d)(hd4:d≤4) :
  Calls Tryz.prog 66 #[.pointer (some ⟨p,0,none⟩),.agg #[.slice sa sn sc],.string t,.int .i64 d] W fun e w' =>
   (∃ a' c' n L',e=.returned (.slice a' n c')∧n=List.length L'∧OwnSel w' W.heap.size (.slice a' n c') L'∧RowsD w' L'∧1≤n∧n≤3)∧DocS w w' p len cap a A B sa sn sc s db ra rc L lo M E fv F∧Only p W w' :=
 (specSelsOf d hd1 hd4 W p len cap a A B sa sn sc s t h.src h.sch h.pA (Nat.le_trans h.Bw h.only.size) hs hw hg).mono fun e w' ⟨⟨a',c',L',h1,h2,h3,h4,h5⟩,hs',ho⟩=>⟨⟨a',c',_,L',h1,rfl,h2,h3,h4,h5⟩,h.step ho hs',ho⟩
end
end Go.Proofs.YtmembhpoidcmlaaGreatDoor.Draws
