/-
  Contract: the draw of a question of which something may be wrong (l03Doc); of what was there only the source is changed. Conditions: as the theorem says.
-/
import Derived.Test.YtmembhpoidcmlaaGreatDoorRows
import Derived.Test.YtmembhpoidcmlaaGreatDoorDrawDK
import Derived.Deep.CutRange
import Derived.Deep.RegionLaw
import Derived.Deep.RegionHeld3
namespace Go.Proofs.YtmembhpoidcmlaaGreatDoor.Draws
open Lib (hid)
open Go.RowKit Texts Bytes Rw Words
open Selss (OwnSel RowS rowsSels SelsX Sels OwnFrag RowF FragP DocP DocAt SelsAt FragsAt FragLie)
set_option linter.unusedVariables false
set_option maxRecDepth 100000
section
variable {w W W':World} {p len cap:Nat} {a:Option Addr} {db:Nat} {ra:Option Addr} {rc:Nat} {L:List RowS} {lo M E:Nat} {fa:Option Addr} {fc:Nat} {F:List RowF}
theorem DocT.writeS{gb:Nat}(h:DocT w W p len cap a db (some ⟨gb,0,none⟩) rc L lo M E fa fc F){i q:Nat}{r r':RowS}{u:Value}(hi:L[i]?=some r)(hq:q<5)(hc:r'.cells=r.cells.set q u)(hu:r'.a=r.a∧r'.u=r.u)
  (hok:Selss.OkI r'.k∧Selss.OkS r'.key∧Selss.OkS r'.nm∧Selss.OkI r'.f):(∃ v,W.cell? ⟨gb,i * 5+q,none⟩=some v)∧W.frozen? ⟨gb,i * 5+q,none⟩=false∧DocF w (W.setCell ⟨gb,i * 5+q,none⟩ u) p len cap a db:=by
 obtain ⟨_,_,_,_,_,_,gb',e,_,_,_,hcell,hfz⟩:=h.rowAt hi
 cases e
 exact⟨⟨_,hcell q _ (List.getElem?_eq_getElem (by simpa [RowS.cells] using hq))⟩,hfz _,h.putSel hi rfl hq hc hu hok⟩
theorem DocT.writeF{gb:Nat}(h:DocT w W p len cap a db ra rc L lo M E (some ⟨gb,0,none⟩) fc F){i q:Nat}{r r':RowF}{u:Value}(hi:F[i]?=some r)(hq:q<3)(hc:r'.cells=r.cells.set q u)(hu:r'.a=r.a∧r'.u=r.u)
  (hok:Selss.OkS r'.nm∧Selss.OkS r'.on):(∃ v,W.cell? ⟨gb,i * 3+q,none⟩=some v)∧W.frozen? ⟨gb,i * 3+q,none⟩=false∧DocF w (W.setCell ⟨gb,i * 3+q,none⟩ u) p len cap a db:=by
 obtain ⟨_,_,_,_,_,_,gb',e,_,_,_,hcell,hfz⟩:=h.fragAt hi
 cases e
 exact⟨⟨_,hcell q _ (List.getElem?_eq_getElem (by simpa [RowF.cells] using hq))⟩,hfz _,h.putFrag hi rfl hq hc hu hok⟩
theorem DocT.pick(h:DocT w W p len cap a db ra rc L lo M E fa fc F){W1:World}(hb:Below W.heap.size W W1)(g:Nat)(l:List ByteArray)(hg:W1.heap[g]?=some (.cells (l.map Value.string).toArray 9 (0,0)))(hgp:g≠p)(h1:1≤l.length)(h2:l.length≤100)(h3:(l.all fun x=>decide (x.size≤20))=true) :
  Calls Tryz.prog 38 #[.pointer (some ⟨p,0,none⟩),.slice (some ⟨g,0,none⟩) l.length l.length] W1 fun e w'=>(∃ x,Selss.OkS x∧e=.returned (.string x))∧DocT w w' p len cap a db ra rc L lo M E fa fc F∧Only p W1 w' :=
 (src_pick W1 p len cap a (h.below hb).src g l hg hgp h1 h2).mono fun e w' ⟨⟨x,hx,e1⟩,hs,ho⟩=>⟨⟨x,by have:=List.all_eq_true.1 h3 x hx;simp at this;unfold Selss.OkS;omega,e1⟩,(h.below hb).step ho hs,ho⟩
theorem DocT.num(h:DocT w W p len cap a db ra rc L lo M E fa fc F){W1:World}(hb:Below W.heap.size W W1)(most:Int)(hm:most≤9223372036854775807) :
  Calls Tryz.prog 36 #[.pointer (some ⟨p,0,none⟩),.int .i64 most] W1 fun e w'=>(∃ r,e=.returned (.int .i64 r)∧0≤r∧(r<most∨r=0))∧DocT w w' p len cap a db ra rc L lo M E fa fc F∧Only p W1 w' :=
 (src_n W1 p len cap a (h.below hb).src most hm).mono fun e w' ⟨h1,hs,ho⟩=>⟨h1,(h.below hb).step ho hs,ho⟩
end
set_option maxHeartbeats 8000000 in
theorem specDoc(w:World)(p len cap:Nat)(a:Option Addr)(A B:Nat)(sa:Option Addr)(sn sc:Nat)(s:List TypeP)(hsrc:Src w p a len cap)(hsch:SchemaAt w A B (.agg #[.slice sa sn sc]) s)(hpA:p<A)(hB:B≤w.heap.size)(hs:schemaB s=true)(hw:schWt s≤1048576)
  (hgood:∀ t∈([⟨#[81]⟩,⟨#[85,83,69,82]⟩,⟨#[80,79,83,84]⟩]:List ByteArray),Good s t) :
  Calls Tryz.prog 61 #[.pointer (some ⟨p,0,none⟩),.agg #[.slice sa sn sc]] w fun e w'=>(∃ v d,e=.returned v∧DocAt w' (w.heap.size+2) w'.heap.size v d)∧Src w' p a len cap∧Only p w w':=by
 have hpw:=hsrc.lt
 have HDO:Hid (∀ o1 o2,Calls Tryz.prog 34 #[.pointer (some ⟨p,0,none⟩),.agg #[.slice sa sn sc]] ((w.alloc o1).alloc o2) fun e w'=>(∃ v,e=.returned v∧DocR ((w.alloc o1).alloc o2) w' p len cap a v)∧Src w' p a len cap∧Only p ((w.alloc o1).alloc o2) w'):=hid fun o1 o2=>by
  have hb:Below w.heap.size w ((w.alloc o1).alloc o2):=((Below.refl _ _).alloc (Nat.le_refl _) o1).alloc (by simp) o2
  exact specDocOf _ p len cap a A B sa sn sc s (hsrc.below hpw hb) (hsch.below hB hb) hpA (Nat.le_trans hB hb.size) hs hw hgood
 have HA2:Hid (∀ o1 o2,Below w.heap.size w ((w.alloc o1).alloc o2)):=hid fun o1 o2=>((Below.refl _ _).alloc (Nat.le_refl _) o1).alloc (by simp) o2
 have HK2:Hid (∀ o1 o2,((w.alloc o1).alloc o2).heap[w.heap.size+1]?=some o2∧((w.alloc o1).alloc o2).heap.size=w.heap.size+2):=hid fun o1 o2=>by
  refine⟨?_,by simp⟩
  have:=heap_alloc_new (w.alloc o1) o2
  simpa using this
 clear hsrc hsch hs hw hgood
 go_enter Tryz.func61,Tryz.ntmps61
 go_wp2_with fail
 refine(HDO.out _ _).mono ?_
 rintro e w1 ⟨⟨v,rfl,ra,rc,L,lo,M,E,fv,F,rfl,e7,e8,e9,e10,l1,l3,f2,q1,q2,q3,q4⟩,hs1,ho1⟩
 obtain ⟨fa,fc,rfl⟩:=e9.len
 have HDT:Hid (DocT w (w1.alloc (.cells #[.slice ra L.length rc,.slice fa F.length fc] 26)) p len cap a w1.heap.size ra rc L lo M E fa fc F):=hid (by
  have hz:=(HK2.out (.cells #[.slice sa sn sc] 35) (.cells #[.slice none 0 0,.slice none 0 0] 26)).2
  have hz1:=ho1.size
  have hb:∀ o,Below w1.heap.size w1 (w1.alloc o):=fun o=>(Below.refl _ _).alloc (Nat.le_refl _) o
  have hk:∀ o c,c<w1.heap.size→(w1.alloc o).heap[c]?=w1.heap[c]?:=fun o c hc=>(hb o).block c hc
  have hon:Only p w w1:=((Only.refl p w).of_below (Nat.le_refl _) (HA2.out _ _)).trans ho1
  have hrow:∀ r∈L,r.hi≤w1.heap.size:=fun r hr=>by
   obtain ⟨w0,z1,z2,z3,z4⟩:=e7
   obtain ⟨_,_,g3,g4,_⟩:=z2.ok r hr
   omega
  have hfr:∀ r∈F,r.hi≤w1.heap.size:=fun r hr=>by
   obtain ⟨_,g3,g4,_⟩:=e9.ok r hr
   omega
  refine⟨hs1.below hs1.lt (hb _),hon.of_below hon.size (hb _),?_,heap_alloc_new w1 _,e7.frame fun c c1 c2=>hk _ c (by omega),e8.frame fun r hr c c1 c2=>hk _ c (by have:=hrow r hr;omega),⟨w1,rfl,e9,q4,fun c c1 c2=>hk _ c c2⟩,e10.frame fun r hr c c1 c2=>hk _ c (by have:=hfr r hr;omega),l1,l3,f2,by omega,q2,q3,q4,by simp,hpw⟩
  exact(hk _ _ (by omega)).trans ((ho1.block _ (by omega) (by omega)).trans (HK2.out _ _).1))
 clear e7 e8 e9 e10 q1 q2 q3 q4 hs1 ho1 HDO HA2 HK2
 have HL:Hid (1≤L.length∧L.length≤3):=hid ⟨l1,l3⟩
 have HF2:Hid (F.length=2):=hid f2
 clear f2
 go_wp2_with fail
 obtain ⟨db,hdb⟩:∃ g,w1.heap.size=g:=⟨_,rfl⟩
 rw[hdb] at HDT ⊢
 clear hdb
 refine(src_one _ p len cap a HDT.out.src 4 (by omega)).mono ?_
 rintro e w3 ⟨⟨bv,rfl⟩,hs3,ho3⟩
 have HT3:=hid (HDT.out.step ho3 hs3)
 clear hs3 ho3 HDT
 go_upto_if 11 with fail
 go_cut [6] from 12 to 131 (fun v6 wx=>Hid (DocF w wx p len cap a db))
 case first =>
  cases bv
  ·go_wp2_with fail
   go_meet
   exact hid HT3.out.fin
  have ⟨⟨k0,k1⟩,_⟩:=keep2 HT3.out.dbox
  go_wp2_with fail
  refine(HT3.out.num (Below.refl _ _) (L.length:Int) (by omega)).mono ?_
  rintro e w4 ⟨⟨r,rfl,hr0,hr1⟩,ht4,_⟩
  have HT4:=hid ht4
  obtain ⟨i,rfl⟩:=Int.eq_ofNat_of_zero_le hr0
  have hil:i<L.length:=by omega
  clear ht4 HT3 k0 k1 hr0 hr1
  go_wp2_with fail
  refine(HT4.out.num (Below.refl _ _) 7 (by omega)).mono ?_
  rintro e w5 ⟨⟨q,rfl,hq0,hq1⟩,ht5,_⟩
  have HT5:=hid ht5
  clear ht5 HT4
  obtain ⟨r,hr⟩:∃ r,L[i]?=some r:=⟨_,List.getElem?_eq_getElem hil⟩
  have hii:(i:Int)<(L.length:Int):=by omega
  obtain ⟨hok,_,_,_,_,_,gb,rfl,b1,b2,b3,hcell,_⟩:=HT5.out.rowAt hr
  have HR:=hid hr
  have HOK:=hid hok
  have hgbw:gb<w5.heap.size:=by have:=HT5.out.M1;have:=HT5.out.E1;have:=HT5.out.db1;omega
  have hdbw:db<w5.heap.size:=HT5.out.db1
  have ⟨⟨k0,k1⟩,_⟩:=keep2 HT5.out.dbox
  have HPP:Hid (w5.heap.size≠p):=hid (by have:=HT5.out.src.lt;omega)
  have HB0:Hid (∀ o,Below w5.heap.size w5 (w5.alloc o).drew∧(w5.alloc o).drew.heap[w5.heap.size]?=some o∧w5.heap.size<(w5.alloc o).drew.heap.size):=hid fun o=>⟨((Below.refl _ _).alloc (Nat.le_refl _) o).drew,heap_alloc_new w5 o,by show _<(w5.alloc o).heap.size;simp⟩
  have HBD:Hid (Below w5.heap.size w5 w5.drew):=hid (Below.refl _ _).drew
  clear hr hok b1 b2 b3 hcell
  rcases (show q=0∨q=1∨q=2∨q=3∨q=4∨q=5∨q=6 by omega) with rfl|rfl|rfl|rfl|rfl|rfl|rfl
  ·have HSC:Hid (∀ (W:World) (x:ByteArray),Selss.OkS x→DocT w W p len cap a db (some ⟨gb,0,none⟩) rc L lo M E fa fc F→(∃ u,W.cell? ⟨gb,i * 5+2,none⟩=some u)∧W.frozen? ⟨gb,i * 5+2,none⟩=false∧DocF w (W.setCell ⟨gb,i * 5+2,none⟩ (.string x)) p len cap a db) :=
    hid fun W x hx h=>h.writeS (r':=⟨r.k,r.key,x,r.f,r.a,r.cap,r.u,r.lo,r.hi⟩) HR.out (by omega) rfl ⟨rfl,rfl⟩ ⟨HOK.out.1,HOK.out.2.1,hx,HOK.out.2.2.2⟩
   go_wp2_with fail
   go_region_with (go_at_call 38;refine(HT5.out.pick (HB0.out _).1 w5.heap.size [⟨#[122,122]⟩,⟨#[65]⟩,⟨#[117,115,101,114,115]⟩,⟨#[105,100]⟩] (HB0.out _).2.1 HPP.out (by simp) (by simp) rfl).mono ?_;rintro e w6 ⟨⟨x,hx,rfl⟩,ht6,_⟩;have HY:=hid (HSC.out _ x hx ht6);have ⟨⟨m0,m1⟩,_⟩:=keep2 ht6.dbox;obtain ⟨u,hu⟩:=HY.out.1;have hfz:=HY.out.2.1;clear hx ht6)
   all_goals go_wp2_with fail
   all_goals go_meet
   all_goals exact hid HY.out.2.2
  ·have HSC:Hid (∀ (W:World) (x:Int),Selss.OkI x→DocT w W p len cap a db (some ⟨gb,0,none⟩) rc L lo M E fa fc F→(∃ u,W.cell? ⟨gb,i * 5+3,none⟩=some u)∧W.frozen? ⟨gb,i * 5+3,none⟩=false∧DocF w (W.setCell ⟨gb,i * 5+3,none⟩ (.int .i64 x)) p len cap a db) :=
    hid fun W x hx h=>h.writeS (r':=⟨r.k,r.key,r.nm,x,r.a,r.cap,r.u,r.lo,r.hi⟩) HR.out (by omega) rfl ⟨rfl,rfl⟩ ⟨HOK.out.1,HOK.out.2.1,HOK.out.2.2.1,hx⟩
   have HFV:Hid (∀ (W:World) (g q:Nat),q<5→W.heap[g]?=some (.cells #[.int .i64 (-2),.int .i64 (-1),.int .i64 0,.int .i64 100,.int .i64 101] 2 (0,0))→∃ f,Selss.OkI f∧W.cell? ⟨g,q,none⟩=some (.int .i64 f)):=hid fun W g q hq hg=>by
    rcases (show q=0∨q=1∨q=2∨q=3∨q=4 by omega) with rfl|rfl|rfl|rfl|rfl
    ·exact⟨-2,by unfold Selss.OkI;omega,Rw.cell_of hg rfl⟩
    ·exact⟨-1,by unfold Selss.OkI;omega,Rw.cell_of hg rfl⟩
    ·exact⟨0,by unfold Selss.OkI;omega,Rw.cell_of hg rfl⟩
    ·exact⟨100,by unfold Selss.OkI;omega,Rw.cell_of hg rfl⟩
    ·exact⟨101,by unfold Selss.OkI;omega,Rw.cell_of hg rfl⟩
   go_wp2_with fail
   go_region_with (first
    | (go_at_call 36;refine(HT5.out.num HBD.out 5 (by omega)).mono ?_;rintro e w6 ⟨⟨t,rfl,ht0,ht1⟩,ht6,_⟩;obtain ⟨t,rfl⟩:=Int.eq_ofNat_of_zero_le ht0;have htn:t<5:=(by omega);have hti:(t:Int)<5:=(by omega);have hal:DocT w (w6.alloc (.cells #[.int .i64 (-2),.int .i64 (-1),.int .i64 0,.int .i64 100,.int .i64 101] 2)) p len cap a db (some ⟨gb,0,none⟩) rc L lo M E fa fc F:=ht6.below ((Below.refl _ _).alloc (Nat.le_refl _) _);obtain ⟨f,hf,hcf⟩:=HFV.out (w6.alloc (.cells #[.int .i64 (-2),.int .i64 (-1),.int .i64 0,.int .i64 100,.int .i64 101] 2)) w6.heap.size t htn (heap_alloc_new w6 _);have HY:=hid (HSC.out _ f hf hal);have ⟨⟨m0,m1⟩,_⟩:=keep2 ht6.dbox;have hdb6:db<w6.heap.size:=ht6.db1;obtain ⟨u,hu⟩:=HY.out.1;have hfz:=HY.out.2.1;clear hf ht6 hal ht0 ht1)
    | (go_at_call 36;refine(HT5.out.num (HB0.out _).1 5 (by omega)).mono ?_;rintro e w6 ⟨⟨t,rfl,ht0,ht1⟩,ht6,ho6⟩;obtain ⟨t,rfl⟩:=Int.eq_ofNat_of_zero_le ht0;have htn:t<5:=(by omega);have hti:(t:Int)<5:=(by omega);obtain ⟨f,hf,hcf⟩:=HFV.out w6 w5.heap.size t htn ((ho6.block w5.heap.size (HB0.out _).2.2 HPP.out).trans (HB0.out _).2.1);have HY:=hid (HSC.out _ f hf ht6);have ⟨⟨m0,m1⟩,_⟩:=keep2 ht6.dbox;obtain ⟨u,hu⟩:=HY.out.1;have hfz:=HY.out.2.1;clear hf ht6 ho6 ht0 ht1))
   all_goals go_wp2_with fail
   all_goals go_meet
   all_goals exact hid HY.out.2.2
  ·have HSC:Hid (∀ (W:World) (x:Int),Selss.OkI x→DocT w W p len cap a db (some ⟨gb,0,none⟩) rc L lo M E fa fc F→(∃ u,W.cell? ⟨gb,i * 5,none⟩=some u)∧W.frozen? ⟨gb,i * 5,none⟩=false∧DocF w (W.setCell ⟨gb,i * 5,none⟩ (.int .i64 x)) p len cap a db) :=
    hid fun W x hx h=>h.writeS (q:=0) (r':=⟨x,r.key,r.nm,r.f,r.a,r.cap,r.u,r.lo,r.hi⟩) HR.out (by omega) rfl ⟨rfl,rfl⟩ ⟨hx,HOK.out.2.1,HOK.out.2.2.1,HOK.out.2.2.2⟩
   go_wp2_with fail
   go_region_with (go_at_call 36;refine(HT5.out.num HBD.out 5 (by omega)).mono ?_;rintro e w6 ⟨⟨t,rfl,ht0,ht1⟩,ht6,_⟩;have hf:Selss.OkI t:=(by unfold Selss.OkI;omega);have HY:=hid (HSC.out _ t hf ht6);have ⟨⟨m0,m1⟩,_⟩:=keep2 ht6.dbox;obtain ⟨u,hu⟩:=HY.out.1;have hfz:=HY.out.2.1;clear hf ht6 ht0 ht1)
   all_goals go_wp2_with fail
   all_goals go_meet
   all_goals exact hid HY.out.2.2
  ·obtain ⟨y,hy⟩:∃ y,F[0]?=some y:=⟨_,List.getElem?_eq_getElem (by have:=HF2.out;omega)⟩
   have HY0:=hid hy
   obtain ⟨_,_,_,_,_,_,fg,rfl,_⟩:=HT5.out.fragAt hy
   clear hy
   have HX:Hid (∀ o,DocT w (w5.alloc o).drew p len cap a db (some ⟨gb,0,none⟩) rc L lo M E (some ⟨fg,0,none⟩) fc F):=hid fun o=>HT5.out.below (HB0.out o).1
   go_wp2_with fail
   go_region
   ·have HT6:=hid (HX.out (.cells #[.bool false] 4))
    generalize (w5.alloc (.cells #[.bool false] 4)).drew=w6 at HT6 ⊢
    clear HX k0 k1 hgbw hdbw HB0 HBD HPP HT5
    have hfi:0<F.length:=by have:=HF2.out;omega
    go_wp2_with fail
    refine Due.region_due 15 (fun b W=>b=false→AtF W db fg F.length fc (.slice y.a y.u.len y.cap)) (by kernel_rfl) ?_
    have HT7:Hid (DocT w w6.drew p len cap a db (some ⟨gb,0,none⟩) rc L lo M E (some ⟨fg,0,none⟩) fc F):=hid (HT6.out.below (Below.refl _ _).drew)
    generalize w6.drew=w7 at HT7 ⊢
    clear HT6
    have hat7:=(HT7.out.atF HY0.out).1
    have HPP:Hid (w7.heap.size≠p):=hid (by have:=HT7.out.src.lt;omega)
    have HBE:Hid (∀ (W:World) o,DocT w W p len cap a db (some ⟨gb,0,none⟩) rc L lo M E (some ⟨fg,0,none⟩) fc F→(DocT w (W.alloc o) p len cap a db (some ⟨gb,0,none⟩) rc L lo M E (some ⟨fg,0,none⟩) fc F)∧(W.alloc o).heap[W.heap.size]?=some o∧Below W.heap.size W (W.alloc o)):=hid fun W o h=>⟨h.below ((Below.refl _ _).alloc (Nat.le_refl _) o),heap_alloc_new W o,(Below.refl _ _).alloc (Nat.le_refl _) o⟩
    refine dT 0 ?v1 rfl (by kernel_rfl) (.inl ⟨by rfl,?y1⟩) (fun _=>hat7) (fun _ _ h=>by cases h) (fun _ _ _ h=>h) ?_
    case y1=>intro W hSw;have ⟨hb1,hb2,hb3⟩:=hSw rfl;go_simp;try with_reducible rfl
    try simp only[Act.put,p1,p2,p3]
    refine dT 1 ?v2 rfl (by kernel_rfl) (.inl ⟨by rfl,?y2⟩) (fun _=>hat7) (fun _ _ h=>by cases h) (fun _ _ _ h=>h) ?_
    case y2=>intro W hSw;have ⟨hb1,hb2,hb3⟩:=hSw rfl;go_simp;try with_reducible rfl
    try simp only[Act.put,p1,p2,p3]
    refine dT 2 ?v3 rfl (by kernel_rfl) (.inl ⟨by rfl,?y3⟩) (fun _=>hat7) (fun _ _ h=>by cases h) (fun _ _ _ h=>h) ?_
    case y3=>intro W hSw;have ⟨hb1,hb2,hb3⟩:=hSw rfl;go_simp;try with_reducible rfl
    try simp only[Act.put,p1,p2,p3]
    refine dT 3 ?v4 rfl (by kernel_rfl) (.inl ⟨by rfl,?y4⟩) (fun _=>hat7) (fun _ _ h=>by cases h) (fun _ _ _ h=>h) ?_
    case y4=>intro W hSw;have ⟨hb1,hb2,hb3⟩:=hSw rfl;go_simp;try with_reducible rfl
    try simp only[Act.put,p1,p2,p3]
    refine dT 4 ?v5 rfl (by kernel_rfl) (.inl ⟨by rfl,?y5⟩) (fun _=>hat7) (fun _ _ h=>by cases h) (fun _ _ _ h=>h) ?_
    case y5=>intro W hSw;have ⟨hb1,hb2,hb3⟩:=hSw rfl;go_simp;try with_reducible rfl
    try simp only[Act.put,p1,p2,p3]
    refine dT 5 ?v6 rfl (by kernel_rfl) (.inl ⟨by rfl,?y6⟩) (fun _=>hat7) (fun _ _ h=>by cases h) (fun _ _ _ h=>h) ?_
    case y6=>intro W hSw;have ⟨hb1,hb2,hb3⟩:=hSw rfl;go_simp;try with_reducible rfl
    try simp only[Act.put,p1,p2,p3]
    refine dT 6 ?v7 rfl (by kernel_rfl) (.inl ⟨by rfl,?y7⟩) (fun _=>hat7) (fun _ _ h=>by cases h) (fun _ _ _ h=>h) ?_
    case y7=>intro W hSw;have ⟨hb1,hb2,hb3⟩:=hSw rfl;go_simp;try with_reducible rfl
    try simp only[Act.put,p1,p2,p3]
    refine dT 7 ?v8 rfl (by kernel_rfl) (.inl ⟨by rfl,?y8⟩) (fun _=>hat7) (fun _ _ h=>by cases h) (fun _ _ _ h=>h) ?_
    case y8=>intro W hSw;have ⟨hb1,hb2,hb3⟩:=hSw rfl;go_simp;try with_reducible rfl
    try simp only[Act.put,p1,p2,p3]
    refine dO 8 (by kernel_rfl) rfl fun K hK=>?_
    go_simp
    refine hK.out _ _ (fun _=>((HBE.out w7 (.cells #[.string ⟨#[102,97]⟩,.string ⟨#[102,98]⟩,.string ⟨#[110,111]⟩] 9) HT7.out).1.atF HY0.out).1) ?_
    clear hK K
    try simp only[Act.put,p1,p2,p3]
    have HT8:=hid (HBE.out w7 (.cells #[.string ⟨#[102,97]⟩,.string ⟨#[102,98]⟩,.string ⟨#[110,111]⟩] 9) HT7.out)
    refine dO 9 (by kernel_rfl) rfl fun K hK=>?_
    go_simp
    go_at_call 38
    refine(HT8.out.1.pick (Below.refl _ _) w7.heap.size [⟨#[102,97]⟩,⟨#[102,98]⟩,⟨#[110,111]⟩] HT8.out.2.1 HPP.out (by simp) (by simp) rfl).mono ?_
    rintro e w9 ⟨⟨x,hx,rfl⟩,ht9,ho9⟩
    have HW9:=hid ht9
    have hat9:=(ht9.atF HY0.out).1
    clear ht9
    go_wp2_with fail
    refine hK.out _ _ (fun _=>hat9) ?_
    clear hK K
    try simp only[Act.put,p1,p2,p3]
    refine dT 10 ?v9 rfl (by kernel_rfl) (.inl ⟨by rfl,?y9⟩) (fun _=>hat9) (fun _ _ h=>by cases h) (fun _ _ _ h=>h) ?_
    case y9=>intro W hSw;have ⟨hb1,hb2,hb3⟩:=hSw rfl;go_simp;try with_reducible rfl
    try simp only[Act.put,p1,p2,p3]
    refine dO 11 (by kernel_rfl) rfl fun K hK=>?_
    go_simp
    refine hK.out _ _ (fun _=>((HBE.out w9 (.cells #[.int .i64 3,.string ⟨#[]⟩,.string x,.int .i64 (-1),.slice none 0 0] 97) HW9.out).1.atF HY0.out).1) ?_
    clear hK K
    try simp only[Act.put,p1,p2,p3]
    have HT10:=hid (HBE.out w9 (.cells #[.int .i64 3,.string ⟨#[]⟩,.string x,.int .i64 (-1),.slice none 0 0] 97) HW9.out)
    refine dO 12 (by kernel_rfl) rfl fun K hK=>?_
    refine(HT10.out.1).addF HY0.out (by rfl) _ _ (by rfl) (by rfl) w9.heap.size 1 (by rfl) 3 ⟨#[]⟩ x (-1) ⟨by unfold Selss.OkI;omega,by unfold Selss.OkS;decide,hx,by unfold Selss.OkI;omega⟩ HT10.out.2.1 ?_
    intro g9 cp9 w11 hat11 hfin hzero
    refine hK.out _ _ (fun _=>hat11) ?_
    clear hK K
    try simp only[Act.put,p1,p2,p3]
    have HFIN:=hid hfin
    clear hfin hzero
    refine dU 13 ?v10 rfl (by kernel_rfl) (.inl ⟨by rfl,?y10⟩) (fun _=>hat11) (fun _ _ h=>by cases h) (fun _ _ _ h=>h) ?_
    case y10=>intro W hSw;go_simp;try with_reducible rfl
    try simp only[Act.put,p1,p2,p3]
    refine dU 14 ?v11 rfl (by kernel_rfl) (.inl ⟨by rfl,?y11⟩) (fun _=>hat11) (fun _ _ h=>by cases h) (fun _ _ _ h=>h) ?_
    case y11=>intro W hSw;go_simp;try with_reducible rfl
    try simp only[Act.put,p1,p2,p3]
    refine dO 15 (by kernel_rfl) rfl fun K hK=>?_
    have ⟨hb1,hb2,hb3⟩:=hat11
    go_simp
    refine hK.out _ _ (fun h=>by cases (show true=false from h)) ?_
    clear hK K hb1 hb2 hb3
    try simp only[Act.put,p1,p2,p3]
    refine Due.anyD_done (by kernel_rfl) ?_ _
    go_wp2_with fail
    go_meet
    exact HFIN
   ·have HT6:=hid (HX.out (.cells #[.bool true] 4))
    generalize (w5.alloc (.cells #[.bool true] 4)).drew=w6 at HT6 ⊢
    clear HX k0 k1 hgbw hdbw HB0 HBD HPP HT5
    have hfi:0<F.length:=by have:=HF2.out;omega
    go_wp2_with fail
    refine Due.region_due 14 (fun b W=>b=false→AtF W db fg F.length fc (.slice y.a y.u.len y.cap)) (by kernel_rfl) ?_
    have HT7:Hid (DocT w w6.drew p len cap a db (some ⟨gb,0,none⟩) rc L lo M E (some ⟨fg,0,none⟩) fc F):=hid (HT6.out.below (Below.refl _ _).drew)
    generalize w6.drew=w7 at HT7 ⊢
    clear HT6
    have hat7:=(HT7.out.atF HY0.out).1
    have HPP:Hid (w7.heap.size≠p):=hid (by have:=HT7.out.src.lt;omega)
    have HBE:Hid (∀ (W:World) o,DocT w W p len cap a db (some ⟨gb,0,none⟩) rc L lo M E (some ⟨fg,0,none⟩) fc F→(DocT w (W.alloc o) p len cap a db (some ⟨gb,0,none⟩) rc L lo M E (some ⟨fg,0,none⟩) fc F)∧(W.alloc o).heap[W.heap.size]?=some o∧Below W.heap.size W (W.alloc o)):=hid fun W o h=>⟨h.below ((Below.refl _ _).alloc (Nat.le_refl _) o),heap_alloc_new W o,(Below.refl _ _).alloc (Nat.le_refl _) o⟩
    refine dT 0 ?v12 rfl (by kernel_rfl) (.inl ⟨by rfl,?y12⟩) (fun _=>hat7) (fun _ _ h=>by cases h) (fun _ _ _ h=>h) ?_
    case y12=>intro W hSw;have ⟨hb1,hb2,hb3⟩:=hSw rfl;go_simp;try with_reducible rfl
    try simp only[Act.put,p1,p2,p3]
    refine dT 1 ?v13 rfl (by kernel_rfl) (.inl ⟨by rfl,?y13⟩) (fun _=>hat7) (fun _ _ h=>by cases h) (fun _ _ _ h=>h) ?_
    case y13=>intro W hSw;have ⟨hb1,hb2,hb3⟩:=hSw rfl;go_simp;try with_reducible rfl
    try simp only[Act.put,p1,p2,p3]
    refine dT 2 ?v14 rfl (by kernel_rfl) (.inl ⟨by rfl,?y14⟩) (fun _=>hat7) (fun _ _ h=>by cases h) (fun _ _ _ h=>h) ?_
    case y14=>intro W hSw;have ⟨hb1,hb2,hb3⟩:=hSw rfl;go_simp;try with_reducible rfl
    try simp only[Act.put,p1,p2,p3]
    refine dT 3 ?v15 rfl (by kernel_rfl) (.inl ⟨by rfl,?y15⟩) (fun _=>hat7) (fun _ _ h=>by cases h) (fun _ _ _ h=>h) ?_
    case y15=>intro W hSw;have ⟨hb1,hb2,hb3⟩:=hSw rfl;go_simp;try with_reducible rfl
    try simp only[Act.put,p1,p2,p3]
    refine dT 4 ?v16 rfl (by kernel_rfl) (.inl ⟨by rfl,?y16⟩) (fun _=>hat7) (fun _ _ h=>by cases h) (fun _ _ _ h=>h) ?_
    case y16=>intro W hSw;have ⟨hb1,hb2,hb3⟩:=hSw rfl;go_simp;try with_reducible rfl
    try simp only[Act.put,p1,p2,p3]
    refine dT 5 ?v17 rfl (by kernel_rfl) (.inl ⟨by rfl,?y17⟩) (fun _=>hat7) (fun _ _ h=>by cases h) (fun _ _ _ h=>h) ?_
    case y17=>intro W hSw;have ⟨hb1,hb2,hb3⟩:=hSw rfl;go_simp;try with_reducible rfl
    try simp only[Act.put,p1,p2,p3]
    refine dT 9 ?v18 rfl (by kernel_rfl) (.inl ⟨by rfl,?y18⟩) (fun _=>hat7) (fun _ _ h=>by cases h) (fun _ _ _ h=>h) ?_
    case y18=>intro W hSw;have ⟨hb1,hb2,hb3⟩:=hSw rfl;go_simp;try with_reducible rfl
    try simp only[Act.put,p1,p2,p3]
    refine dueTwo (i:=6) (j:=10) (by kernel_rfl) rfl rfl (fun K hK=>?_) (fun K hK=>?_)
    ·go_simp
     refine hK.out _ _ (fun _=>((HBE.out w7 (.cells #[.string ⟨#[102,97]⟩,.string ⟨#[102,98]⟩,.string ⟨#[110,111]⟩] 9) HT7.out).1.atF HY0.out).1) ?_
     clear hK K
     try simp only[Act.put,p1,p2,p3]
     have HT8:=hid (HBE.out w7 (.cells #[.string ⟨#[102,97]⟩,.string ⟨#[102,98]⟩,.string ⟨#[110,111]⟩] 9) HT7.out)
     refine dueTwo (i:=7) (j:=10) (by kernel_rfl) rfl rfl (fun K hK=>?_) (fun K hK=>?_)
     ·go_simp
      go_at_call 38
      refine(HT8.out.1.pick (Below.refl _ _) w7.heap.size [⟨#[102,97]⟩,⟨#[102,98]⟩,⟨#[110,111]⟩] HT8.out.2.1 HPP.out (by simp) (by simp) rfl).mono ?_
      rintro e w9 ⟨⟨x,hx,rfl⟩,ht9,ho9⟩
      have HW9:=hid ht9
      have hat9:=(ht9.atF HY0.out).1
      clear ht9
      go_wp2_with fail
      refine hK.out _ _ (fun _=>hat9) ?_
      clear hK K
      try simp only[Act.put,p1,p2,p3]
      refine dT 8 ?v19 rfl (by kernel_rfl) (.inl ⟨by rfl,?y19⟩) (fun _=>hat9) (fun _ _ h=>by cases h) (fun _ _ _ h=>h) ?_
      case y19=>intro W hSw;have ⟨hb1,hb2,hb3⟩:=hSw rfl;go_simp;try with_reducible rfl
      try simp only[Act.put,p1,p2,p3]
      refine dO 10 (by kernel_rfl) rfl fun K hK=>?_
      go_simp
      refine hK.out _ _ (fun _=>((HBE.out w9 (.cells #[.int .i64 0,.string ⟨#[]⟩,.string ⟨#[]⟩,.int .i64 0,.slice none 0 0] 97) HW9.out).1.atF HY0.out).1) ?_
      clear hK K
      try simp only[Act.put,p1,p2,p3]
      have HT10:=hid (HBE.out w9 (.cells #[.int .i64 0,.string ⟨#[]⟩,.string ⟨#[]⟩,.int .i64 0,.slice none 0 0] 97) HW9.out)
      refine dO 11 (by kernel_rfl) rfl fun K hK=>?_
      refine(HT10.out.1).addF HY0.out (by rfl) _ _ (by rfl) (by rfl) w9.heap.size 1 (by rfl) 0 ⟨#[]⟩ ⟨#[]⟩ 0 ⟨by unfold Selss.OkI;omega,by unfold Selss.OkS;decide,by unfold Selss.OkS;decide,by unfold Selss.OkI;omega⟩ HT10.out.2.1 ?_
      intro g9 cp9 w11 hat11 hfin hzero
      refine hK.out _ _ (fun _=>hat11) ?_
      clear hK K
      try simp only[Act.put,p1,p2,p3]
      refine dU 12 ?v20 rfl (by kernel_rfl) (.inl ⟨by rfl,?y20⟩) (fun _=>hat11) (fun _ _ h=>by cases h) (fun _ _ _ h=>h) ?_
      case y20=>intro W hSw;go_simp;try with_reducible rfl
      try simp only[Act.put,p1,p2,p3]
      refine dU 13 ?v21 rfl (by kernel_rfl) (.inl ⟨by rfl,?y21⟩) (fun _=>hat11) (fun _ _ h=>by cases h) (fun _ _ _ h=>h) ?_
      case y21=>intro W hSw;go_simp;try with_reducible rfl
      try simp only[Act.put,p1,p2,p3]
      refine dO 14 (by kernel_rfl) rfl fun K hK=>?_
      have ⟨hb1,hb2,hb3⟩:=hat11
      go_simp
      refine hK.out _ _ (fun h=>by cases (show true=false from h)) ?_
      clear hK K hb1 hb2 hb3
      try simp only[Act.put,p1,p2,p3]
      refine Due.anyD_done (by kernel_rfl) ?_ _
      obtain ⟨hzr,hzf⟩:=hzero rfl rfl rfl rfl
      have HZF:=hid (hzf 3 ⟨#[]⟩ x (-1) ⟨by unfold Selss.OkI;omega,by unfold Selss.OkS;decide,hx,by unfold Selss.OkI;omega⟩)
      clear hzf hfin hat11
      obtain ⟨w12,hw12⟩:∃ q,w11.setCell ⟨fg,2,none⟩ (.slice (some ⟨g9,0,none⟩) (y.u.len+1) cp9)=q:=⟨_,rfl⟩
      rw[hw12] at hzr HZF ⊢
      obtain ⟨c0,c1,c2,c3,c4,hfz⟩:=hzr
      have z0:=hfz (y.u.len * 5)
      have z1:=hfz (y.u.len * 5+1)
      have z2:=hfz (y.u.len * 5+2)
      have z3:=hfz (y.u.len * 5+3)
      have z4:=hfz (y.u.len * 5+4)
      obtain ⟨n1,hn1⟩:∃ q,y.u.len+1=q:=⟨_,rfl⟩
      have hix:(y.u.len:Int)<(n1:Int):=by omega
      rw[hn1]
      clear hn1 hw12 hfz
      go_wp2_with fail
      go_meet
      exact HZF
     ·go_simp
      refine hK.out _ _ (fun _=>((HBE.out (w7.alloc (.cells #[.string ⟨#[102,97]⟩,.string ⟨#[102,98]⟩,.string ⟨#[110,111]⟩] 9)) (.cells #[.int .i64 0,.string ⟨#[]⟩,.string ⟨#[]⟩,.int .i64 0,.slice none 0 0] 97) HT8.out.1).1.atF HY0.out).1) ?_
      clear hK K
      try simp only[Act.put,p1,p2,p3]
      have HT9:=hid (HBE.out (w7.alloc (.cells #[.string ⟨#[102,97]⟩,.string ⟨#[102,98]⟩,.string ⟨#[110,111]⟩] 9)) (.cells #[.int .i64 0,.string ⟨#[]⟩,.string ⟨#[]⟩,.int .i64 0,.slice none 0 0] 97) HT8.out.1)
      have HN9:Hid (((w7.alloc (.cells #[.string ⟨#[102,97]⟩,.string ⟨#[102,98]⟩,.string ⟨#[110,111]⟩] 9)).alloc (.cells #[.int .i64 0,.string ⟨#[]⟩,.string ⟨#[]⟩,.int .i64 0,.slice none 0 0] 97)).heap[w7.heap.size]?=some (.cells #[.string ⟨#[102,97]⟩,.string ⟨#[102,98]⟩,.string ⟨#[110,111]⟩] 9)):=hid ((HT9.out.2.2.block _ (lt_of_get HT8.out.2.1)).trans HT8.out.2.1)
      have e1:(w7.alloc (.cells #[.string ⟨#[102,97]⟩,.string ⟨#[102,98]⟩,.string ⟨#[110,111]⟩] 9)).heap.size=w7.heap.size+1:=by simp
      have HN0:Hid (((w7.alloc (.cells #[.string ⟨#[102,97]⟩,.string ⟨#[102,98]⟩,.string ⟨#[110,111]⟩] 9)).alloc (.cells #[.int .i64 0,.string ⟨#[]⟩,.string ⟨#[]⟩,.int .i64 0,.slice none 0 0] 97)).heap[w7.heap.size+1]?=some (.cells #[.int .i64 0,.string ⟨#[]⟩,.string ⟨#[]⟩,.int .i64 0,.slice none 0 0] 97)):=hid (by rw[←e1];exact HT9.out.2.1)
      have HPR:Hid (w7.heap.size+1≠p):=hid (by have:=HT8.out.1.src.lt;omega)
      have HLT:Hid (w7.heap.size+1<((w7.alloc (.cells #[.string ⟨#[102,97]⟩,.string ⟨#[102,98]⟩,.string ⟨#[110,111]⟩] 9)).alloc (.cells #[.int .i64 0,.string ⟨#[]⟩,.string ⟨#[]⟩,.int .i64 0,.slice none 0 0] 97)).heap.size):=hid (lt_of_get HN0.out)
      clear e1
      refine dO 7 (by kernel_rfl) rfl fun K hK=>?_
      go_simp
      go_at_call 38
      refine(HT9.out.1.pick (Below.refl _ _) w7.heap.size [⟨#[102,97]⟩,⟨#[102,98]⟩,⟨#[110,111]⟩] HN9.out HPP.out (by simp) (by simp) rfl).mono ?_
      rintro e w9 ⟨⟨x,hx,rfl⟩,ht9,ho9⟩
      have HW9:=hid ht9
      have hat9:=(ht9.atF HY0.out).1
      clear ht9
      go_wp2_with fail
      refine hK.out _ _ (fun _=>hat9) ?_
      clear hK K
      try simp only[Act.put,p1,p2,p3]
      refine dT 8 ?v22 rfl (by kernel_rfl) (.inl ⟨by rfl,?y22⟩) (fun _=>hat9) (fun _ _ h=>by cases h) (fun _ _ _ h=>h) ?_
      case y22=>intro W hSw;have ⟨hb1,hb2,hb3⟩:=hSw rfl;go_simp;try with_reducible rfl
      try simp only[Act.put,p1,p2,p3]
      have HZ9:Hid (w9.heap[w7.heap.size+1]?=some (.cells #[.int .i64 0,.string ⟨#[]⟩,.string ⟨#[]⟩,.int .i64 0,.slice none 0 0] 97)):=hid ((ho9.block _ HLT.out HPR.out).trans HN0.out)
      refine dO 11 (by kernel_rfl) rfl fun K hK=>?_
      refine(HW9.out).addF HY0.out (by rfl) _ _ (by rfl) (by rfl) (w7.heap.size+1) 1 (by rfl) 0 ⟨#[]⟩ ⟨#[]⟩ 0 ⟨by unfold Selss.OkI;omega,by unfold Selss.OkS;decide,by unfold Selss.OkS;decide,by unfold Selss.OkI;omega⟩ HZ9.out ?_
      intro g9 cp9 w11 hat11 hfin hzero
      refine hK.out _ _ (fun _=>hat11) ?_
      clear hK K
      try simp only[Act.put,p1,p2,p3]
      refine dU 12 ?v23 rfl (by kernel_rfl) (.inl ⟨by rfl,?y23⟩) (fun _=>hat11) (fun _ _ h=>by cases h) (fun _ _ _ h=>h) ?_
      case y23=>intro W hSw;go_simp;try with_reducible rfl
      try simp only[Act.put,p1,p2,p3]
      refine dU 13 ?v24 rfl (by kernel_rfl) (.inl ⟨by rfl,?y24⟩) (fun _=>hat11) (fun _ _ h=>by cases h) (fun _ _ _ h=>h) ?_
      case y24=>intro W hSw;go_simp;try with_reducible rfl
      try simp only[Act.put,p1,p2,p3]
      refine dO 14 (by kernel_rfl) rfl fun K hK=>?_
      have ⟨hb1,hb2,hb3⟩:=hat11
      go_simp
      refine hK.out _ _ (fun h=>by cases (show true=false from h)) ?_
      clear hK K hb1 hb2 hb3
      try simp only[Act.put,p1,p2,p3]
      refine Due.anyD_done (by kernel_rfl) ?_ _
      obtain ⟨hzr,hzf⟩:=hzero rfl rfl rfl rfl
      have HZF:=hid (hzf 3 ⟨#[]⟩ x (-1) ⟨by unfold Selss.OkI;omega,by unfold Selss.OkS;decide,hx,by unfold Selss.OkI;omega⟩)
      clear hzf hfin hat11
      obtain ⟨w12,hw12⟩:∃ q,w11.setCell ⟨fg,2,none⟩ (.slice (some ⟨g9,0,none⟩) (y.u.len+1) cp9)=q:=⟨_,rfl⟩
      rw[hw12] at hzr HZF ⊢
      obtain ⟨c0,c1,c2,c3,c4,hfz⟩:=hzr
      have z0:=hfz (y.u.len * 5)
      have z1:=hfz (y.u.len * 5+1)
      have z2:=hfz (y.u.len * 5+2)
      have z3:=hfz (y.u.len * 5+3)
      have z4:=hfz (y.u.len * 5+4)
      obtain ⟨n1,hn1⟩:∃ q,y.u.len+1=q:=⟨_,rfl⟩
      have hix:(y.u.len:Int)<(n1:Int):=by omega
      rw[hn1]
      clear hn1 hw12 hfz
      go_wp2_with fail
      go_meet
      exact HZF
    ·go_simp
     refine hK.out _ _ (fun _=>((HBE.out w7 (.cells #[.int .i64 0,.string ⟨#[]⟩,.string ⟨#[]⟩,.int .i64 0,.slice none 0 0] 97) HT7.out).1.atF HY0.out).1) ?_
     clear hK K
     try simp only[Act.put,p1,p2,p3]
     have HT8:=hid (HBE.out w7 (.cells #[.int .i64 0,.string ⟨#[]⟩,.string ⟨#[]⟩,.int .i64 0,.slice none 0 0] 97) HT7.out)
     refine dO 6 (by kernel_rfl) rfl fun K hK=>?_
     go_simp
     refine hK.out _ _ (fun _=>((HBE.out (w7.alloc (.cells #[.int .i64 0,.string ⟨#[]⟩,.string ⟨#[]⟩,.int .i64 0,.slice none 0 0] 97)) (.cells #[.string ⟨#[102,97]⟩,.string ⟨#[102,98]⟩,.string ⟨#[110,111]⟩] 9) HT8.out.1).1.atF HY0.out).1) ?_
     clear hK K
     try simp only[Act.put,p1,p2,p3]
     have HT9:=hid (HBE.out (w7.alloc (.cells #[.int .i64 0,.string ⟨#[]⟩,.string ⟨#[]⟩,.int .i64 0,.slice none 0 0] 97)) (.cells #[.string ⟨#[102,97]⟩,.string ⟨#[102,98]⟩,.string ⟨#[110,111]⟩] 9) HT8.out.1)
     have HN9:Hid (((w7.alloc (.cells #[.int .i64 0,.string ⟨#[]⟩,.string ⟨#[]⟩,.int .i64 0,.slice none 0 0] 97)).alloc (.cells #[.string ⟨#[102,97]⟩,.string ⟨#[102,98]⟩,.string ⟨#[110,111]⟩] 9)).heap[w7.heap.size]?=some (.cells #[.int .i64 0,.string ⟨#[]⟩,.string ⟨#[]⟩,.int .i64 0,.slice none 0 0] 97)):=hid ((HT9.out.2.2.block _ (lt_of_get HT8.out.2.1)).trans HT8.out.2.1)
     have e1:(w7.alloc (.cells #[.int .i64 0,.string ⟨#[]⟩,.string ⟨#[]⟩,.int .i64 0,.slice none 0 0] 97)).heap.size=w7.heap.size+1:=by simp
     have HN0:Hid (((w7.alloc (.cells #[.int .i64 0,.string ⟨#[]⟩,.string ⟨#[]⟩,.int .i64 0,.slice none 0 0] 97)).alloc (.cells #[.string ⟨#[102,97]⟩,.string ⟨#[102,98]⟩,.string ⟨#[110,111]⟩] 9)).heap[w7.heap.size+1]?=some (.cells #[.string ⟨#[102,97]⟩,.string ⟨#[102,98]⟩,.string ⟨#[110,111]⟩] 9)):=hid (by rw[←e1];exact HT9.out.2.1)
     have HPR:Hid (w7.heap.size+1≠p):=hid (by have:=HT8.out.1.src.lt;omega)
     clear e1
     have HLT:Hid (w7.heap.size<((w7.alloc (.cells #[.int .i64 0,.string ⟨#[]⟩,.string ⟨#[]⟩,.int .i64 0,.slice none 0 0] 97)).alloc (.cells #[.string ⟨#[102,97]⟩,.string ⟨#[102,98]⟩,.string ⟨#[110,111]⟩] 9)).heap.size):=hid (lt_of_get HN9.out)
     refine dO 7 (by kernel_rfl) rfl fun K hK=>?_
     go_simp
     go_at_call 38
     refine(HT9.out.1.pick (Below.refl _ _) (w7.heap.size+1) [⟨#[102,97]⟩,⟨#[102,98]⟩,⟨#[110,111]⟩] HN0.out HPR.out (by simp) (by simp) rfl).mono ?_
     rintro e w9 ⟨⟨x,hx,rfl⟩,ht9,ho9⟩
     have HW9:=hid ht9
     have hat9:=(ht9.atF HY0.out).1
     clear ht9
     go_wp2_with fail
     refine hK.out _ _ (fun _=>hat9) ?_
     clear hK K
     try simp only[Act.put,p1,p2,p3]
     refine dT 8 ?v25 rfl (by kernel_rfl) (.inl ⟨by rfl,?y25⟩) (fun _=>hat9) (fun _ _ h=>by cases h) (fun _ _ _ h=>h) ?_
     case y25=>intro W hSw;have ⟨hb1,hb2,hb3⟩:=hSw rfl;go_simp;try with_reducible rfl
     try simp only[Act.put,p1,p2,p3]
     have HZ9:Hid (w9.heap[w7.heap.size]?=some (.cells #[.int .i64 0,.string ⟨#[]⟩,.string ⟨#[]⟩,.int .i64 0,.slice none 0 0] 97)):=hid ((ho9.block _ HLT.out HPP.out).trans HN9.out)
     refine dO 11 (by kernel_rfl) rfl fun K hK=>?_
     refine(HW9.out).addF HY0.out (by rfl) _ _ (by rfl) (by rfl) w7.heap.size 1 (by rfl) 0 ⟨#[]⟩ ⟨#[]⟩ 0 ⟨by unfold Selss.OkI;omega,by unfold Selss.OkS;decide,by unfold Selss.OkS;decide,by unfold Selss.OkI;omega⟩ HZ9.out ?_
     intro g9 cp9 w11 hat11 hfin hzero
     refine hK.out _ _ (fun _=>hat11) ?_
     clear hK K
     try simp only[Act.put,p1,p2,p3]
     refine dU 12 ?v26 rfl (by kernel_rfl) (.inl ⟨by rfl,?y26⟩) (fun _=>hat11) (fun _ _ h=>by cases h) (fun _ _ _ h=>h) ?_
     case y26=>intro W hSw;go_simp;try with_reducible rfl
     try simp only[Act.put,p1,p2,p3]
     refine dU 13 ?v27 rfl (by kernel_rfl) (.inl ⟨by rfl,?y27⟩) (fun _=>hat11) (fun _ _ h=>by cases h) (fun _ _ _ h=>h) ?_
     case y27=>intro W hSw;go_simp;try with_reducible rfl
     try simp only[Act.put,p1,p2,p3]
     refine dO 14 (by kernel_rfl) rfl fun K hK=>?_
     have ⟨hb1,hb2,hb3⟩:=hat11
     go_simp
     refine hK.out _ _ (fun h=>by cases (show true=false from h)) ?_
     clear hK K hb1 hb2 hb3
     try simp only[Act.put,p1,p2,p3]
     refine Due.anyD_done (by kernel_rfl) ?_ _
     obtain ⟨hzr,hzf⟩:=hzero rfl rfl rfl rfl
     have HZF:=hid (hzf 3 ⟨#[]⟩ x (-1) ⟨by unfold Selss.OkI;omega,by unfold Selss.OkS;decide,hx,by unfold Selss.OkI;omega⟩)
     clear hzf hfin hat11
     obtain ⟨w12,hw12⟩:∃ q,w11.setCell ⟨fg,2,none⟩ (.slice (some ⟨g9,0,none⟩) (y.u.len+1) cp9)=q:=⟨_,rfl⟩
     rw[hw12] at hzr HZF ⊢
     obtain ⟨c0,c1,c2,c3,c4,hfz⟩:=hzr
     have z0:=hfz (y.u.len * 5)
     have z1:=hfz (y.u.len * 5+1)
     have z2:=hfz (y.u.len * 5+2)
     have z3:=hfz (y.u.len * 5+3)
     have z4:=hfz (y.u.len * 5+4)
     obtain ⟨n1,hn1⟩:∃ q,y.u.len+1=q:=⟨_,rfl⟩
     have hix:(y.u.len:Int)<(n1:Int):=by omega
     rw[hn1]
     clear hn1 hw12 hfz
     go_wp2_with fail
     go_meet
     exact HZF
  ·obtain ⟨y,hy⟩:∃ y,F[1]?=some y:=⟨_,List.getElem?_eq_getElem (by have:=HF2.out;omega)⟩
   have hfi:(1:Int)<(F.length:Int):=by have:=HF2.out;omega
   obtain ⟨hfo,_,_,_,_,_,fg,rfl,f1,f3,_,_,_⟩:=HT5.out.fragAt hy
   have hfgw:fg<w5.heap.size:=by omega
   have HY0:=hid hy
   have HFO:=hid hfo
   clear hy hfo f1 f3
   have HSC:Hid (∀ (W:World) (x:ByteArray),Selss.OkS x→DocT w W p len cap a db (some ⟨gb,0,none⟩) rc L lo M E (some ⟨fg,0,none⟩) fc F→(∃ u,W.cell? ⟨fg,3,none⟩=some u)∧W.frozen? ⟨fg,3,none⟩=false∧DocF w (W.setCell ⟨fg,3,none⟩ (.string x)) p len cap a db) :=
    hid fun W x hx h=>h.writeF (i:=1) (q:=0) (r':=⟨x,y.on,y.a,y.cap,y.u,y.lo,y.hi⟩) HY0.out (by omega) rfl ⟨rfl,rfl⟩ ⟨hx,HFO.out.2⟩
   go_wp2_with fail
   go_region_with (go_at_call 38;refine(HT5.out.pick (HB0.out _).1 w5.heap.size [⟨#[102,97]⟩,⟨#[102,99]⟩] (HB0.out _).2.1 HPP.out (by simp) (by simp) rfl).mono ?_;rintro e w6 ⟨⟨x,hx,rfl⟩,ht6,_⟩;have HY:=hid (HSC.out _ x hx ht6);have ⟨⟨m0,m1⟩,_⟩:=keep2 ht6.dbox;obtain ⟨u,hu⟩:=HY.out.1;have hfz:=HY.out.2.1;clear hx ht6)
   all_goals go_wp2_with fail
   all_goals go_meet
   all_goals exact hid HY.out.2.2
  ·have HSC:Hid (∀ (W:World) (x:ByteArray),Selss.OkS x→DocT w W p len cap a db (some ⟨gb,0,none⟩) rc L lo M E fa fc F→(∃ u,W.cell? ⟨gb,i * 5+1,none⟩=some u)∧W.frozen? ⟨gb,i * 5+1,none⟩=false∧DocF w (W.setCell ⟨gb,i * 5+1,none⟩ (.string x)) p len cap a db) :=
    hid fun W x hx h=>h.writeS (r':=⟨r.k,x,r.nm,r.f,r.a,r.cap,r.u,r.lo,r.hi⟩) HR.out (by omega) rfl ⟨rfl,rfl⟩ ⟨HOK.out.1,hx,HOK.out.2.2.1,HOK.out.2.2.2⟩
   go_wp2_with fail
   go_region_with (go_at_call 38;refine(HT5.out.pick (HB0.out _).1 w5.heap.size [⟨#[105,100]⟩,⟨#[110,97,109,101]⟩,⟨#[]⟩] (HB0.out _).2.1 HPP.out (by simp) (by simp) rfl).mono ?_;rintro e w6 ⟨⟨x,hx,rfl⟩,ht6,_⟩;have HY:=hid (HSC.out _ x hx ht6);have ⟨⟨m0,m1⟩,_⟩:=keep2 ht6.dbox;obtain ⟨u,hu⟩:=HY.out.1;have hfz:=HY.out.2.1;clear hx ht6)
   all_goals go_wp2_with fail
   all_goals go_meet
   all_goals exact hid HY.out.2.2
  ·have HX:Hid (∀ o,DocT w (w5.alloc o).drew p len cap a db (some ⟨gb,0,none⟩) rc L lo M E fa fc F):=hid fun o=>HT5.out.below (HB0.out o).1
   go_wp2_with fail
   go_region
   ·have HT6:=hid (HX.out (.cells #[.bool false] 4))
    generalize (w5.alloc (.cells #[.bool false] 4)).drew=w6 at HT6 ⊢
    clear HX k0 k1 hgbw hdbw HB0 HBD HPP HT5
    have h3:=HT6.out.M1
    have h4:=HT6.out.E1
    have h5:=HT6.out.db1
    obtain ⟨hok,r1,r2,r3,r4,⟨inn,hin,e1,e2⟩,gb',e,b1,b2,hfar,hcell,hfz⟩:=HT6.out.rowAt HR.out
    cases e
    obtain ⟨gb2,C,e3,_,hg,_⟩:=OwnSel.place (HT6.out.sels.own (by omega)) (by rintro rfl;simp at hil)
    cases e3
    have HG:=hid hg
    have hnl:r.u.len=inn.length:=by rw[←e1,Selss.rowsSels_len]
    have hc4:w6.cell? ⟨gb,i * 5+4,none⟩=some (.slice r.a r.u.len r.cap):=hcell 4 _ rfl
    have hin':=hin
    rw[hnl] at hin' hc4
    have hz4:=hfz (i * 5+4)
    have hgbw:gb<w6.heap.size:=by omega
    have hgd:gb<db:=by omega
    have hdbw:db<w6.heap.size:=h5
    have HAP:Hid (∀ (W1 w9:World) (g cp:Nat) (r9:RowS),Below w6.heap.size w6 W1→r9.hi≤r9.lo→OwnSel w9 r.lo (.slice (some ⟨g,0,none⟩) (inn.length+1) cp) (inn++[r9])→W1.grownBy w9 (Value.slice r.a inn.length r.cap).ownBlock→((Value.slice r.a inn.length r.cap).ownBlock=some g∨g=W1.heap.size) →
      w9.heap[db]?=w6.heap[db]?∧w9.heap[gb]?=w6.heap[gb]?∧OwnSel (w9.setCell ⟨gb,i * 5+4,none⟩ (.slice (some ⟨g,0,none⟩) (inn.length+1) cp)) r.lo (.slice (some ⟨g,0,none⟩) (inn.length+1) cp) (inn++[r9])∧DocF w (w9.setCell ⟨gb,i * 5+4,none⟩ (.slice (some ⟨g,0,none⟩) (inn.length+1) cp)) p len cap a db ∧
      ∀ (z:Nat) (k:Int) (key nm:ByteArray) (f:Int),r9=⟨0,⟨#[]⟩,⟨#[]⟩,0,none,0,.nil,z,z⟩→(Selss.OkI k∧Selss.OkS key∧Selss.OkS nm∧Selss.OkI f)→DocF w (putL (w9.setCell ⟨gb,i * 5+4,none⟩ (.slice (some ⟨g,0,none⟩) (inn.length+1) cp)) g (inn.length * 5) [.int .i64 k,.string key,.string nm,.int .i64 f,.slice none 0 0]) p len cap a db):=hid fun W1 w9 g cp r9 hb z1 z2 z3 z4=>by
     rw[←hnl] at z3 z4
     exact HT6.out.appS HR.out hin e2 hb z1 z2 z3 z4
    have HRDY:=hid (fun (W1:World) (hb:Below w6.heap.size w6 W1) (k:Int) (key nm:ByteArray) (f:Int) (hok:Selss.OkI k∧Selss.OkS key∧Selss.OkS nm∧Selss.OkI f)=>OwnIn.ready hin' (show r.hi≤w6.heap.size by omega) hb k key nm f hok)
    have HIN4:=hid e2
    have hsz:inn.length+1≤1048576:=by omega
    have HBA:Hid (∀ o,Below w6.heap.size w6 (w6.alloc o)∧(w6.alloc o).heap[w6.heap.size]?=some o):=hid fun o=>⟨(Below.refl _ _).alloc (Nat.le_refl _) o,heap_alloc_new w6 o⟩
    have HBE:Hid (∀ o,Below w6.heap.size w6 (w6.alloc o).drew∧(w6.alloc o).drew.heap[w6.heap.size]?=some o):=hid fun o=>⟨((Below.refl _ _).alloc (Nat.le_refl _) o).drew,heap_alloc_new w6 o⟩
    have HDB:=hid HT6.out.dbox
    have ⟨⟨k0,k1⟩,_⟩:=keep2 HDB.out
    have HZ:Hid (Selss.OkI 0∧Selss.OkS ⟨#[]⟩∧Selss.OkS ⟨#[]⟩∧Selss.OkI 0):=hid ⟨by unfold Selss.OkI;omega,by unfold Selss.OkS;decide,by unfold Selss.OkS;decide,by unfold Selss.OkI;omega⟩
    have HID:Hid (Selss.OkI 1∧Selss.OkS ⟨#[105,100]⟩∧Selss.OkS ⟨#[105,100]⟩∧Selss.OkI (-1)):=hid ⟨by unfold Selss.OkI;omega,by unfold Selss.OkS;decide,by unfold Selss.OkS;decide,by unfold Selss.OkI;omega⟩
    clear hcell hfz hnl e1 hok hin hin' e2 hfar r1 r2 r3 r4 b1 b2 h3 h4 hg
    have HQ:=hid (HRDY.out _ (HBE.out (.cells #[.int .i64 1,.string ⟨#[105,100]⟩,.string ⟨#[105,100]⟩,.int .i64 (-1),.slice none 0 0] 97)).1 1 ⟨#[105,100]⟩ ⟨#[105,100]⟩ (-1) HID.out)
    have HQ2:=hid (HBE.out (.cells #[.int .i64 1,.string ⟨#[105,100]⟩,.string ⟨#[105,100]⟩,.int .i64 (-1),.slice none 0 0] 97))
    have hn1:¬ db=gb:=by omega
    have hn2:¬ gb=db:=by omega
    go_wp2_with fail
    go_region_law (first
     | (refine step_app_selG (by rfl) _ _ (by rfl) r.lo (.slice r.a inn.length r.cap) inn (by rfl) HQ.out.1 w6.heap.size 1 (by rfl) ⟨1,⟨#[105,100]⟩,⟨#[105,100]⟩,-1,none,0,.nil,w6.heap.size,w6.heap.size⟩ HQ2.out.2 HQ.out.2.1 HQ.out.2.2.1 hsz HQ.out.2.2.2.1 ?_;intro g9 cap9 w9 hown9 hgrow9 hat9;have HA:=hid (HAP.out _ w9 g9 cap9 _ HQ2.out.1 (Nat.le_refl _) hown9 hgrow9 hat9);have m4:=(World.cell?_of_block (w:=w6) (a:=⟨gb,i * 5+4,none⟩) HA.out.2.1).trans hc4;have mz:=frozen_of_row w9 gb (i * 5+4) _ _ (HA.out.2.1.trans HG.out);have ⟨⟨l0,l1⟩,_⟩:=keep2 (HA.out.1.trans HDB.out);clear hown9 hgrow9 hat9))
    all_goals go_wp2_with fail
    all_goals go_meet
    all_goals exact hid HA.out.2.2.2.1
   ·have HT6:=hid (HX.out (.cells #[.bool true] 4))
    generalize (w5.alloc (.cells #[.bool true] 4)).drew=w6 at HT6 ⊢
    clear HX k0 k1 hgbw hdbw HB0 HBD HPP HT5
    have h3:=HT6.out.M1
    have h4:=HT6.out.E1
    have h5:=HT6.out.db1
    obtain ⟨hok,r1,r2,r3,r4,⟨inn,hin,e1,e2⟩,gb',e,b1,b2,hfar,hcell,hfz⟩:=HT6.out.rowAt HR.out
    cases e
    obtain ⟨gb2,C,e3,_,hg,_⟩:=OwnSel.place (HT6.out.sels.own (by omega)) (by rintro rfl;simp at hil)
    cases e3
    have HG:=hid hg
    have hnl:r.u.len=inn.length:=by rw[←e1,Selss.rowsSels_len]
    have hc4:w6.cell? ⟨gb,i * 5+4,none⟩=some (.slice r.a r.u.len r.cap):=hcell 4 _ rfl
    have hin':=hin
    rw[hnl] at hin' hc4
    have hz4:=hfz (i * 5+4)
    have hgbw:gb<w6.heap.size:=by omega
    have hgd:gb<db:=by omega
    have hdbw:db<w6.heap.size:=h5
    have HAP:Hid (∀ (W1 w9:World) (g cp:Nat) (r9:RowS),Below w6.heap.size w6 W1→r9.hi≤r9.lo→OwnSel w9 r.lo (.slice (some ⟨g,0,none⟩) (inn.length+1) cp) (inn++[r9])→W1.grownBy w9 (Value.slice r.a inn.length r.cap).ownBlock→((Value.slice r.a inn.length r.cap).ownBlock=some g∨g=W1.heap.size) →
      w9.heap[db]?=w6.heap[db]?∧w9.heap[gb]?=w6.heap[gb]?∧OwnSel (w9.setCell ⟨gb,i * 5+4,none⟩ (.slice (some ⟨g,0,none⟩) (inn.length+1) cp)) r.lo (.slice (some ⟨g,0,none⟩) (inn.length+1) cp) (inn++[r9])∧DocF w (w9.setCell ⟨gb,i * 5+4,none⟩ (.slice (some ⟨g,0,none⟩) (inn.length+1) cp)) p len cap a db ∧
      ∀ (z:Nat) (k:Int) (key nm:ByteArray) (f:Int),r9=⟨0,⟨#[]⟩,⟨#[]⟩,0,none,0,.nil,z,z⟩→(Selss.OkI k∧Selss.OkS key∧Selss.OkS nm∧Selss.OkI f)→DocF w (putL (w9.setCell ⟨gb,i * 5+4,none⟩ (.slice (some ⟨g,0,none⟩) (inn.length+1) cp)) g (inn.length * 5) [.int .i64 k,.string key,.string nm,.int .i64 f,.slice none 0 0]) p len cap a db):=hid fun W1 w9 g cp r9 hb z1 z2 z3 z4=>by
     rw[←hnl] at z3 z4
     exact HT6.out.appS HR.out hin e2 hb z1 z2 z3 z4
    have HRDY:=hid (fun (W1:World) (hb:Below w6.heap.size w6 W1) (k:Int) (key nm:ByteArray) (f:Int) (hok:Selss.OkI k∧Selss.OkS key∧Selss.OkS nm∧Selss.OkI f)=>OwnIn.ready hin' (show r.hi≤w6.heap.size by omega) hb k key nm f hok)
    have HIN4:=hid e2
    have hsz:inn.length+1≤1048576:=by omega
    have HBA:Hid (∀ o,Below w6.heap.size w6 (w6.alloc o)∧(w6.alloc o).heap[w6.heap.size]?=some o):=hid fun o=>⟨(Below.refl _ _).alloc (Nat.le_refl _) o,heap_alloc_new w6 o⟩
    have HBE:Hid (∀ o,Below w6.heap.size w6 (w6.alloc o).drew∧(w6.alloc o).drew.heap[w6.heap.size]?=some o):=hid fun o=>⟨((Below.refl _ _).alloc (Nat.le_refl _) o).drew,heap_alloc_new w6 o⟩
    have HDB:=hid HT6.out.dbox
    have ⟨⟨k0,k1⟩,_⟩:=keep2 HDB.out
    have HZ:Hid (Selss.OkI 0∧Selss.OkS ⟨#[]⟩∧Selss.OkS ⟨#[]⟩∧Selss.OkI 0):=hid ⟨by unfold Selss.OkI;omega,by unfold Selss.OkS;decide,by unfold Selss.OkS;decide,by unfold Selss.OkI;omega⟩
    have HID:Hid (Selss.OkI 1∧Selss.OkS ⟨#[105,100]⟩∧Selss.OkS ⟨#[105,100]⟩∧Selss.OkI (-1)):=hid ⟨by unfold Selss.OkI;omega,by unfold Selss.OkS;decide,by unfold Selss.OkS;decide,by unfold Selss.OkI;omega⟩
    clear hcell hfz hnl e1 hok hin hin' e2 hfar r1 r2 r3 r4 b1 b2 h3 h4 hg
    have HQ:=hid (HRDY.out _ (HBA.out (.cells #[.int .i64 0,.string ⟨#[]⟩,.string ⟨#[]⟩,.int .i64 0,.slice none 0 0] 97)).1 0 ⟨#[]⟩ ⟨#[]⟩ 0 HZ.out)
    have HQ2:=hid (HBA.out (.cells #[.int .i64 0,.string ⟨#[]⟩,.string ⟨#[]⟩,.int .i64 0,.slice none 0 0] 97))
    go_upto_region 7 with (at_builtin;refine app_selG rfl _ _ rfl r.lo (.slice r.a inn.length r.cap) inn rfl HQ.out.1 w6.heap.size 1 rfl ⟨0,⟨#[]⟩,⟨#[]⟩,0,none,0,.nil,w6.heap.size,w6.heap.size⟩ HQ2.out.2 HQ.out.2.1 HQ.out.2.2.1 hsz HQ.out.2.2.2.1 ?_;intro g9 cap9 w9 hown9 hgrow9 hat9;have HA:=hid (HAP.out _ w9 g9 cap9 _ HQ2.out.1 (Nat.le_refl _) hown9 hgrow9 hat9);have m4:=(World.cell?_of_block (w:=w6) (a:=⟨gb,i * 5+4,none⟩) HA.out.2.1).trans hc4;have mz:=frozen_of_row w9 gb (i * 5+4) _ _ (HA.out.2.1.trans HG.out);clear hown9 hgrow9 hat9)
    have HK:=hid HA.out.2.2.1
    have HZF:=hid (HA.out.2.2.2.2 w6.heap.size 1 ⟨#[105,100]⟩ ⟨#[105,100]⟩ (-1) rfl HID.out)
    obtain ⟨w10,hw10⟩:∃ q,w9.setCell ⟨gb,i * 5+4,none⟩ (.slice (some ⟨g9,0,none⟩) (inn.length+1) cap9)=q:=⟨_,rfl⟩
    rw[hw10] at HK HZF ⊢
    obtain ⟨g',e9,_,_,_,_,hcell,hfz⟩:=OwnSel.cell HK.out (i:=inn.length) (r:=⟨0,⟨#[]⟩,⟨#[]⟩,0,none,0,.nil,w6.heap.size,w6.heap.size⟩) (by simp)
    cases e9
    have c0:w10.cell? ⟨g9,inn.length * 5,none⟩=some _:=hcell 0 _ rfl
    have c1:=hcell 1 _ rfl
    have c2:=hcell 2 _ rfl
    have c3:=hcell 3 _ rfl
    have c4:=hcell 4 _ rfl
    have z0:=hfz (inn.length * 5)
    have z1:=hfz (inn.length * 5+1)
    have z2:=hfz (inn.length * 5+2)
    have z3:=hfz (inn.length * 5+3)
    have z4:=hfz (inn.length * 5+4)
    obtain ⟨n1,hn1⟩:∃ q,inn.length+1=q:=⟨_,rfl⟩
    have hix:(inn.length:Int)<(n1:Int):=by omega
    rw[hn1]
    clear hn1 hw10 hcell hfz HA m4 mz hc4 hz4 k0 k1 hgbw h5 HG
    go_wp2_with fail
    go_meet
    exact HZF
 case rest =>
  obtain ⟨ra,n,rc,fa,nf,fc,d,hdb,hn,hnf,hsel,hfrag,hcap,hres,hsr,hon,hlt⟩:=hcut.out
  subst hn hnf
  have HX:=hid hsel
  have HFR:=hid hfrag
  have HON:=hid hon
  have HSR:=hid hsr
  have HRES:=hid hres
  have ⟨⟨k0,k1⟩,_⟩:=keep2 hdb
  have ⟨⟨i0,i1⟩,j0,j1⟩:=keep2 hres
  clear hsel hfrag hon hsr hdb hres
  go_wp2_with fail
  change bodyPost _ _ _ _ _ (putL wc (w.heap.size+1) 0 [.slice ra d.sels.len rc,.slice fa d.frags.length fc])
  obtain ⟨hr,_,_⟩:=putL_cells (g:=w.heap.size+1) (o:=0) (l:=[.slice ra d.sels.len rc,.slice fa d.frags.length fc]) HRES.out (by simp)
  have hsz:=putL_size [.slice ra d.sels.len rc,.slice fa d.frags.length fc] wc (w.heap.size+1) 0
  have hoth:=fun c hc=>putL_other [.slice ra d.sels.len rc,.slice fa d.frags.length fc] wc (w.heap.size+1) 0 c hc
  have hbel:=putL_below (g:=w.heap.size+1) (B:=w.heap.size+1) (Nat.le_refl _) [.slice ra d.sels.len rc,.slice fa d.frags.length fc] 0 (Below.refl (w.heap.size+1) wc)
  generalize putL wc (w.heap.size+1) 0 [.slice ra d.sels.len rc,.slice fa d.frags.length fc]=wf at *
  have x0:=hr 0 _ rfl
  have x1:=hr 1 _ rfl
  simp only[Nat.zero_add] at x0 x1
  refine bodyPost_ret (v:=.agg #[.slice ra d.sels.len rc,.slice fa d.frags.length fc]) (by simp[results,Tryz.results61,go_sem,x0,x1]) rfl ⟨⟨_,d,rfl,ra,rc,fa,fc,rfl,(HX.out.block (w':=wf) fun c c1 c2=>hoth c (by omega)).wide (Nat.le_refl _) (by omega),(HFR.out.block (w':=wf) fun c c1 c2=>hoth c (by omega)).wide (Nat.le_refl _) (by omega),hcap⟩,HSR.out.below (by omega) hbel,HON.out.of_below (by omega) hbel⟩
end Go.Proofs.YtmembhpoidcmlaaGreatDoor.Draws
