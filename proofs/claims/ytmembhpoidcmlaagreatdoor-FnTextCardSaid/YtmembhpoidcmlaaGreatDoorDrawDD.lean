/-
  Contract: the draw of a question (l03DocOf): its selections, and two Frags, in rows of the call's own; of what was there only the source is changed. Conditions: as the theorem says.
-/
import Derived.Test.YtmembhpoidcmlaaGreatDoorRows
import Derived.Test.YtmembhpoidcmlaaGreatDoorDrawDC
import Derived.Deep.CutRange
import Derived.Deep.CutBlock
namespace Go.Proofs.YtmembhpoidcmlaaGreatDoor.Draws
open Lib (hid)
open Go.RowKit Texts Bytes Rw Words
open Selss (OwnSel RowS rowsSels SelsX Sels OwnFrag RowF FragP)
set_option linter.unusedVariables false
set_option maxRecDepth 100000
theorem head_good{s:List TypeP}(h:schemaB s=true):∃ x,s[0]?=some x∧Good s x.name:=by
 obtain ⟨⟨h1,_⟩,h2,h3⟩:=schemaB_parts h
 cases s with
 | nil=>simp at h1
 | cons x s =>
  refine⟨x,rfl,?_,?_⟩
  ·have:=type_small (h3 0 x rfl).1.1;omega
  ·left;unfold headKind at h2;simp only[typeIn,if_true];exact h2
def DocR(w w':World)(p len cap:Nat)(a:Option Addr)(v:Value):Prop:=∃ (ra:Option Addr) (rc:Nat) (L:List RowS) (lo M E:Nat) (fv:Value) (F:List RowF),v=.agg #[.slice ra L.length rc,fv] ∧
 OwnIn w' lo M (.slice ra L.length rc) L∧RowsD w' L∧OwnFrag w' E fv F∧FragsD w' F∧1≤L.length∧L.length≤3∧F.length=2∧w.heap.size+2≤lo∧lo≤M∧M≤E∧E≤w'.heap.size
set_option maxHeartbeats 4000000 in
theorem specDocOf(w:World)(p len cap:Nat)(a:Option Addr)(A B:Nat)(sa:Option Addr)(sn sc:Nat)(s:List TypeP)(hsrc:Src w p a len cap)(hsch:SchemaAt w A B (.agg #[.slice sa sn sc]) s)(hpA:p<A)(hB:B≤w.heap.size)(hs:schemaB s=true)(hw:schWt s≤1048576)
  (hgood:∀ t∈([⟨#[81]⟩,⟨#[85,83,69,82]⟩,⟨#[80,79,83,84]⟩]:List ByteArray),Good s t) :
  Calls Tryz.prog 34 #[.pointer (some ⟨p,0,none⟩),.agg #[.slice sa sn sc]] w fun e w'=>(∃ v,e=.returned v∧DocR w w' p len cap a v)∧Src w' p a len cap∧Only p w w':=by
 have HSRC:=hid hsrc
 have HS:=hid hs
 have HW:=hid hw
 have HGD:=hid hgood
 have hpw:=hsrc.lt
 obtain ⟨x0,hx0,hg0⟩:=head_good hs
 have HG0:=hid hg0
 obtain ⟨sa',sc',e1,hta,hsc⟩:=hsch
 have HSCH:Hid (SchemaAt w A B (.agg #[.slice sa sn sc]) s):=hid ⟨sa',sc',e1,hta,hsc⟩
 simp at e1
 obtain ⟨rfl,rfl,rfl⟩:=e1
 have hs1:0<s.length:=(List.getElem?_eq_some_iff.1 hx0).1
 obtain ⟨x1,tb,tq,hx1,rfl,htA,htB,_,ta1,tca,tc1,tcc,htc,_⟩:=hta.at hs1
 obtain rfl:x1=x0:=by rw[hx0] at hx1;cases hx1;rfl
 have htc0:=(row5 htc).1
 rw[Nat.zero_mul,Nat.add_zero] at htc0
 have HTC:=hid htc0
 have HTB:Hid (A≤tb∧tb<B):=hid ⟨htA,htB⟩
 obtain ⟨sn,hsn⟩:∃ q,s.length=q:=⟨_,rfl⟩
 rw[hsn] at hs1 HSCH ⊢
 have hs1i:(0:Int)<(sn:Int):=by omega
 clear hsrc hs hw hgood hg0 hx0 hx1 hta hsc htc htc0 htA htB hsn
 have HA2:Hid (∀ o1 o2,Below w.heap.size w ((w.alloc o1).alloc o2)):=hid fun o1 o2=>((Below.refl _ _).alloc (Nat.le_refl _) o1).alloc (by simp) o2
 have HK2:Hid (∀ o1 o2,((w.alloc o1).alloc o2).heap[w.heap.size]?=some o1∧((w.alloc o1).alloc o2).heap[w.heap.size+1]?=some o2∧((w.alloc o1).alloc o2).heap.size=w.heap.size+2):=hid fun o1 o2=>by
  refine⟨by rw[Go.Deep.blk_alloc_lt _ _ _ (by simp)];exact heap_alloc_new w _,?_,by simp⟩
  have:=heap_alloc_new (w.alloc o1) o2
  simpa using this
 go_enter Tryz.func34,Tryz.ntmps34
 go_upto_region 1 with fail
 obtain ⟨w2,hw2⟩:∃ q,(w.alloc (.cells #[.slice (some ⟨tb,tq,none⟩) sn sc] 35)).alloc (.cells #[.slice none 0 0,.slice none 0 0] 26)=q:=⟨_,rfl⟩
 have HB2:Hid (Below w.heap.size w w2):=hid (by rw[←hw2];exact HA2.out _ _)
 have HK:Hid (w2.heap[w.heap.size]?=some (.cells #[.slice (some ⟨tb,tq,none⟩) sn sc] 35 (0,0))∧w2.heap[w.heap.size+1]?=some (.cells #[.slice none 0 0,.slice none 0 0] 26 (0,0))∧w2.heap.size=w.heap.size+2):=hid (by rw[←hw2];exact HK2.out _ _)
 rw[hw2]
 clear hw2 HA2 HK2
 have HT2:Hid (tb<w.heap.size∧tb≠p∧w2.cell? ⟨tb,tq,none⟩=some (.string x1.name)):=hid ⟨by have:=HTB.out;omega,by have:=HTB.out;omega,(HB2.out.cell (p:=⟨tb,tq,none⟩) (by have:=HTB.out;show tb<w.heap.size;omega)).trans HTC.out⟩
 have ⟨y0,_⟩:=keep1 HK.out.1
 have y0d:w2.drew.cell? ⟨w.heap.size,0,none⟩=_:=y0
 have hyw:w.heap.size<w2.heap.size:=by have:=HK.out.2.2;omega
 have hywd:w.heap.size<w2.drew.heap.size:=hyw
 have t0:=HT2.out.2.2
 have t0d:w2.drew.cell? ⟨tb,tq,none⟩=_:=t0
 have htw:tb<w2.heap.size:=by have:=HT2.out.1;omega
 have htwd:tb<w2.drew.heap.size:=htw
 have C1:Hid (∀ W,Below w2.heap.size w2 W→Calls Tryz.prog 66 #[.pointer (some ⟨p,0,none⟩),.agg #[.slice (some ⟨tb,tq,none⟩) sn sc],.string x1.name,.int .i64 4] W fun e w' =>
   (∃ a' c' L,e=.returned (.slice a' L.length c')∧OwnSel w' W.heap.size (.slice a' L.length c') L∧RowsD w' L∧1≤L.length∧L.length≤3)∧Src w' p a len cap∧Only p W w'):=hid fun W hb=>by
  have hW:=HB2.out.trans (hb.mono HB2.out.size)
  exact specSelsOf 4 (by omega) (by omega) W p len cap a A B _ sn sc s x1.name (HSRC.out.below hpw hW) (HSCH.out.below hB hW) hpA (Nat.le_trans hB hW.size) HS.out HW.out HG0.out
 have HB0:Hid (Below w2.heap.size w2 w2.drew):=hid (Below.refl _ _).drew
 have HB1:Hid (∀ o,Below w2.heap.size w2 (w2.alloc o).drew):=hid fun o=>((Below.refl _ _).alloc (Nat.le_refl _) o).drew
 have HG1:Hid (∀ o,(w2.alloc o).drew.heap[w2.heap.size]?=some o∧(w2.alloc o).drew.heap.size=w2.heap.size+1):=hid fun o=>⟨heap_alloc_new w2 o,by show (w2.alloc o).heap.size=_;simp⟩
 have HSTART:Hid (∀ W w3 w4 db ra rc L E,Below w2.heap.size w2 W→W.heap.size≤w3.heap.size→Only p W w3→Src w3 p a len cap→OwnSel w3 W.heap.size (.slice ra L.length rc) L→RowsD w3 L→1≤L.length→L.length≤3→(∀ c,c≠db→c<w3.heap.size→w4.heap[c]?=w3.heap[c]?)→w4.heap[db]?=some (.cells #[.slice ra L.length rc,.slice none 0 0] 26 (0,0))→w3.heap.size≤w4.heap.size→w4.os=w3.os→w4.tape=w3.tape→w4.output=w3.output→w2.heap.size≤db→(db<W.heap.size∨w3.heap.size≤db)→db<E→w3.heap.size≤E→E≤w4.heap.size →
   DocS w w4 p len cap a A B (some ⟨tb,tq,none⟩) sn sc s db ra rc L W.heap.size w3.heap.size E (.slice none 0 0) []):=hid fun W w3 w4 db ra rc L E hb hz ho hsr hown hrd hl1 hl3 hoth hdb hz4 hos htape hout hd1 hd2 hd3 hE1 hE2=>by
  have hz2:=HK.out.2.2
  have hwz:=hb.size
  have hW:=HB2.out.trans (hb.mono HB2.out.size)
  have hk:∀ c,c<w2.heap.size→c≠p→w4.heap[c]?=w2.heap[c]?:=fun c c1 c2=>(hoth c (by omega) (by omega)).trans ((ho.block c (by omega) c2).trans (hb.block c c1))
  have hb4:Below w2.heap.size w3 w4:=⟨hos,htape,hout,hz4,fun c hc=>hoth c (by omega) (by omega)⟩
  have hkw:∀ c,c<w.heap.size→c≠p→w4.heap[c]?=w.heap[c]?:=fun c c1 c2=>(hk c (by omega) c2).trans (HB2.out.block c c1)
  refine⟨hsr.below (by omega) hb4,(((Only.refl p w).of_below (Nat.le_refl _) hW).trans ho).of_below (by omega) hb4,SchemaAt.far HSCH.out fun c c1 c2=>hkw c (by omega) (by omega),(hk _ (by omega) (by omega)).trans HK.out.1,(hk _ (by omega) (by omega)).trans HK.out.2.1,hdb,(OwnIn.of hown hz).frame fun c c1 c2=>hoth c (by omega) c2,hrd.frame fun r hr c c1 c2=>hoth c ?_ ?_,OwnFrag.none_ _ _,FragsD.nil _,hl1,hl3,by omega,hz,hE1,by omega,hd3,hd2,hE2,hpA,hpw,hB⟩
  ·obtain ⟨_,_,g3,g4,_⟩:=hown.ok r hr
   omega
  ·obtain ⟨_,_,g3,g4,_⟩:=hown.ok r hr
   omega
 go_cut [5] from 12 to 20 (fun v5 wx=>∃ db ra rc L lo M E,v5=.pointer (some ⟨db,0,none⟩)∧Hid (DocS w wx p len cap a A B (some ⟨tb,tq,none⟩) sn sc s db ra rc L lo M E (.slice none 0 0) []))
 case first =>
  go_region_with (first
   | (go_at_call 66;refine(C1.out _ HB0.out).mono ?_;rintro e w3 ⟨⟨ra,rc,L,rfl,ho,hr,hl1,hl3⟩,hs3,hO3⟩;have HEND:Hid (∃ db,db=w3.heap.size∧DocS w (w3.alloc (.cells #[.slice ra L.length rc,.slice none 0 0] 26)) p len cap a A B (some ⟨tb,tq,none⟩) sn sc s db ra rc L w2.drew.heap.size w3.heap.size (db+1) (.slice none 0 0) []):=hid ⟨_,rfl,HSTART.out _ w3 (w3.alloc (.cells #[.slice ra L.length rc,.slice none 0 0] 26)) w3.heap.size ra rc L (w3.heap.size+1) HB0.out hO3.size hO3 hs3 ho hr hl1 hl3 (fun c c1 c2=>Go.Deep.blk_alloc_lt _ _ _ c2) (heap_alloc_new w3 _) (by simp) rfl rfl rfl hO3.size (.inr (Nat.le_refl _)) (by omega) (by omega) (by simp)⟩;clear ho hr hl1 hl3 hs3 hO3)
   | (go_at_call 66;refine(C1.out _ (HB1.out _)).mono ?_;rintro e w3 ⟨⟨ra,rc,L,rfl,ho,hr,hl1,hl3⟩,hs3,hO3⟩;have hdb:=(hO3.block w2.heap.size (by have:=(HG1.out (.cells #[.slice none 0 0,.slice none 0 0] 26)).2;omega) (by have:=HB2.out.size;omega)).trans (HG1.out _).1;have ⟨⟨i0,i1⟩,j0,j1⟩:=keep2 hdb;have HDB:=hid hdb;have HEND:Hid (DocS w (putL w3 w2.heap.size 0 [.slice ra L.length rc,.slice none 0 0]) p len cap a A B (some ⟨tb,tq,none⟩) sn sc s w2.heap.size ra rc L (w2.alloc (.cells #[.slice none 0 0,.slice none 0 0] 26)).drew.heap.size w3.heap.size w3.heap.size (.slice none 0 0) []):=hid (HSTART.out _ w3 (putL w3 w2.heap.size 0 [.slice ra L.length rc,.slice none 0 0]) w2.heap.size ra rc L w3.heap.size (HB1.out _) hO3.size hO3 hs3 ho hr hl1 hl3 (fun c c1 c2=>putL_other _ _ _ _ c c1) (by unfold putL putL putL;rw[heap_setCell_same _ _ _ _ _ _ (heap_setCell_same _ _ _ _ _ _ hdb)];simp) (by rw[putL_size];exact Nat.le_refl _) rfl rfl rfl (Nat.le_refl _) (.inl (by rw[(HG1.out _).2];omega)) (by have h1:=hO3.size;rw[(HG1.out _).2] at h1;omega) (Nat.le_refl _) (by rw[putL_size];exact Nat.le_refl _));clear ho hr hl1 hl3 hs3 hO3 hdb))
  all_goals go_wp2_with fail
  all_goals go_meet
  all_goals (first
   | (obtain ⟨db,hdb,hend⟩:=HEND.out;subst hdb;exact⟨_,_,_,_,_,_,_,rfl,hid hend⟩)
   | exact⟨_,_,_,_,_,_,_,rfl,hid HEND.out⟩)
 case rest =>
  obtain ⟨db,ra,rc,L,lo,M,E,rfl,HD⟩:=hcut
  clear y0 y0d hyw hywd t0 t0d htw htwd
  have HN0:Hid (∀ o,(wc.alloc o).heap[wc.heap.size]?=some o∧wc.heap.size<(wc.alloc o).heap.size∧DocS w (wc.alloc o) p len cap a A B (some ⟨tb,tq,none⟩) sn sc s db ra rc L lo M (wc.heap.size+1) (.slice none 0 0) []):=hid fun o=>⟨heap_alloc_new wc o,by simp,(HD.out.below ((Below.refl _ _).alloc (Nat.le_refl _) o)).raise (by have:=HD.out.E1;omega) (by simp)⟩
  obtain ⟨nb,hnb⟩:∃ q,wc.heap.size=q:=⟨_,rfl⟩
  rw[hnb] at HN0
  have HDBN:Hid (db<nb∧w.heap.size+2≤db):=hid ⟨by have:=HD.out.db2;have:=HD.out.E1;omega,HD.out.db1⟩
  have HNB:=hid hnb
  clear hnb
  go_wp2_with fail
  rw[HNB.out]
  go_loopw [23] (fun i wr=>∃ (i':Nat) (fv:Value) (F:List RowF),i'≤2∧i=.int .i64 i'∧Hid (F.length=i')∧Hid (wr.heap[nb]?=some (.cells #[.string ⟨#[102,97]⟩,.string ⟨#[102,98]⟩] 9 (0,0)))∧Hid (DocS w wr p len cap a A B (some ⟨tb,tq,none⟩) sn sc s db ra rc L lo M (nb+1) fv F)) (fun i _=>2 - (intOf i).toNat)
  case atStart=>exact⟨0,_,[],by omega,rfl,hid rfl,hid (HN0.out _).1,hid (HN0.out _).2.2⟩
  case round =>
   obtain ⟨i,fv,F,hi,rfl,HF,HNK,HD⟩:=hrel
   by_cases hlt:i<2
   ·have hli:(i:Int)<2:=by omega
    obtain ⟨nm,hnm,hcn⟩:∃ nm:ByteArray,nm.size≤20∧wr.cell? ⟨nb,i,none⟩=some (.string nm):=by
     have h01:i=0∨i=1:=by omega
     rcases h01 with rfl|rfl
     ·exact⟨_,by decide,Rw.cell_of HNK.out rfl⟩
     ·exact⟨_,by decide,Rw.cell_of HNK.out rfl⟩
    have HAL:Hid (∀ o,(wr.alloc o).heap[wr.heap.size]?=some o∧wr.heap.size<(wr.alloc o).heap.size∧(wr.alloc o).heap[nb]?=wr.heap[nb]?∧DocS w (wr.alloc o) p len cap a A B (some ⟨tb,tq,none⟩) sn sc s db ra rc L lo M (nb+1) fv F):=hid fun o=>⟨heap_alloc_new wr o,by simp,Go.Deep.blk_alloc_lt _ _ _ (lt_of_get HNK.out),HD.out.below ((Below.refl _ _).alloc (Nat.le_refl _) o)⟩
    have CN:Hid (∀ o,Calls Tryz.prog 36 #[.pointer (some ⟨p,0,none⟩),.int .i64 3] (wr.alloc o) fun e w'=>(∃ r,e=.returned (.int .i64 r)∧0≤r∧(r<3∨r=0))∧DocS w w' p len cap a A B (some ⟨tb,tq,none⟩) sn sc s db ra rc L lo M (nb+1) fv F∧Only p (wr.alloc o) w'):=hid fun o=>(HAL.out o).2.2.2.n 3 (by omega)
    have HNP:Hid (nb≠p∧wr.heap.size≠p):=hid ⟨by have:=HD.out.E1;have:=HD.out.db2;have:=HD.out.db1;have:=HD.out.M1;have:=HD.out.lo2;have:=HD.out.lo1;omega,by have:=HD.out.src.lt;omega⟩
    have HLT:=hid hlt
    clear hlt
    go_upto_region 6 with (go_at_call 36;refine(CN.out _).mono ?_;rintro e w6 ⟨⟨r,rfl,hr0,hr1⟩,hd6,ho6⟩;have hob:=(ho6.block wr.heap.size (HAL.out _).2.1 HNP.out.2).trans (HAL.out _).1;obtain ⟨q,rfl⟩:=Int.eq_ofNat_of_zero_le hr0;obtain ⟨on,hon,hco⟩:∃ on:ByteArray,Good s on∧w6.cell? ⟨wr.heap.size,q,none⟩=some (.string on):=(by
       have h01:q=0∨q=1∨q=2:=(by omega)
       rcases h01 with rfl|rfl|rfl
       ·exact⟨_,HGD.out _ (by simp),Rw.cell_of hob rfl⟩
       ·exact⟨_,HGD.out _ (by simp),Rw.cell_of hob rfl⟩
       ·exact⟨_,HGD.out _ (by simp),Rw.cell_of hob rfl⟩);have hq3:(q:Int)<3:=(by omega);have HNK6:=hid ((ho6.block nb (Nat.lt_trans (lt_of_get HNK.out) (HAL.out _).2.1) HNP.out.1).trans ((HAL.out _).2.2.1.trans HNK.out));have HON:=hid hon;have HD6:=hid hd6;clear hr0 hr1 hd6 ho6 hob hon)
    have ⟨y0,_⟩:=keep1 HD6.out.box
    have CS:=hid (HD6.out.subs HS.out HW.out on HON.out 2 (by omega) (by omega))
    clear hcn hco
    go_upto_region 7 with (go_at_call 66;refine CS.out.mono ?_;rintro e w7 ⟨⟨la,lc,nl,L5,rfl,hnl,hown,hrd,hn1,hn3⟩,hd7,ho7⟩;have HNL:=hid hnl;have HOW:=hid hown;have HRD:=hid hrd;have HD7:=hid hd7;have HZ7:=hid ho7.size;have HNK7:=hid ((ho7.block nb (lt_of_get HNK6.out) HNP.out.1).trans HNK6.out);clear hnl hown hrd hd7 ho7)
    obtain ⟨lo5,hlo5⟩:∃ q,w6.heap.size=q:=⟨_,rfl⟩
    rw[hlo5] at HOW HZ7
    have HFV:Hid ((∀ g,fv.ownBlock=some g→g<lo5)∧∀ r∈F,r.hi≤lo5):=hid ⟨fun g hg=>by have:=(HD6.out.frags.own.lt g hg).2;omega,fun r hr=>by have:=(HD6.out.frags.ok r hr).2.2.1;omega⟩
    have HOO:Hid (Selss.OkS nm∧Selss.OkS on):=hid ⟨by unfold Selss.OkS;omega,by have:=HON.out.1;unfold Selss.OkS;omega⟩
    have HE5:Hid (nb+1≤lo5):=hid (by have:=HD6.out.E1;omega)
    have HLI:Hid (OwnIn w7 lo5 w7.heap.size (.slice la nl lc) L5):=hid (OwnIn.of HOW.out HZ7.out)
    have HK0:Hid (OwnSel (w7.alloc (.cells #[] 97)) lo5 (.slice (some ⟨w7.heap.size,0,none⟩) 0 0) []):=hid (OwnSel.made w7 lo5 HZ7.out)
    have HB0:Hid (∀ o,Below w7.heap.size w7 (w7.alloc o)):=hid fun o=>(Below.refl _ _).alloc (Nat.le_refl _) o
    clear hlo5 CS y0
    have HL5:Hid (∀ (q:Nat) (r:RowS),L5[q]?=some r→lo5≤r.lo∧r.hi≤w7.heap.size∧(Selss.OkI r.k∧Selss.OkS r.key∧Selss.OkS r.nm∧Selss.OkI r.f)∧SelsX w7 r.lo r.hi r.a r.u.len r.u):=hid fun q r hr=>by
     obtain ⟨g1,g2,g3,g4,_⟩:=HOW.out.ok r (List.mem_of_getElem? hr)
     exact⟨g3,g4,g1,g2⟩
    have HORD:Hid (∀ (q1 q2:Nat) (r1 r2:RowS),q1<q2→L5[q1]?=some r1→L5[q2]?=some r2→r1.hi≤r2.lo):=hid fun q1 q2 r1 r2 hq h1 h2=>by
     obtain ⟨a1,rfl⟩:=List.getElem?_eq_some_iff.1 h1
     obtain ⟨a2,rfl⟩:=List.getElem?_eq_some_iff.1 h2
     exact List.pairwise_iff_getElem.1 HOW.out.order q1 q2 a1 a2 hq
    go_wp2_with fail
    have HFA0:Hid (∀ g,(Value.slice (some ⟨w7.heap.size,0,none⟩) ([]:List RowS).length 0).ownBlock=some g→w7.heap.size≤g):=hid fun g hg=>by
     have e:g=w7.heap.size:=by simpa [Value.ownBlock] using hg.symm
     omega
    go_loopw [10,11] (fun kv iv wq=>∃ (ka:Option Addr) (kc:Nat) (K:List RowS) (j:Nat),kv=.slice ka K.length kc∧iv=.int .i64 j∧j≤nl∧K.length≤j∧Hid (OwnSel wq lo5 (.slice ka K.length kc) K)∧Hid (∀ r∈K,∃ q,q<j∧L5[q]?=some r)∧Hid (∀ g,(Value.slice ka K.length kc).ownBlock=some g→w7.heap.size≤g)∧Hid (Below w7.heap.size w7 wq)) (fun _ iv _=>nl - (intOf iv).toNat)
    case atStart=>exact⟨_,_,[],0,rfl,rfl,by omega,by simp,HK0,hid (fun r hr=>by cases hr),HFA0,hid (HB0.out _)⟩
    case round =>
     obtain ⟨ka,kc,K,j,rfl,rfl,hj,hKj,HOK,HME,HFA,HBW⟩:=hrel
     clear HK0
     by_cases hjl:j<nl
     ·have hji:(j:Int)<(nl:Int):=by omega
      obtain ⟨r,hr⟩:∃ r,L5[j]?=some r:=⟨_,List.getElem?_eq_getElem (by have:=HNL.out;omega)⟩
      obtain ⟨gb,rfl,hgb1,hgb2,hgn,hgc,hcell,_⟩:=(HLI.out.frame fun c c1 c2=>HBW.out.block c c2).cell hr
      have c0:wr.cell? ⟨gb,j * 5,none⟩=some (.int .i64 r.k):=hcell 0 _ rfl
      have c1:wr.cell? ⟨gb,j * 5+1,none⟩=some (.string r.key):=hcell 1 _ rfl
      have c2:wr.cell? ⟨gb,j * 5+2,none⟩=some (.string r.nm):=hcell 2 _ rfl
      have c3:wr.cell? ⟨gb,j * 5+3,none⟩=some (.int .i64 r.f):=hcell 3 _ rfl
      have c4:wr.cell? ⟨gb,j * 5+4,none⟩=some (.slice r.a r.u.len r.cap):=hcell 4 _ rfl
      have HR:=hid hr
      have hgbw:gb<wr.heap.size:=Nat.lt_of_lt_of_le hgb2 HBW.out.size
      clear hr hcell hgb1 hgb2 hgn
      by_cases hk1:r.k=1
      ·have hkb:(r.k == 1)=true:=by simpa using hk1
       clear hk1
       have hKl:K.length+1≤1048576:=by omega
       have HBA:Hid (∀ o,Below w7.heap.size w7 (wr.alloc o)):=hid fun o=>HBW.out.alloc HBW.out.size o
       have HRR:Hid (∀ o,(Selss.OkI r.k∧Selss.OkS r.key∧Selss.OkS r.nm∧Selss.OkI r.f)∧SelsX (wr.alloc o) r.lo r.hi r.a r.u.len r.u∧lo5≤r.lo∧r.hi≤(wr.alloc o).heap.size∧∀ g,(Value.slice ka K.length kc).ownBlock=some g→g<r.lo∨r.hi≤g):=hid fun o=>by
        obtain ⟨g1,g2,g3,g4⟩:=HL5.out j r HR.out
        exact⟨g3,g4.block fun c c1 c2=>(HBA.out o).block c (by omega),g1,Nat.le_trans g2 (HBA.out o).size,fun g hg=>.inr (by have:=HFA.out g hg;omega)⟩
       have HOR:Hid (∀ q∈K,q.hi≤r.lo):=hid fun q hq=>by
        obtain ⟨i2,h1,h2⟩:=HME.out q hq
        exact HORD.out i2 j q r h1 h2 HR.out
       have HOA:Hid (∀ o,OwnSel (wr.alloc o) lo5 (.slice ka K.length kc) K∧(wr.alloc o).heap[wr.heap.size]?=some o∧lo5≤(wr.alloc o).heap.size):=hid fun o=>⟨HOK.out.frame (by simp) fun c c1 c2=>Go.Deep.blk_alloc_lt _ _ _ c2,heap_alloc_new wr o,by have:=HBA.out o |>.size;have:=HZ7.out;omega⟩
       go_wp2_with (at_builtin;refine app_selG rfl _ _ rfl lo5 _ K rfl (HOA.out _).1 wr.heap.size _ rfl r (HOA.out _).2.1 (HRR.out _) HOR.out hKl (HOA.out _).2.2 ?_;intro g9 cap9 w9 hown9 hgrow9 hat9;have HOK9:=hid hown9;have HBW9:Hid (Below w7.heap.size w7 w9):=hid ((HBA.out _).grown hgrow9 (HBA.out _).size (fun k hk=>HFA.out k hk));have HFA9:Hid (∀ g,(Value.slice (some ⟨g9,0,none⟩) (K.length+1) cap9).ownBlock=some g→w7.heap.size≤g):=hid (fun g hg=>by
         have e:g=g9:=by simpa [Value.ownBlock] using hg.symm
         rcases hat9 with h|h
         ·exact HFA.out g (by rw[e];exact h)
         ·rw[e,h];exact(HBA.out _).size);clear hown9 hgrow9 hat9)
       go_roundw
       case rel=>exact⟨some ⟨g9,0,none⟩,cap9,K++[r],j+1,by simp,by go_num,by omega,by simp;omega,hid (by simpa using HOK9.out),hid (fun q hq=>by
         rcases List.mem_append.1 hq with hq|hq
         ·obtain ⟨i2,h1,h2⟩:=HME.out q hq
          exact⟨i2,by omega,h2⟩
         ·rw[List.mem_singleton] at hq;subst hq;exact⟨j,by omega,HR.out⟩),hid (by simpa using HFA9.out),HBW9⟩
       case measure=>simp[intOf];omega
      ·have hkb:(r.k == 1)=false:=by simpa using hk1
       clear hk1
       go_wp2_with fail
       go_roundw
       case rel=>exact⟨ka,kc,K,j+1,rfl,by go_num,by omega,by omega,HOK,hid (fun q hq=>by obtain ⟨i2,h1,h2⟩:=HME.out q hq;exact⟨i2,by omega,h2⟩),HFA,HBW⟩
       case measure=>simp[intOf];omega
     ·obtain rfl:j=nl:=by omega
      clear hjl
      have HK3:Hid (K.length≤3):=hid (by omega)
      have HRK:Hid (∀ W,Below w7.heap.size w7 W→RowsD W K):=hid fun W hb r hr=>by
       obtain ⟨q,_,hq⟩:=HME.out r hr
       obtain ⟨inn,i1,i2⟩:=HRD.out r (List.mem_of_getElem? hq)
       obtain ⟨g1,g2,_⟩:=HL5.out q r hq
       exact⟨inn,i1.frame fun c c1 c2=>hb.block c (by omega),i2⟩
      have HBA:Hid (∀ o,Below w7.heap.size w7 (wr.alloc o)):=hid fun o=>HBW.out.alloc HBW.out.size o
      have HZR:Hid (lo5≤wr.heap.size):=hid (Nat.le_trans HZ7.out HBW.out.size)
      obtain ⟨zb,hzb⟩:∃ q,((K.length:Int) == 0)=q:=⟨_,rfl⟩
      have HZB:=hid hzb
      clear hKj
      go_upto_if 58 with fail
      clear hzb
      go_cut [10] from 59 to 60 (fun kv wx=>∃ (ka:Option Addr) (kc:Nat) (K:List RowS),kv=.slice ka K.length kc∧Hid (1≤K.length∧K.length≤3)∧Hid (OwnSel wx lo5 (.slice ka K.length kc) K)∧Hid (RowsD wx K)∧Hid (Below w7.heap.size w7 wx))
      case first =>
       cases zb
       ·go_wp2_with fail
        go_meet
        exact⟨ka,kc,K,rfl,hid ⟨by have h:=HZB.out;rcases Nat.eq_zero_or_pos K.length with e|e;(rw[e] at h;simp at h);exact e,HK3.out⟩,HOK,hid (HRK.out _ HBW.out),HBW⟩
       ·go_wp2_with fail
        go_meet
        exact⟨some ⟨wr.heap.size,0,none⟩,1,[⟨1,⟨#[105,100]⟩,⟨#[105,100]⟩,-1,none,0,.nil,wr.heap.size,wr.heap.size⟩],rfl,hid ⟨by simp,by simp⟩,hid (OwnSel.lit HZR.out 1 _ _ (-1) ⟨by unfold Selss.OkI;omega,by unfold Selss.OkS;decide,by unfold Selss.OkS;decide,by unfold Selss.OkI;omega⟩),hid ((rowNone wr _ _ _ _ _ rfl).frame fun r hr c c1 c2=>by rw[List.mem_singleton] at hr;subst hr;exact Go.Deep.blk_alloc_lt _ _ _ c2),hid (HBA.out _)⟩
      case rest =>
       clear HOK HME HFA HBW HK3 HRK HBA HZR HZB
       obtain ⟨ka,kc,K,rfl,HKL,HOK,HRK,HBW⟩:=hcut
       have HDx:=hid (HD7.out.below HBW.out)
       have HNKx:Hid (wc.heap[nb]?=some (.cells #[.string ⟨#[102,97]⟩,.string ⟨#[102,98]⟩] 9 (0,0))):=hid ((HBW.out.block nb (lt_of_get HNK7.out)).trans HNK7.out)
       obtain ⟨ka',kc',e9,_,hsx⟩:=HOK.out.selsX (by have:=HKL.out;omega) (by have:=HZ7.out;have:=HBW.out.size;omega)
       obtain ⟨rfl,rfl⟩:ka=ka'∧kc=kc':=by cases e9;exact⟨rfl,rfl⟩
       obtain ⟨u,hu⟩:∃ u,rowsSels K=u:=⟨_,rfl⟩
       have hul:K.length=u.len:=by rw[←hu,Selss.rowsSels_len]
       rw[hul] at hsx HOK ⊢
       rw[hu] at hsx
       have HSX:=hid hsx
       have HFD:Hid (FragsD wc [⟨nm,on,ka,kc,u,lo5,wc.heap.size⟩]):=hid fun r hr=>by
        rw[List.mem_singleton] at hr;subst hr
        exact⟨K,OwnIn.of HOK.out (show lo5≤wc.heap.size by have:=HZ7.out;have:=HBW.out.size;omega),hu,by have:=HKL.out;omega,HRK.out⟩
       have ⟨d0,d1⟩:=(keep2 HDx.out.dbox).1
       have hdbw:db<wc.heap.size:=lt_of_get HDx.out.dbox
       clear hsx e9 hul hu
       have HAX:Hid (∀ o,Below wc.heap.size wc (wc.alloc o)∧(wc.alloc o).heap[wc.heap.size]?=some o∧wc.heap.size<(wc.alloc o).heap.size):=hid fun o=>⟨(Below.refl _ _).alloc (Nat.le_refl _) o,heap_alloc_new wc o,by simp⟩
       have HRF:Hid (∀ o,Selss.OkF (wc.alloc o) lo5 wc.heap.size ⟨nm,on,ka,kc,u,lo5,wc.heap.size⟩∧nb+1≤lo5∧wc.heap.size≤(wc.alloc o).heap.size∧∀ g,fv.ownBlock=some g→g<lo5∨wc.heap.size≤g):=hid fun o=>⟨⟨HOO.out,HSX.out.below (Nat.le_refl _) (HAX.out o).1⟩,HE5.out,Nat.le_of_lt (HAX.out o).2.2,fun g hg=>.inl (HFV.out.1 g hg)⟩
       have HDA:Hid (∀ o,DocS w (wc.alloc o) p len cap a A B (some ⟨tb,tq,none⟩) sn sc s db ra rc L lo M (nb+1) fv F):=hid fun o=>HDx.out.below (HAX.out o).1
       have HFA:Hid (∀ o,FragsD (wc.alloc o) [⟨nm,on,ka,kc,u,lo5,wc.heap.size⟩]):=hid fun o=>HFD.out.frame fun r hr c c1 c2=>by rw[List.mem_singleton] at hr;subst hr;exact Go.Deep.blk_alloc_lt _ _ _ c2
       have hFl:F.length+1≤1048576:=by have:=HF.out;omega
       have HBE:Hid (∀ o,nb+1≤(wc.alloc o).heap.size):=hid fun o=>(HDA.out o).E1
       go_wp2_with (at_builtin;refine app_fragG rfl _ _ rfl (nb+1) fv F rfl (HDA.out _).frags wc.heap.size _ rfl ⟨nm,on,ka,kc,u,lo5,wc.heap.size⟩ (HAX.out _).2.1 (HRF.out _) HFV.out.2 hFl (HBE.out _) ?_;intro g9 cap9 w9 hown9 hgrow9 hat9;have hk9:∀ c,c<nb+1→w9.heap[c]?=wc.heap[c]?:=(fun c hc=>(hgrow9.block c (Nat.lt_of_lt_of_le hc (HBE.out _)) (fun e=>by have:=((HDA.out (.cells #[] 0)).frags.own.lt c e.symm).1;omega)).trans ((HAX.out _).1.block c (Nat.lt_of_lt_of_le hc HDx.out.E1)));have hdb9:=(hk9 db (by have:=HDBN.out;omega)).trans HDx.out.dbox;have ⟨⟨l0,l1⟩,m0,m1⟩:=keep2 hdb9;have HN9:=hid ((hk9 nb (Nat.lt_succ_self _)).trans HNKx.out);have HD9:=hid ((HDA.out _).app hown9 hgrow9 (HFA.out _) (fun g hg=>.inl (HFV.out.1 g hg)) (Nat.le_of_lt (HAX.out _).2.2) HE5.out);clear hown9 hgrow9 hat9 hk9 hdb9)
       go_roundw
       case rel=>exact⟨i+1,_,F++[⟨nm,on,ka,kc,u,lo5,wc.heap.size⟩],by omega,by go_num,hid (by have:=HF.out;simp;omega),hid ((Go.Deep.blk_setCell_other _ ⟨db,1,none⟩ _ _ (by have:=HDBN.out;show nb≠db;omega)).trans HN9.out),HD9⟩
       case measure=>simp[intOf];omega
   ·obtain rfl:i=2:=by omega
    have hli:¬ ((2:Nat):Int)<2:=by omega
    clear hlt
    obtain ⟨fa,fc,hfv⟩:=HD.out.frags.len
    subst hfv
    have ⟨d0,d1⟩:=(keep2 HD.out.dbox).1
    have ⟨⟨i0,i1⟩,j0,j1⟩:=keep2 HD.out.res
    go_wp2_with fail
    change bodyPost _ _ _ _ _ (putL wr (w.heap.size+1) 0 [.slice ra L.length rc,.slice fa F.length fc])
    obtain ⟨hr,_,_⟩:=putL_cells (g:=w.heap.size+1) (o:=0) (l:=[.slice ra L.length rc,.slice fa F.length fc]) HD.out.res (by simp)
    have hsz:=putL_size [.slice ra L.length rc,.slice fa F.length fc] wr (w.heap.size+1) 0
    have hoth:=fun c hc=>putL_other [.slice ra L.length rc,.slice fa F.length fc] wr (w.heap.size+1) 0 c hc
    have hbel:=putL_below (g:=w.heap.size+1) (B:=w.heap.size+1) (Nat.le_refl _) [.slice ra L.length rc,.slice fa F.length fc] 0 (Below.refl (w.heap.size+1) wr)
    generalize putL wr (w.heap.size+1) 0 [.slice ra L.length rc,.slice fa F.length fc]=wf at *
    have x0:=hr 0 _ rfl
    have x1:=hr 1 _ rfl
    simp only[Nat.zero_add] at x0 x1
    obtain ⟨e1,e2,e3,e4,e5,e6,e7,e8,e9,e10,l1,l3,q1,q2,q3,q4,q5,q6,q7,q8,q9,q10⟩:=HD.out
    refine bodyPost_ret (v:=.agg #[.slice ra L.length rc,.slice fa F.length fc]) (by simp[results,Tryz.results34,go_sem,x0,x1]) rfl ⟨⟨_,rfl,ra,rc,L,lo,M,nb+1,.slice fa F.length fc,F,rfl,e7.frame fun c c1 c2=>hoth c (by omega),e8.frame fun r hr c c1 c2=>hoth c ?_,e9.frame (by omega) fun c c1 c2=>hoth c (by omega),e10.frame fun r hr c c1 c2=>hoth c ?_,l1,l3,HF.out,q1,q2,q3,by omega⟩,e1.below (by omega) hbel,e2.of_below (by omega) hbel⟩
    ·obtain ⟨w0,z1,z2,z3,z4⟩:=e7
     obtain ⟨_,_,g3,g4,_⟩:=z2.ok r hr
     omega
    ·obtain ⟨_,g3,g4,_⟩:=e9.ok r hr
     omega
end Go.Proofs.YtmembhpoidcmlaaGreatDoor.Draws
