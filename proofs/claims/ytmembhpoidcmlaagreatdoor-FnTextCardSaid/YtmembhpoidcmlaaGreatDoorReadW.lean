/-
  Contract: impl.SchemaRead answers what the model does; of what was there nothing is changed. Conditions: the library's variables hold what the program lays.
-/
import Derived.Test.YtmembhpoidcmlaaGreatDoorRows
import Derived.Test.YtmembhpoidcmlaaGreatDoorReadU
import Derived.Test.YtmembhpoidcmlaaGreatDoorKindF
import Derived.Test.YtmembhpoidcmlaaGreatDoorOwnRw
import Derived.Deep.RegionWith
import Derived.WalkSpells
import Derived.Test.YtmembhpoidcmlaaGreatDoorOwnAll
import Derived.Test.YtmembhpoidcmlaaGreatDoorReadM
namespace Go.Proofs.YtmembhpoidcmlaaGreatDoor.Rw
open Lib (hid)
open Go.RowKit Words Decs Splits
set_option linter.unusedVariables false
set_option maxRecDepth 100000
def fwordT(f:FieldP):ByteArray:=((f.name++cB [58])++f.typ)++tailT f
theorem fword_bL(f:FieldP):bL (fwordT f)=wordT f:=by unfold fwordT wordT;rw[bL_append,bL_append,bL_append,bL_cB];simp
theorem decQ_size(f:Int)(hf:OkI f):(decB f).size≤20:=by
 unfold OkI at hf
 have h20:∀ m:Nat,m≤9223372036854775808→(decL m).length≤19:=fun m hm=>lenL 18 m (by have:(10:Nat) ^ (18+1)=10000000000000000000:=(by decide);omega)
 have:=h20 f.natAbs (by omega)
 unfold decB
 simp only[ByteArray.size,List.size_toArray,List.length_append]
 split <;> simp <;> omega
set_option maxHeartbeats 4000000 in
theorem implFieldText(w:World)(s:List TypeP)(f:FieldP)(hf:FieldOk s f)(hok:f.ok)(B:Nat)(hp:Decs.Pow B w)(hB:B≤w.heap.size) :
  Calls Tryz.prog 204 #[.agg f.cells.toArray] w fun e w'=>e=.returned (.string (fwordT f))∧Below w.heap.size w w':=by
 have HA:Hid (∀ o,Below w.heap.size w (w.alloc o)):=hid fun o=>(Below.refl _ _).alloc (Nat.le_refl _) o
 have hn:=(word_small hf.word).2
 have ht:=(type_small hf.typ).2
 have hsz:=sized_cases hf.sized
 obtain ⟨_,_,hs,hc⟩:=hok
 have CF:Hid (∀ (n:Int),OkI n→∀ w':World,Below w.heap.size w w'→Calls Tryz.prog 105 #[.int .i64 n,.int .i64 10] w' fun e w''=>e=.returned (.string (decB n))∧Below w'.heap.size w' w''):=hid fun n hn w' h=>fmtInt n hn.1 hn.2 B w' (hp.over hB h)
 have hT:Hid (fwordT f=((f.name++⟨#[58]⟩)++f.typ)++tailT f):=hid rfl
 have hTT:Hid (tailT f=((if f.list=true∧f.cap=0 then (cB [91]++decB f.size)++cB [93] else ByteArray.empty)++(if f.list=true∧0<f.cap then (cB [91,60]++decB f.cap)++cB [93] else ByteArray.empty))++(if f.must=true then cB [33] else ByteArray.empty)):=hid rfl
 have hd1:=decQ_size f.size hs
 have hd2:=decQ_size f.cap hc
 have C1:=hid (CF.out f.size hs)
 have C2:=hid (CF.out f.cap hc)
 obtain ⟨nm,tp,ls,mu,sz,cp⟩:=f
 simp only[FieldP.cells] at hT hTT hd1 hd2 C1 C2 hn ht hsz ⊢
 generalize fwordT ⟨nm,tp,ls,mu,sz,cp⟩=fw at *
 generalize tailT ⟨nm,tp,ls,mu,sz,cp⟩=tt at *
 obtain ⟨ds,hds⟩:∃ d,decB sz=d:=⟨_,rfl⟩
 obtain ⟨dc,hdc⟩:∃ d,decB cp=d:=⟨_,rfl⟩
 rw[hds] at hTT hd1 C1
 rw[hdc] at hTT hd2 C2
 clear hds hdc CF hp hs hc
 rcases hsz with ⟨rfl,rfl,rfl⟩|⟨rfl,rfl,h3,h4⟩|⟨rfl,rfl,h3,h4⟩
 ·cases mu
  ·have hf:Hid ((nm++⟨#[58]⟩)++tp=fw):=hid (by rw[hT.out,hTT.out];simp)
   go_enter Tryz.func204,Tryz.ntmps204
   go_wp2_with fail
   go_ret
   exact⟨ret_string hf.out,HA.out _⟩
  ·have hf:Hid (((nm++⟨#[58]⟩)++tp)++⟨#[33]⟩=fw):=hid (by rw[hT.out,hTT.out];simp[cB])
   go_enter Tryz.func204,Tryz.ntmps204
   go_wp2_with fail
   go_ret
   exact⟨ret_string hf.out,HA.out _⟩
 ·cases mu
  ·have hf:Hid (((nm++⟨#[58]⟩)++tp)++((⟨#[91]⟩++ds)++⟨#[93]⟩)=fw):=hid (by rw[hT.out,hTT.out];simp[cB])
   go_enter Tryz.func204,Tryz.ntmps204
   go_wp2_with fail
   refine(C1.out _ (HA.out _)).mono ?_
   rintro e w1 ⟨rfl,hb1⟩
   have HB1:=hid ((HA.out _).trans (hb1.mono (HA.out _).size))
   have k1:=(keep6 ((hb1.block w.heap.size (by simp)).trans (heap_alloc_new w _))).1
   obtain ⟨k0,k1,k2,k3,k4,k5⟩:=k1
   clear hb1
   go_wp2_with fail
   go_ret
   exact⟨ret_string hf.out,HB1.out⟩
  ·have hf:Hid ((((nm++⟨#[58]⟩)++tp)++((⟨#[91]⟩++ds)++⟨#[93]⟩))++⟨#[33]⟩=fw):=hid (by rw[hT.out,hTT.out];simp[cB,ByteArray.append_assoc])
   go_enter Tryz.func204,Tryz.ntmps204
   go_wp2_with fail
   refine(C1.out _ (HA.out _)).mono ?_
   rintro e w1 ⟨rfl,hb1⟩
   have HB1:=hid ((HA.out _).trans (hb1.mono (HA.out _).size))
   have k1:=(keep6 ((hb1.block w.heap.size (by simp)).trans (heap_alloc_new w _))).1
   obtain ⟨k0,k1,k2,k3,k4,k5⟩:=k1
   clear hb1
   go_wp2_with fail
   go_ret
   exact⟨ret_string hf.out,HB1.out⟩
 ·have hcp:(0:Int)<cp:=by omega
  have hcz:¬ cp=0:=by omega
  cases mu
  ·have hf:Hid (((nm++⟨#[58]⟩)++tp)++((⟨#[91,60]⟩++dc)++⟨#[93]⟩)=fw):=hid (by rw[hT.out,hTT.out];simp[cB,hcp,hcz])
   go_enter Tryz.func204,Tryz.ntmps204
   go_wp2_with fail
   refine(C2.out _ (HA.out _)).mono ?_
   rintro e w1 ⟨rfl,hb1⟩
   have HB1:=hid ((HA.out _).trans (hb1.mono (HA.out _).size))
   have k1:=(keep6 ((hb1.block w.heap.size (by simp)).trans (heap_alloc_new w _))).1
   obtain ⟨k0,k1,k2,k3,k4,k5⟩:=k1
   clear hb1
   go_wp2_with fail
   go_ret
   exact⟨ret_string hf.out,HB1.out⟩
  ·have hf:Hid ((((nm++⟨#[58]⟩)++tp)++((⟨#[91,60]⟩++dc)++⟨#[93]⟩))++⟨#[33]⟩=fw):=hid (by rw[hT.out,hTT.out];simp[cB,hcp,hcz,ByteArray.append_assoc])
   go_enter Tryz.func204,Tryz.ntmps204
   go_wp2_with fail
   refine(C2.out _ (HA.out _)).mono ?_
   rintro e w1 ⟨rfl,hb1⟩
   have HB1:=hid ((HA.out _).trans (hb1.mono (HA.out _).size))
   have k1:=(keep6 ((hb1.block w.heap.size (by simp)).trans (heap_alloc_new w _))).1
   obtain ⟨k0,k1,k2,k3,k4,k5⟩:=k1
   clear hb1
   go_wp2_with fail
   go_ret
   exact⟨ret_string hf.out,HB1.out⟩
theorem texts_of_block{w:World}{b:Nat}{L:List ByteArray}(hb:w.heap[b]?=some (.cells (L.map Value.string).toArray 9 (0,0)))(hok:∀ x∈L,OkS x)(hL:L.length≤1048576):TextsAt w 0 w.heap.size (some ⟨b,0,none⟩) L.length L:=by
 refine⟨rfl,by omega,.inr ⟨b,0,rfl,Nat.zero_le _,lt_of_get hb,fun i x hi=>⟨hok x (List.mem_iff_getElem?.2 ⟨i,hi⟩),?_⟩⟩⟩
 rw[Nat.zero_add,Nat.mul_one]
 exact cell_of hb (by simp[hi])
theorem OwnTs.built{w:World}{base b:Nat}{L:List ByteArray}(hb:w.heap[b]?=some (.cells (L.map Value.string).toArray 9 (0,0)))(hbase:base≤b)(hL:L.length≤1048576):OwnTs w base (.slice (some ⟨b,0,none⟩) L.length L.length) L :=
 ⟨by simp,.inr ⟨b,L.length,_,rfl,hbase,hb,Nat.le_refl _,by unfold maxLen;omega,by simp,by simp[List.take_of_length_le]⟩⟩
def WordsOut(w':World)(L:List ByteArray)(e:Ending):Prop:=∃ a cap,e=.returned (.slice a L.length cap)∧L.length≤cap∧TextsAt w' 0 w'.heap.size a L.length L
def lwords(x:TypeP):List ByteArray:=ubR (kw x.kind)::x.name::((if x.kind=1 then [decB x.bytes] else [])++(x.fields.map fwordT++x.members))
set_option maxHeartbeats 4000000 in
theorem wordsM1(w:World)(x:TypeP)(a:Option Addr)(ca:Nat)(c:Option Addr)(cc:Nat)(hk:x.ok)(h1:x.kind=1)(h2:x.fields=[])(h3:x.members=[])(B:Nat)(hp:Decs.Pow B w)(hB:B≤w.heap.size) :
  Calls Tryz.prog 196 #[.agg (x.cells a ca c cc).toArray] w fun e w'=>WordsOut w' (lwords x) e∧Below w.heap.size w w':=by
 have HA:Hid (∀ o,Below w.heap.size w (w.alloc o)):=hid fun o=>(Below.refl _ _).alloc (Nat.le_refl _) o
 obtain ⟨hn,_,hby⟩:=hk
 have C1:Hid (∀ o,Calls Tryz.prog 105 #[.int .i64 x.bytes,.int .i64 10] (w.alloc o).drew fun e w'=>e=.returned (.string (decB x.bytes))∧Below (w.alloc o).drew.heap.size (w.alloc o).drew w'):=hid fun o=>fmtInt x.bytes hby.1 hby.2 B _ (hp.over hB (HA.out o).drew)
 have hds:=decQ_size x.bytes hby
 have HLW:Hid (lwords x=[⟨#[108,101,97,102]⟩,x.name,decB x.bytes]):=hid (by unfold lwords;rw[h1,h2,h3];rfl)
 rw[HLW.out]
 obtain ⟨nm,kd,by_,fs,ms⟩:=x
 simp only at h1 h2 h3 C1 hds hn
 subst h1 h2 h3
 simp only[TypeP.cells,List.length_nil] at C1 ⊢
 generalize decB by_=db at *
 have hk0:(w.alloc (.cells #[.string nm,.int .i64 1,.int .i64 by_,.slice a 0 ca,.slice c 0 cc] 160)).drew.heap[w.heap.size]?=some (.cells #[.string nm,.int .i64 1,.int .i64 by_,.slice a 0 ca,.slice c 0 cc] 160 (0,0)):=heap_alloc_new w _
 have ⟨⟨y0,y1,y2,y3,y4⟩,_⟩:=keep5 hk0
 have HK0:=hid hk0
 clear hk0 hp HLW
 go_enter Tryz.func196,Tryz.ntmps196
 go_wp2_with fail
 go_region_with (go_at_call 105;refine(C1.out _).mono ?_;rintro e w1 ⟨rfl,hb1⟩;have hkk:=(hb1.block w.heap.size (lt_of_get HK0.out)).trans HK0.out;have ⟨⟨z0,z1,z2,z3,z4⟩,_⟩:=keep5 hkk)
 all_goals
  have HB1:=hid ((HA.out _).drew.trans (hb1.mono (HA.out _).size))
  have HN:=heap_alloc_new w1 (.cells #[.string ⟨#[108,101,97,102]⟩,.string nm,.string db] 9)
  have HT:=hid (texts_of_block (L:=[⟨#[108,101,97,102]⟩,nm,db]) HN (fun x hx=>by
   simp only[List.mem_cons,List.not_mem_nil,or_false] at hx
   rcases hx with rfl|rfl|rfl
   ·unfold OkS;decide
   ·exact hn
   ·unfold OkS;omega) (by simp))
  have HB2:=hid (HB1.out.alloc HB1.out.size (.cells #[.string ⟨#[108,101,97,102]⟩,.string nm,.string db] 9))
  clear hb1 hkk HN
  go_wp2_with fail
  go_ret
  exact⟨⟨_,_,rfl,Nat.le_refl _,HT.out⟩,HB2.out⟩
set_option maxHeartbeats 4000000 in
theorem wordsM3(w:World)(A B:Nat)(x:TypeP)(a:Option Addr)(ca:Nat)(c:Option Addr)(cc:Nat)(hx:TypeAt w A B (.agg (x.cells a ca c cc).toArray) x)(hB:B≤w.heap.size)(h1:x.kind=3)(h2:x.fields=[])(hm:∀ m∈x.members,OkS m)(hml:x.members.length≤5) :
  Calls Tryz.prog 212 #[.agg (x.cells a ca c cc).toArray] w fun e w'=>WordsOut w' (lwords x) e∧Below w.heap.size w w':=by
 have HA:Hid (∀ o,Below w.heap.size w (w.alloc o)):=hid fun o=>(Below.refl _ _).alloc (Nat.le_refl _) o
 have HLW:Hid (lwords x=[⟨#[111,110,101]⟩,x.name]++x.members):=hid (by unfold lwords;rw[h1,h2];rfl)
 rw[HLW.out]
 obtain ⟨a',ca',c',cc',hve,hk,⟨hf,hca⟩,htx,hcc⟩:=hx
 obtain ⟨hn,_⟩:=hk
 obtain ⟨nm,kd,by_,fs,ms⟩:=x
 simp only at h1 h2 hn hml hm
 subst h1 h2
 simp[TypeP.cells] at hve
 obtain ⟨⟨rfl,rfl⟩,rfl,rfl⟩:=hve
 simp only[TypeP.cells,List.length_nil] at htx hcc ⊢
 have HT:=hid htx
 have HM:=hid hm
 clear hf htx hm HLW
 have hz0:w.heap.size+1=(w.alloc (.cells #[.string nm,.int .i64 3,.int .i64 by_,.slice a 0 ca,.slice c ms.length cc] 162)).heap.size:=by simp
 have HN0:Hid (((w.alloc (.cells #[.string nm,.int .i64 3,.int .i64 by_,.slice a 0 ca,.slice c ms.length cc] 162)).alloc (.cells #[.string ⟨#[111,110,101]⟩,.string nm] 9)).heap[w.heap.size+1]?=some (.cells #[.string ⟨#[111,110,101]⟩,.string nm] 9 (0,0))):=hid (by rw[hz0];exact heap_alloc_new _ _)
 have HO:Hid (OwnTs ((w.alloc (.cells #[.string nm,.int .i64 3,.int .i64 by_,.slice a 0 ca,.slice c ms.length cc] 162)).alloc (.cells #[.string ⟨#[111,110,101]⟩,.string nm] 9)) (w.heap.size+1) (.slice (some ⟨w.heap.size+1,0,none⟩) 2 2) [⟨#[111,110,101]⟩,nm]):=hid (OwnTs.built (L:=[⟨#[111,110,101]⟩,nm]) HN0.out (Nat.le_refl _) (by simp))
 have HX:Hid (Below w.heap.size w ((w.alloc (.cells #[.string nm,.int .i64 3,.int .i64 by_,.slice a 0 ca,.slice c ms.length cc] 162)).alloc (.cells #[.string ⟨#[111,110,101]⟩,.string nm] 9))):=hid ((HA.out _).alloc (by simp) _)
 have HT2:Hid (TextsAt ((w.alloc (.cells #[.string nm,.int .i64 3,.int .i64 by_,.slice a 0 ca,.slice c ms.length cc] 162)).alloc (.cells #[.string ⟨#[111,110,101]⟩,.string nm] 9)) A B c ms.length ms):=hid (HT.out.below textLies hB HX.out)
 clear hz0
 go_enter Tryz.func212,Tryz.ntmps212
 go_wp2_with (at_builtin;refine app_texts rfl _ _ rfl (w.heap.size+1) _ [⟨#[111,110,101]⟩,nm] rfl HO.out A B c _ _ ms rfl HT2.out (by simp;omega) (by simp) ?_;intro a9 c9 w9 hown9 hb9)
 have HB9:=hid (HX.out.trans (hb9.mono (by omega)))
 have hbase:w.heap.size+1≤w9.heap.size:=Nat.le_trans (by simp) hb9.size
 obtain ⟨a8,c8,he,hc8,hx8⟩:=OwnTs.textsX hown9 (fun x hx=>by
  simp only[List.cons_append,List.nil_append,List.mem_cons] at hx
  rcases hx with rfl|rfl|hx
  ·unfold OkS;decide
  ·exact hn
  ·exact HM.out x hx) (by simp;omega) hbase
 have HX8:=hid (RowsX.at_ textLies (fun h=>h) hx8)
 have HC8:=hid hc8
 have HE8:=hid he
 clear hown9 hb9 hx8 hc8 he
 simp only[List.length_cons,List.length_nil] at HE8 HC8 HX8
 go_wp2_with fail
 go_ret
 exact⟨⟨a8,c8,by first | rw[←HE8.out] | (have:=HE8.out;simp at this ⊢;omega),by have:=HC8.out;simp at this ⊢;omega,by have:=HX8.out;simpa using RowsAt.wide textLies this (Nat.zero_le _) (Nat.le_refl _)⟩,HB9.out⟩
set_option maxHeartbeats 4000000 in
theorem wordsM2(w:World)(A B:Nat)(s:List TypeP)(x:TypeP)(a:Option Addr)(ca:Nat)(c:Option Addr)(cc:Nat)(hx:TypeAt w A B (.agg (x.cells a ca c cc).toArray) x)(hB:B≤w.heap.size)(h1:x.kind=2)(h3:x.members=[])(hL:LineOk s x)(C:Nat)(hp:Decs.Pow C w)(hC:C≤w.heap.size) :
  Calls Tryz.prog 201 #[.agg (x.cells a ca c cc).toArray] w fun e w'=>WordsOut w' (lwords x) e∧Below w.heap.size w w':=by
 have HA:Hid (∀ o,Below w.heap.size w (w.alloc o)):=hid fun o=>(Below.refl _ _).alloc (Nat.le_refl _) o
 have HLW:Hid (lwords x=[⟨#[111,98,106]⟩,x.name]++x.fields.map fwordT):=hid (by unfold lwords;rw[h1,h3];simp[ubR,kw,objW])
 rw[HLW.out]
 obtain ⟨a',ca',c',cc',hve,hk,⟨hf,hca⟩,htx,hcc⟩:=hx
 obtain ⟨hn,_⟩:=hk
 have heach:=hL.each
 have hfew:=hL.few
 obtain ⟨nm,kd,by_,fs,ms⟩:=x
 simp only at h1 h3 hn heach hfew
 subst h1 h3
 simp[TypeP.cells] at hve
 obtain ⟨⟨rfl,rfl⟩,rfl,rfl⟩:=hve
 simp only[TypeP.cells,List.length_nil] at hf hca ⊢
 have HF:=hid hf
 have HEACH:=hid heach
 have HP:=hid hp
 have HFW:Hid (∀ f∈fs,(fwordT f).size≤24):=hid fun f hf=>by
  have h:=heach f hf
  have h1:=(word_small h.word).2
  have h2:=(type_small h.typ).2
  have h3:=tail_size h.sized
  unfold fwordT
  simp[cB_size,ByteArray.size_append];omega
 clear hf htx hp heach HLW
 have hz0:w.heap.size+1=(w.alloc (.cells #[.string nm,.int .i64 2,.int .i64 by_,.slice a fs.length ca,.slice c 0 cc] 161)).heap.size:=by simp
 have HN0:Hid (((w.alloc (.cells #[.string nm,.int .i64 2,.int .i64 by_,.slice a fs.length ca,.slice c 0 cc] 161)).alloc (.cells #[.string ⟨#[111,98,106]⟩,.string nm] 9)).heap[w.heap.size+1]?=some (.cells #[.string ⟨#[111,98,106]⟩,.string nm] 9 (0,0))):=hid (by rw[hz0];exact heap_alloc_new _ _)
 have HO:Hid (OwnTs ((w.alloc (.cells #[.string nm,.int .i64 2,.int .i64 by_,.slice a fs.length ca,.slice c 0 cc] 161)).alloc (.cells #[.string ⟨#[111,98,106]⟩,.string nm] 9)) (w.heap.size+1) (.slice (some ⟨w.heap.size+1,0,none⟩) 2 2) ([⟨#[111,98,106]⟩,nm]++(fs.take 0).map fwordT)):=hid (OwnTs.built (L:=[⟨#[111,98,106]⟩,nm]) HN0.out (Nat.le_refl _) (by simp))
 have HX:Hid (Below w.heap.size w ((w.alloc (.cells #[.string nm,.int .i64 2,.int .i64 by_,.slice a fs.length ca,.slice c 0 cc] 161)).alloc (.cells #[.string ⟨#[111,98,106]⟩,.string nm] 9))):=hid ((HA.out _).alloc (by simp) _)
 have HK0:Hid (((w.alloc (.cells #[.string nm,.int .i64 2,.int .i64 by_,.slice a fs.length ca,.slice c 0 cc] 161)).alloc (.cells #[.string ⟨#[111,98,106]⟩,.string nm] 9)).heap[w.heap.size]?=some (.cells #[.string nm,.int .i64 2,.int .i64 by_,.slice a fs.length ca,.slice c 0 cc] 161 (0,0))):=hid (by rw[Go.Deep.blk_alloc_lt _ _ _ (by simp)];exact heap_alloc_new w _)
 clear hz0
 have ⟨⟨y0,y1,y2,y3,y4⟩,_⟩:=keep5 HK0.out
 go_enter Tryz.func201,Tryz.ntmps201
 go_wp2_with fail
 go_loopw [3,12] (fun v i wr=>∃ (i':Nat) (av:Option Addr) (n cap:Nat),i'≤fs.length∧i=.int .i64 i'∧v=.slice av n cap∧Hid (n=2+i')∧Hid (OwnTs wr (w.heap.size+1) (.slice av n cap) ([⟨#[111,98,106]⟩,nm]++(fs.take i').map fwordT))∧w.heap.size+1≤wr.heap.size∧Below w.heap.size w wr) (fun _ i _=>fs.length - (intOf i).toNat)
 case atStart=>exact⟨0,_,2,2,by omega,rfl,rfl,hid rfl,HO,by simp,HX.out⟩
 case round =>
  obtain ⟨i,av,n,cap,hi,rfl,rfl,HN2,HOr,hzr,hb⟩:=hrel
  have hn10:n≤10:=by have:=HN2.out;omega
  have HB:=hid hb
  clear y0 y1 y2 y3 y4
  by_cases hlt:i<fs.length
  ·have hli:(i:Int)<(fs.length:Int):=by omega
   obtain ⟨f,b,off,hd,rfl,hAb,hbb,hok,hc⟩:=(HF.out.below fieldLies hB hb).at hlt
   obtain ⟨c0,c1,c2,c3,c4,c5⟩:=row6 hc
   have HD:=hid hd
   have hmem:=List.mem_iff_getElem?.2 ⟨i,hd⟩
   have HBA:Hid (∀ o,Below w.heap.size w (wr.alloc o)):=hid fun o=>HB.out.alloc HB.out.size o
   have CT:Hid (∀ o,Calls Tryz.prog 204 #[.agg f.cells.toArray] (wr.alloc o) fun e w'=>e=.returned (.string (fwordT f))∧Below (wr.alloc o).heap.size (wr.alloc o) w'):=hid fun o=>implFieldText _ s f (HEACH.out f hmem) hok C (HP.out.over hC (HBA.out o)) (Nat.le_trans hC (HBA.out o).size)
   have hfw:=HFW.out f hmem
   have hfc:=hid (show f.cells=[.string f.name,.string f.typ,.bool f.list,.bool f.must,.int .i64 f.size,.int .i64 f.cap] from rfl)
   simp only[FieldP.cells] at CT
   have HLn:Hid (([⟨#[111,98,106]⟩,nm]++(fs.take i).map fwordT).length=n):=hid (by have:=HN2.out;simp;omega)
   obtain ⟨R,hR⟩:∃ R,[⟨#[111,98,106]⟩,nm]++(fs.take i).map fwordT=R:=⟨_,rfl⟩
   have HR:=hid hR
   rw[hR] at HLn HOr
   have hRl:R.length=n:=HLn.out
   obtain ⟨ft,hft⟩:∃ x,fwordT f=x:=⟨_,rfl⟩
   have HFT:=hid hft
   rw[hft] at CT hfw
   have HOa:Hid (∀ o,OwnTs (wr.alloc o) (w.heap.size+1) (.slice av n cap) R):=hid fun o=>HOr.out.below ((Below.refl _ _).alloc (Nat.le_refl _) o)
   clear hd hok hlt hb hmem hR hft hc
   go_wp2_with fail
   refine(CT.out _).mono ?_
   rintro e w2 ⟨rfl,hb2⟩
   have HB2:=hid ((HBA.out _).trans (hb2.mono (HBA.out _).size))
   have HO2:Hid (OwnTs (w2.alloc (.cells #[.string ft] 9)) (w.heap.size+1) (.slice av n cap) R):=hid (((HOa.out _).below hb2).below ((Below.refl _ _).alloc (Nat.le_refl _) _))
   have hz2:w.heap.size+1≤(w2.alloc (.cells #[.string ft] 9)).heap.size:=by have:=hb2.size;simp at this ⊢;omega
   have HB3:=hid (HB2.out.alloc HB2.out.size (.cells #[.string ft] 9))
   have ⟨q0,_⟩:=keep1 (heap_alloc_new w2 (.cells #[.string ft] 9))
   clear hb2
   go_wp2_with (at_builtin;go_must (refine app_text rfl _ _ rfl (w.heap.size+1) (.slice av n cap) R rfl HO2.out w2.heap.size 1 rfl ft q0 (by omega) hz2 ?_);rw[hRl];intro a3 cap3 w3 hown3 hb3)
   have HO3:Hid (OwnTs w3 (w.heap.size+1) (.slice a3 (n+1) cap3) ([⟨#[111,98,106]⟩,nm]++(fs.take (i+1)).map fwordT)):=hid (by
    rw[List.take_add_one,HD.out,List.map_append,←List.append_assoc,HR.out]
    simp only[Option.toList_some,List.map_cons,List.map_nil,HFT.out]
    exact hown3)
   have HB4:=hid (HB3.out.trans (hb3.mono (by omega)))
   have hz3:=Nat.le_trans hz2 hb3.size
   clear hown3 hb3
   go_roundw
   case rel=>exact⟨i+1,a3,n+1,cap3,by omega,by go_num,rfl,hid (by have:=HN2.out;omega),HO3,hz3,HB4.out⟩
   case measure=>simp[intOf];omega
  ·obtain rfl:i=fs.length:=by omega
   have hx:=HOr.out
   rw[List.take_length] at hx
   have hRl:([⟨#[111,98,106]⟩,nm]++fs.map fwordT).length=n:=by have:=HN2.out;simp;omega
   obtain ⟨a8,c8,he,hc8,hx8⟩:=OwnTs.textsX hx (fun x hx=>by
    simp only[List.cons_append,List.nil_append,List.mem_cons] at hx
    rcases hx with rfl|rfl|hx
    ·unfold OkS;decide
    ·exact hn
    ·obtain ⟨f,hf,rfl⟩:=List.mem_map.1 hx
     have:=HFW.out f hf
     unfold OkS;omega) (by omega) hzr
   obtain ⟨rfl,rfl⟩:av=a8∧cap=c8:=by cases he;exact⟨rfl,rfl⟩
   have HX8:=hid (RowsX.at_ textLies (fun h=>h) hx8)
   have HC8:=hid hc8
   have HRL:=hid hRl
   clear hlt hb hx he hc8 hx8 hRl
   go_wp2_with fail
   go_ret
   exact⟨⟨av,cap,(by have h:=HRL.out;simp only[List.cons_append,List.nil_append] at h;rw[h];rfl),HC8.out,RowsAt.wide textLies HX8.out (Nat.zero_le _) (Nat.le_refl _)⟩,HB.out⟩
theorem joinC(w:World)(e:Ending)(L:List ByteArray)(a:Option Addr)(cap:Nat)(h:TextsAt w 0 w.heap.size a L.length L)(hcap:L.length≤cap)(hne:L≠[])(hl:L.length≤1000000)(hlen:(Lib.join (L.map bL) [32]).length≤140737488355328) :
  Calls Tryz.prog 32 #[.slice a L.length cap,.string ⟨#[32]⟩] w fun e w'=>e=.returned (.string (ubR (Lib.join (L.map bL) [32])))∧Below w.heap.size w w':=by
 rcases h.2.2 with h0|⟨b,off,rfl,_,hb,hc⟩
 ·exact absurd h0 hne
 have key:=Tryz.strings_Join b off cap L ⟨#[32]⟩ w (fun j x hj=>by
   have:=(hc j x hj).2
   rwa [Nat.mul_one] at this) hb (by omega) hcap hlen
 exact key
theorem lwords_join{s:List TypeP}{x:TypeP}(hL:LineOk s x):Lib.join ((lwords x).map bL) [32]=kw x.kind++blanks (restT x):=by
 have h1:(lwords x).map bL=kw x.kind::restT x:=by
  unfold lwords restT
  simp only[List.map_cons,List.map_append,List.map_map]
  rw[show bL (ubR (kw x.kind))=kw x.kind from bL_ub _]
  congr 2
  ·congr 1
   ·split <;> rfl
   ·congr 1
    exact List.map_congr_left fun f _=>fword_bL f
 rw[h1]
 rw[Lib.join_cons]
 congr 1
theorem lwords_len(x:TypeP):(lwords x).length≤x.fields.length+x.members.length+3:=by
 unfold lwords
 simp only[List.length_cons,List.length_append,List.length_map]
 split <;> simp <;> omega
end Go.Proofs.YtmembhpoidcmlaaGreatDoor.Rw
namespace Go.Proofs.YtmembhpoidcmlaaGreatDoor.Rw
open Lib (hid)
open Go.RowKit Words Decs Splits Go.Maps
set_option linter.unusedVariables false
set_option maxRecDepth 100000
theorem mWords1 (v : Value) (W : World) : (method 371 160 v "loop.example/g00836/impl.words").run Tryz.prog W = .ok (196, v) W := by kernel_rfl
theorem mWords2 (v : Value) (W : World) : (method 371 161 v "loop.example/g00836/impl.words").run Tryz.prog W = .ok (201, v) W := by kernel_rfl
theorem mWords3 (v : Value) (W : World) : (method 371 162 v "loop.example/g00836/impl.words").run Tryz.prog W = .ok (212, v) W := by kernel_rfl
theorem line_cB(x:TypeP):lineT x=ubR (kw x.kind++blanks (restT x))++⟨#[10]⟩:=bL_inj (by rw[line_blanks,bL_append,bL_ub];rfl)
theorem type_there{s:List TypeP}(h:schemaB s=true){i:Nat}{x:TypeP}(hx:s[i]?=some x):freshB x.name s=false∧typeIn x.name s=x:=by
 have hf:=((schemaB_parts h).2.2 i x hx).2
 refine⟨?_,typeIn_fresh hx hf⟩
 cases hfr:freshB x.name s with
 | false=>rfl
 | true =>
  have e:=typeIn_fresh hx hf
  rw[typeIn_zero hfr] at e
  have hk:=partB_kind ((schemaB_parts h).2.2 i x hx).1.2
  rw[←e] at hk
  cases hk
set_option maxHeartbeats 8000000 in
theorem implSchemaText(w:World)(B:Nat)(v:Value)(s:List TypeP)(hv:SchemaAt w 0 B v s)(hB:B≤w.heap.size)(C:Nat)(hp:Decs.Pow C w)(hC:C≤w.heap.size) :
  Calls Tryz.prog 10 #[v] w fun e w'=>e=.returned (.string (schT s))∧Below w.heap.size w w':=by
 have CK:=hid (fun o=>implKindsOf (w.alloc o) 0 B v s (hv.below (C:=w.heap.size) hB ((Below.refl _ _).alloc (Nat.le_refl _) o)) (Nat.le_trans hB (by simp)))
 have HA:Hid (∀ o,Below w.heap.size w (w.alloc o)):=hid fun o=>(Below.refl _ _).alloc (Nat.le_refl _) o
 have HP:=hid hp
 obtain ⟨a,ca,rfl,hd,_⟩:=hv
 have HS:=hid hd
 have hlen:=hd.2.1
 have hf0:=hid (show schT s=if schemaB s=true then linesT s else ByteArray.empty from rfl)
 have HSL:Hid (schemaB s=true→s.length≤12∧∀ (i:Nat) (x:TypeP),s[i]?=some x→LineOk s x∧partB s x=true∧freshB x.name s=false∧typeIn x.name s=x):=hid fun h=>⟨(schemaB_parts h).1.2,fun i x hx=>⟨line_ok h hx,((schemaB_parts h).2.2 i x hx).1.2,type_there h hx⟩⟩
 generalize schT s=ST at *
 clear hd hp
 go_enter Tryz.func10,Tryz.ntmps10
 go_wp2_with fail
 refine(CK.out _).mono ?_
 rintro e w1 ⟨ho,hb1⟩
 have HB1:=hid ((HA.out _).trans (hb1.mono (HA.out _).size))
 have hk1:=(hb1.block w.heap.size (by simp)).trans (heap_alloc_new w _)
 have ⟨k0,_⟩:=keep1 hk1
 clear hb1 hk1
 rcases ho with ⟨hk,b,n,D,rfl,hD,hO⟩|⟨hk,rfl⟩
 ·rw[kindsB_eq] at hk
  have HFY:Hid (ST=linesT s):=hid (by rw[hf0.out,if_pos hk])
  have HOK:=hid (HSL.out hk)
  have h12:=HOK.out.1
  have hbl:=hO.lt
  have HD:=hid hD
  have HO:=hid hO
  clear hk hD hO
  go_wp2_with fail
  go_loopw [5,18] (fun v i wr=>∃ (i':Nat) (acc:ByteArray),i'≤s.length∧v=.string acc∧i=.int .i64 i'∧Hid (acc++linesT (s.drop i')=ST)∧acc.size≤280 * i'∧Hid (Below w1.heap.size w1 wr)∧Below w.heap.size w wr) (fun _ i _=>s.length - (intOf i).toNat)
  case atStart=>exact⟨0,⟨#[]⟩,by omega,rfl,rfl,hid (by rw[HFY.out,List.drop_zero];show ByteArray.empty++linesT s=linesT s;simp),Nat.le_refl 0,hid (Below.refl _ _),HB1.out⟩
  case round =>
   obtain ⟨i,acc,hi,rfl,rfl,hT,hls,HW,hb⟩:=hrel
   have HB:=hid hb
   clear k0
   by_cases hlt:i<s.length
   ·have hli:(i:Int)<(s.length:Int):=by omega
    obtain ⟨x,tb,off,hd,rfl,hAb,hbb,hok,a1,ca1,cm,ccm,hc,h2,h3⟩:=(HS.out.below typeLies hB hb).at hlt
    obtain ⟨d0,d1,d2,d3,d4⟩:=row5 hc
    obtain ⟨hlo,hpt,hfr,hti⟩:=HOK.out.2 i x hd
    have hst:=hid (linesT_drop hd)
    have hsz:=line_size hlo
    have HLB:=hid (line_cB x)
    have HBA:Hid (∀ o,Below w.heap.size w (wr.alloc o)):=hid fun o=>HB.out.alloc HB.out.size o
    have HWA:Hid (∀ o,Below w1.heap.size w1 (wr.alloc o)):=hid fun o=>HW.out.alloc HW.out.size o
    obtain ⟨lv,hrun,_,hk2⟩:=(HD.out.below (Nat.le_trans hB HB1.out.size) (HWA.out (.cells #[.string x.name,.int .i64 x.kind,.int .i64 x.bytes,.slice a1 x.fields.length ca1,.slice cm x.members.length ccm] 77))).look (World.ownsMap.same HO.out ((HWA.out (.cells #[.string x.name,.int .i64 x.kind,.int .i64 x.bytes,.slice a1 x.fields.length ca1,.slice cm x.members.length ccm] 77)).block b hbl)) x.name hok.1
    have hkv:=hk2 hfr
    rw[hti] at hkv
    obtain ⟨hk3,ka,kca,kc,kcc,rfl,hkt⟩:=hkv
    have HKT:=hid hkt
    have hjl:=lwords_join hlo
    have hjn:=lwords_len x
    have hfew:=hlo.few
    have hfewM:=hlo.fewM
    have hsz2:(ubR (kw x.kind++blanks (restT x))).size≤279:=by have:=congrArg ByteArray.size HLB.out;rw[ByteArray.size_append] at this;have e1:(⟨#[10]⟩:ByteArray).size=1:=rfl;omega
    have CJ:Hid (∀ (w':World) (a':Option Addr) (cap':Nat),TextsAt w' 0 w'.heap.size a' (lwords x).length (lwords x)→(lwords x).length≤cap'→Calls Tryz.prog 32 #[.slice a' (lwords x).length cap',.string ⟨#[32]⟩] w' fun e w''=>e=.returned (.string (ubR (kw x.kind++blanks (restT x))))∧Below w'.heap.size w' w''):=hid fun w' a' cap' h1 h2=>by
     have:=joinC w' (.returned .nilIface) (lwords x) a' cap' h1 h2 (by unfold lwords;simp) (by omega) (by rw[hjl];rw[ubR_size] at hsz2;omega)
     rw[hjl] at this;exact this
    have CR:Hid ((x.kind=1→∀ w',w'=wr.alloc (.cells #[.string x.name,.int .i64 x.kind,.int .i64 x.bytes,.slice a1 x.fields.length ca1,.slice cm x.members.length ccm] 77)→Calls Tryz.prog 196 #[.agg (x.cells ka kca kc kcc).toArray] w' fun e w''=>WordsOut w'' (lwords x) e∧Below w'.heap.size w' w'') ∧
      (x.kind=2→∀ w',w'=wr.alloc (.cells #[.string x.name,.int .i64 x.kind,.int .i64 x.bytes,.slice a1 x.fields.length ca1,.slice cm x.members.length ccm] 77)→Calls Tryz.prog 201 #[.agg (x.cells ka kca kc kcc).toArray] w' fun e w''=>WordsOut w'' (lwords x) e∧Below w'.heap.size w' w'') ∧
      (x.kind=3→∀ w',w'=wr.alloc (.cells #[.string x.name,.int .i64 x.kind,.int .i64 x.bytes,.slice a1 x.fields.length ca1,.slice cm x.members.length ccm] 77)→Calls Tryz.prog 212 #[.agg (x.cells ka kca kc kcc).toArray] w' fun e w''=>WordsOut w'' (lwords x) e∧Below w'.heap.size w' w'')):=hid (by
     have hpw:=HP.out.over hC (HBA.out (.cells #[.string x.name,.int .i64 x.kind,.int .i64 x.bytes,.slice a1 x.fields.length ca1,.slice cm x.members.length ccm] 77))
     have hbs:=(HBA.out (.cells #[.string x.name,.int .i64 x.kind,.int .i64 x.bytes,.slice a1 x.fields.length ca1,.slice cm x.members.length ccm] 77)).size
     refine⟨fun h w' e=>?_,fun h w' e=>?_,fun h w' e=>?_⟩
     ·subst e;exact wordsM1 _ x ka kca kc kcc hok h (part_fields hpt (by omega)) (part_members hpt (by omega)) C hpw (Nat.le_trans hC hbs)
     ·subst e;exact wordsM2 _ 0 B s x ka kca kc kcc hkt (Nat.le_trans hB hbs) h (part_members hpt (by omega)) hlo C hpw (Nat.le_trans hC hbs)
     ·subst e;exact wordsM3 _ 0 B x ka kca kc kcc hkt (Nat.le_trans hB hbs) h (part_fields hpt (by omega)) (fun m hm=>by have:=hlo.eachM m hm;unfold OkS;omega) hfewM)
    obtain ⟨LW,hLW⟩:∃ l,lwords x=l:=⟨_,rfl⟩
    rw[hLW] at CJ CR
    generalize hcells:Value.agg (x.cells ka kca kc kcc).toArray=yv at *
    obtain ⟨jn,hjn2⟩:∃ l,ubR (kw x.kind++blanks (restT x))=l:=⟨_,rfl⟩
    rw[hjn2] at CJ HLB hsz2
    have m1:=mWords1
    have m2:=mWords2
    have m3:=mWords3
    have hacc1:¬ (9223372036854775807:Nat)<jn.size+1:=by omega
    have hacc2:¬ (9223372036854775807:Nat)<acc.size+(jn.size+1):=by omega
    clear hLW hcells hjn2 hkt hk2 hd hb hok hc h2 h3 hlo hpt hfr hti hlt hjl hjn hfew hfewM HKT
    rcases hk3 with hk3|hk3|hk3
    case' inl =>
     rw[show kindT x.kind=160 by rw[hk3];rfl] at hrun
     have CW:=hid (CR.out.1 hk3 _ rfl)
     clear hk3
     go_wp2_with fail
     refine CW.out.mono ?_
    case' inr.inl =>
     rw[show kindT x.kind=161 by rw[hk3];rfl] at hrun
     have CW:=hid (CR.out.2.1 hk3 _ rfl)
     clear hk3
     go_wp2_with fail
     refine CW.out.mono ?_
    case' inr.inr =>
     rw[show kindT x.kind=162 by rw[hk3];rfl] at hrun
     have CW:=hid (CR.out.2.2 hk3 _ rfl)
     clear hk3
     go_wp2_with fail
     refine CW.out.mono ?_
    all_goals
     rintro e w2 ⟨⟨wa,wcap,rfl,hwc,hwt⟩,hb2⟩
     have HB2:=hid ((HBA.out _).trans (hb2.mono (HBA.out _).size))
     have HW2:=hid ((HWA.out _).trans (hb2.mono (HWA.out _).size))
     have CJ2:=hid (CJ.out w2 wa wcap hwt hwc)
     clear hb2 hwc hwt CR CW hrun
     go_wp2_with fail
     refine CJ2.out.mono ?_
     rintro e w3 ⟨rfl,hb3⟩
     have HB3:=hid (HB2.out.trans (hb3.mono HB2.out.size))
     have HW3:=hid (HW2.out.trans (hb3.mono HW2.out.size))
     clear hb3
     have hT3:Hid ((acc++(jn++⟨#[10]⟩))++linesT (s.drop (i+1))=ST):=hid (by rw[←hT.out,hst.out,HLB.out,ByteArray.append_assoc])
     go_wp2_with fail
     go_roundw
     case rel=>exact⟨i+1,acc++(jn++⟨#[10]⟩),by omega,rfl,by go_num,hT3,by rw[ByteArray.size_append,ByteArray.size_append];have e1:(⟨#[10]⟩:ByteArray).size=1:=rfl;omega,HW3,HB3.out⟩
     case measure=>simp[intOf];omega
   ·obtain rfl:i=s.length:=by omega
    have hfin:Hid (acc=ST):=hid (by
     have:=hT.out
     rw[List.drop_length] at this
     simpa [linesT] using this)
    clear hlt hb
    go_wp2_with fail
    go_ret
    exact⟨ret_s hfin.out,HB.out⟩
 ·rw[kindsB_eq] at hk
  have HFI:Hid ((⟨#[]⟩:ByteArray)=ST):=hid (by rw[hf0.out,hk];rfl)
  clear hk
  go_wp2_with fail
  go_ret
  exact⟨ret_s HFI.out,HB1.out⟩
end Go.Proofs.YtmembhpoidcmlaaGreatDoor.Rw
namespace Go.Proofs.YtmembhpoidcmlaaGreatDoor.Rw
open Lib (hid)
open Go.RowKit Go.Maps Words
set_option linter.unusedVariables false
set_option maxRecDepth 100000
set_option maxHeartbeats 4000000 in
theorem implSchemaRight'(w:World)(A B:Nat)(v:Value)(s:List TypeP)(hv:SchemaAt w A B v s)(hB:B≤w.heap.size) :
  Calls Tryz.prog 28 #[v] w fun e w'=>e=.returned (.bool (kindsB s))∧Below w.heap.size w w':=by
 have C:=hid (fun o=>implKindsOf (w.alloc o) A B v s (hv.below (C:=w.heap.size) hB ((Below.refl _ _).alloc (Nat.le_refl _) o)) (Nat.le_trans hB (by simp)))
 have HA:Hid (∀ o1,Below w.heap.size w (w.alloc o1)):=hid fun o1=>(Below.refl _ _).alloc (Nat.le_refl _) o1
 obtain ⟨a,ca,rfl,_,_⟩:=hv
 go_enter Tryz.func28,Tryz.ntmps28
 go_wp2_with fail
 refine(C.out _).mono ?_
 rintro e w1 ⟨ho,hb1⟩
 have HB1:=hid ((HA.out _).trans (hb1.mono (HA.out _).size))
 rcases ho with ⟨hk,b,n,D,rfl,_,_⟩|⟨hk,rfl⟩
 all_goals
  have HK:=hid hk
  clear hk hb1
  go_wp2_with fail
  go_ret
  exact⟨ret_bool HK.out.symm,HB1.out⟩
theorem implSchemaRight(w:World)(A B:Nat)(v:Value)(s:List TypeP)(hv:SchemaAt w A B v s)(hB:B≤w.heap.size) :
  Calls Tryz.prog 28 #[v] w fun e w'=>e=.returned (.bool (schemaB s))∧Below w.heap.size w w':=by
 rw[←kindsB_eq];exact implSchemaRight' w A B v s hv hB
end Go.Proofs.YtmembhpoidcmlaaGreatDoor.Rw
namespace Go.Proofs.YtmembhpoidcmlaaGreatDoor.Rw
open Lib (hid)
open Go.RowKit Words Decs Splits
set_option linter.unusedVariables false
set_option maxRecDepth 100000
theorem schT_ne{s:List TypeP}(h:schemaB s=true):(schT s).size≠0:=by
 have hl:=(schemaB_parts h).1.1
 have e:schT s=linesT s:=by unfold schT;rw[if_pos h]
 rw[e]
 cases s with
 | nil=>simp at hl
 | cons x l=>rw[linesT,line_cB,ByteArray.size_append,ByteArray.size_append];have e1:(⟨#[10]⟩:ByteArray).size=1:=rfl;omega
theorem schT_no{s:List TypeP}(h:schemaB s=false):(schT s).size=0:=by
 unfold schT;rw[h];rfl
theorem outS_yes{t:ByteArray}(ht:¬ 8000<t.size)(h:schemaB (schemaQ (bL t))=true)(h2:schT (schemaQ (bL t))=t):outS t=(schemaQ (bL t),0):=by
 have e1:=read_schema h
 rw[h2] at e1
 have e2:=schT_ne h
 rw[h2] at e2
 unfold outS
 rw[if_neg ht,e1,if_pos ⟨h2,e2⟩]
theorem outS_no{t:ByteArray}(ht:¬ 8000<t.size)(h:¬ (schemaB (schemaQ (bL t))=true∧schT (schemaQ (bL t))=t)):outS t=([],3):=by
 unfold outS
 rw[if_neg ht,if_neg]
 rintro⟨h1,h2⟩
 have hb:schemaB (schemaP (bL t))=true:=by
  cases hs:schemaB (schemaP (bL t)) with
  | true=>rfl
  | false=>have:=schT_no hs;rw[h1] at this;exact absurd this h2
 have e1:=read_schemaQ hb
 rw[h1] at e1
 exact h (by rw[e1];exact⟨hb,h1⟩)
theorem outS_big{t:ByteArray}(ht:8000<t.size):outS t=([],2):=by unfold outS;rw[if_pos ht]
set_option maxHeartbeats 4000000 in
theorem implSchemaRead(t:ByteArray)(ht:OkS t)(w:World)(B:Nat)(hv:VarsR B w)(hB:B≤w.heap.size) :
  Calls Tryz.prog 12 #[.string t] w fun e w'=>OutS w w' t e∧Below w.heap.size w w':=by
 have HA:Hid (∀ o,Below w.heap.size w (w.alloc o)):=hid fun o=>(Below.refl _ _).alloc (Nat.le_refl _) o
 have HV:=hid hv
 have HZ0:=hid (heap_alloc_new w (.cells #[.slice none 0 0,.int .i64 0] 39))
 unfold OkS at ht
 clear hv
 by_cases h8:8000<t.size
 ·have h8i:(8000:Int)<(t.size:Int):=by omega
  have hf:=hid (outS_big h8)
  clear h8
  go_enter Tryz.func12,Tryz.ntmps12
  go_wp2_with fail
  exact bodyPost_ret (v:=.agg #[.slice none 0 0,.int .i64 2]) (by simp[results,Tryz.results12,go_sem]) rfl ⟨by
   unfold OutS;rw[hf.out];exact⟨none,0,rfl,Nat.le_refl _,RowsX.nil (by simp)⟩,HA.out _⟩
 have h8i:¬ (8000:Int)<(t.size:Int):=by omega
 have h8n:t.size≤8000:=by omega
 have CR:Hid (∀ o,Calls Tryz.prog 47 #[.string t] (w.alloc o) fun e w'=>(∃ a ca,e=.returned (.agg #[.slice a (schemaQ (bL t)).length ca])∧SchemaX w' (w.alloc o).heap.size w'.heap.size (.agg #[.slice a (schemaQ (bL t)).length ca]) (schemaQ (bL t)))∧Below (w.alloc o).heap.size (w.alloc o) w'):=hid fun o=>implReadSchema t (w.alloc o) B (HV.out.over hB (HA.out o)) (Nat.le_trans hB (HA.out o).size) h8n
 have HYES:=hid (fun h1 h2=>outS_yes h8 h1 h2)
 have HNO:=hid (fun h=>outS_no h8 h)
 generalize schemaQ (bL t)=s at *
 clear h8 h8n
 go_enter Tryz.func12,Tryz.ntmps12
 go_wp2_with fail
 refine(CR.out _).mono ?_
 rintro e w1 ⟨⟨a,ca,rfl,hsx⟩,hb1⟩
 have HB1:=hid ((HA.out _).trans (hb1.mono (HA.out _).size))
 have HZ1:=hid ((hb1.block w.heap.size (lt_of_get HZ0.out)).trans HZ0.out)
 have hz1:=lt_of_get HZ1.out
 have HSX:=hid hsx
 have hlen:s.length≤ca:=by obtain ⟨a',ca',hv,_,hl⟩:=hsx;simp at hv;obtain ⟨rfl,rfl⟩:=hv;exact hl
 have HTX:Hid (TypesX w1 (w.heap.size+1) w1.heap.size a s.length s):=hid (by
  obtain ⟨a',ca',hv,hx,_⟩:=hsx
  simp at hv;obtain ⟨rfl,rfl⟩:=hv
  simpa using hx)
 clear hb1 hsx
 have HBA:Hid (Below w.heap.size w (w1.alloc (.cells #[.slice a s.length ca] 35))):=hid (HB1.out.alloc HB1.out.size _)
 have HA1:Hid (Below w1.heap.size w1 (w1.alloc (.cells #[.slice a s.length ca] 35))):=hid ((Below.refl _ _).alloc (Nat.le_refl _) _)
 have HN1:=hid (heap_alloc_new w1 (.cells #[.slice a s.length ca] 35))
 have CS:Hid (∀ w',Below w1.heap.size w1 w'→Calls Tryz.prog 28 #[.agg #[.slice a s.length ca]] w' fun e w''=>e=.returned (.bool (schemaB s))∧Below w'.heap.size w' w''):=hid fun w' h=>implSchemaRight w' (w.heap.size+1) w1.heap.size _ s ((by have:=HSX.out.at_;simpa using this:SchemaAt w1 (w.heap.size+1) w1.heap.size _ s).below (Nat.le_refl _) h) h.size
 have CT:Hid (∀ w',Below w1.heap.size w1 w'→Calls Tryz.prog 10 #[.agg #[.slice a s.length ca]] w' fun e w''=>e=.returned (.string (schT s))∧Below w'.heap.size w' w''):=hid fun w' h=>implSchemaText w' w1.heap.size _ s (((by have:=HSX.out.at_;simpa using this:SchemaAt w1 (w.heap.size+1) w1.heap.size _ s).wide (Nat.zero_le _) (Nat.le_refl _)).below (Nat.le_refl _) h) h.size B (HV.out.on (((HB1.out.trans (h.mono HB1.out.size))).mono hB)).pow (Nat.le_trans hB (Nat.le_trans HB1.out.size h.size))
 have HZA:=hid ((HA1.out.block w.heap.size hz1).trans HZ1.out)
 obtain ⟨sb,hsb⟩:∃ p,schemaB s=p:=⟨_,rfl⟩
 rw[hsb] at CS HYES HNO
 obtain ⟨st,hst⟩:∃ p,schT s=p:=⟨_,rfl⟩
 rw[hst] at CT HYES HNO
 clear hsb hst CR
 go_wp2_with fail
 refine(CS.out _ HA1.out).mono ?_
 rintro e w2 ⟨rfl,hb2⟩
 have HB2:=hid (HBA.out.trans (hb2.mono HBA.out.size))
 have HW2:=hid (HA1.out.trans (hb2.mono HA1.out.size))
 have HZ2:=hid ((hb2.block w.heap.size (lt_of_get HZA.out)).trans HZA.out)
 have HN2:=hid ((hb2.block w1.heap.size (lt_of_get HN1.out)).trans HN1.out)
 clear hb2
 have ⟨⟨z0,z1⟩,g0,g1⟩:=keep2 HZ2.out
 have ⟨n0,_⟩:=keep1 HN2.out
 cases sb
 ·have hf:=hid (HNO.out (by simp))
  go_wp2_with fail
  change bodyPost _ _ _ _ _ (putL w2 w.heap.size 0 [.slice none 0 0,.int .i64 3])
  obtain ⟨hr,_,_⟩:=putL_cells (g:=w.heap.size) (o:=0) (l:=[.slice none 0 0,.int .i64 3]) HZ2.out (by simp)
  have HBF:=putL_below (g:=w.heap.size) (B:=w.heap.size) (Nat.le_refl _) [.slice none 0 0,.int .i64 3] 0 HB2.out
  generalize putL w2 w.heap.size 0 [.slice none 0 0,.int .i64 3]=wz at *
  have x0:=hr 0 _ rfl
  have x1:=hr 1 _ rfl
  simp only[Nat.zero_add] at x0 x1
  exact bodyPost_ret (v:=.agg #[.slice none 0 0,.int .i64 3]) (by simp[results,Tryz.results12,go_sem,x0,x1]) rfl ⟨by
   unfold OutS;rw[hf.out];exact⟨none,0,rfl,Nat.le_refl _,RowsX.nil HBF.size⟩,HBF⟩
 ·go_wp2_with fail
  refine(CT.out _ HW2.out).mono ?_
  rintro e w3 ⟨rfl,hb3⟩
  have HB3:=hid (HB2.out.trans (hb3.mono HB2.out.size))
  have HW3:=hid (HW2.out.trans (hb3.mono HW2.out.size))
  have HZ3:=hid ((hb3.block w.heap.size (lt_of_get HZ2.out)).trans HZ2.out)
  have HN3:=hid ((hb3.block w1.heap.size (lt_of_get HN2.out)).trans HN2.out)
  clear hb3 z0 z1 g0 g1 n0
  have ⟨⟨z0,z1⟩,g0,g1⟩:=keep2 HZ3.out
  have ⟨n0,_⟩:=keep1 HN3.out
  by_cases heq:st=t
  ·have hf:=hid (HYES.out (by trivial) heq)
   subst heq
   go_wp2_with fail
   change bodyPost _ _ _ _ _ (putL w3 w.heap.size 0 [.slice a s.length ca,.int .i64 0])
   obtain ⟨hr,_,_⟩:=putL_cells (g:=w.heap.size) (o:=0) (l:=[.slice a s.length ca,.int .i64 0]) HZ3.out (by simp)
   have HBF:=putL_below (g:=w.heap.size) (B:=w.heap.size) (Nat.le_refl _) [.slice a s.length ca,.int .i64 0] 0 HB3.out
   have hsz:=putL_size [.slice a s.length ca,.int .i64 0] w3 w.heap.size 0
   have HTZ:=(HTX.out.below typeLiesX (Nat.le_refl _) HW3.out).block (w':=putL w3 w.heap.size 0 [.slice a s.length ca,.int .i64 0]) typeLiesX fun q q1 q2=>putL_other _ _ _ _ q (by omega)
   have hle:w1.heap.size≤(putL w3 w.heap.size 0 [.slice a s.length ca,.int .i64 0]).heap.size:=by rw[hsz];exact HW3.out.size
   generalize putL w3 w.heap.size 0 [.slice a s.length ca,.int .i64 0]=wz at *
   have x0:=hr 0 _ rfl
   have x1:=hr 1 _ rfl
   simp only[Nat.zero_add] at x0 x1
   exact bodyPost_ret (v:=.agg #[.slice a s.length ca,.int .i64 0]) (by simp[results,Tryz.results12,go_sem,x0,x1]) rfl ⟨by
    unfold OutS;rw[hf.out];exact⟨a,ca,rfl,hlen,HTZ.wide (by omega) hle⟩,HBF⟩
  ·have hf:=hid (HNO.out (fun h=>heq h.2))
   have n1:=toList_ne heq
   have n2:=toList_beq heq
   clear heq
   go_wp2_with fail
   change bodyPost _ _ _ _ _ (putL w3 w.heap.size 0 [.slice none 0 0,.int .i64 3])
   obtain ⟨hr,_,_⟩:=putL_cells (g:=w.heap.size) (o:=0) (l:=[.slice none 0 0,.int .i64 3]) HZ3.out (by simp)
   have HBF:=putL_below (g:=w.heap.size) (B:=w.heap.size) (Nat.le_refl _) [.slice none 0 0,.int .i64 3] 0 HB3.out
   generalize putL w3 w.heap.size 0 [.slice none 0 0,.int .i64 3]=wz at *
   have x0:=hr 0 _ rfl
   have x1:=hr 1 _ rfl
   simp only[Nat.zero_add] at x0 x1
   exact bodyPost_ret (v:=.agg #[.slice none 0 0,.int .i64 3]) (by simp[results,Tryz.results12,go_sem,x0,x1]) rfl ⟨by
    unfold OutS;rw[hf.out];exact⟨none,0,rfl,Nat.le_refl _,RowsX.nil HBF.size⟩,HBF⟩
end Go.Proofs.YtmembhpoidcmlaaGreatDoor.Rw
