/-
  Contracts: the draws of texts out of a row (pick) and of one of the three schemas (l04SchemaOf); of what was there only the source is changed. Conditions: as each theorem says.
-/
import Derived.Test.YtmembhpoidcmlaaGreatDoorRows
import Derived.Test.YtmembhpoidcmlaaGreatDoorPrintS
import Derived.Test.YtmembhpoidcmlaaGreatDoorBytes
import Derived.RegionTactic
import Derived.BigRegion
import Derived.Laws.BitsAllLaws
import Derived.OpenShut
import Derived.Test.YtmembhpoidcmlaaGreatDoorReadM
namespace Go.Proofs.YtmembhpoidcmlaaGreatDoor.Rw
open Go.RowKit Words Decs
set_option linter.unusedVariables false
set_option maxRecDepth 100000
def ofC(s:ByteArray)(lo hi:Nat):Bool:=decide (1≤s.size) && (decide (s.size≤8) && s.data.toList.all fun x=>decide (lo≤x.toNat) && decide (x.toNat≤hi))
theorem ofC_yes{s:ByteArray}{lo hi:Nat}(h:ofC s lo hi=true):ofB s lo hi=true:=by
 unfold ofC at h
 simp only[Bool.and_eq_true,decide_eq_true_eq,List.all_eq_true] at h
 refine ofB_yes ⟨h.1,h.2.1,fun k hk=>?_⟩
 rw[←bt_at hk]
 have:=h.2.2 (s[k]) (by show s.data[k]∈s.data.toList;exact Array.mem_toList_iff.2 (Array.getElem_mem _))
 omega
theorem word_of{s:ByteArray}(h:ofC s 97 122=true)(h1:(s.toList == [111,110])=false)(h2:(s.toList == [102,114,97,103,109,101,110,116])=false):wordB s=true:=by
 unfold wordB;rw[show ofB s 97 122=true from ofC_yes h,h1,h2];rfl
theorem type_of{s:ByteArray}(h:ofC s 65 90=true):typeB s=true:=ofC_yes h
theorem w_any:wordB ⟨#[97,110,121]⟩=true:=word_of (by decide) (by rw[Lib.toList_data];decide) (by rw[Lib.toList_data];decide)
theorem w_best:wordB ⟨#[98,101,115,116]⟩=true:=word_of (by decide) (by rw[Lib.toList_data];decide) (by rw[Lib.toList_data];decide)
theorem w_by:wordB ⟨#[98,121]⟩=true:=word_of (by decide) (by rw[Lib.toList_data];decide) (by rw[Lib.toList_data];decide)
theorem w_friends:wordB ⟨#[102,114,105,101,110,100,115]⟩=true:=word_of (by decide) (by rw[Lib.toList_data];decide) (by rw[Lib.toList_data];decide)
theorem w_id:wordB ⟨#[105,100]⟩=true:=word_of (by decide) (by rw[Lib.toList_data];decide) (by rw[Lib.toList_data];decide)
theorem w_me:wordB ⟨#[109,101]⟩=true:=word_of (by decide) (by rw[Lib.toList_data];decide) (by rw[Lib.toList_data];decide)
theorem w_name:wordB ⟨#[110,97,109,101]⟩=true:=word_of (by decide) (by rw[Lib.toList_data];decide) (by rw[Lib.toList_data];decide)
theorem w_posts:wordB ⟨#[112,111,115,116,115]⟩=true:=word_of (by decide) (by rw[Lib.toList_data];decide) (by rw[Lib.toList_data];decide)
theorem w_tags:wordB ⟨#[116,97,103,115]⟩=true:=word_of (by decide) (by rw[Lib.toList_data];decide) (by rw[Lib.toList_data];decide)
theorem w_text:wordB ⟨#[116,101,120,116]⟩=true:=word_of (by decide) (by rw[Lib.toList_data];decide) (by rw[Lib.toList_data];decide)
theorem w_users:wordB ⟨#[117,115,101,114,115]⟩=true:=word_of (by decide) (by rw[Lib.toList_data];decide) (by rw[Lib.toList_data];decide)
theorem t_ANY:typeB ⟨#[65,78,89]⟩=true:=type_of (by decide)
theorem t_POST:typeB ⟨#[80,79,83,84]⟩=true:=type_of (by decide)
theorem t_Q:typeB ⟨#[81]⟩=true:=type_of (by decide)
theorem t_STR:typeB ⟨#[83,84,82]⟩=true:=type_of (by decide)
theorem t_USER:typeB ⟨#[85,83,69,82]⟩=true:=type_of (by decide)
theorem d_1{n:Nat}(h:n<10):decL n=[UInt8.ofNat (48+n)]:=decL_small h
theorem dec2:decB 2=cB [50]:=by unfold decB cB;rw[if_neg (by decide),show (2:Int).natAbs=2 from rfl,d_1 (by decide)];rfl
theorem dec3:decB 3=cB [51]:=by unfold decB cB;rw[if_neg (by decide),show (3:Int).natAbs=3 from rfl,d_1 (by decide)];rfl
theorem dec4:decB 4=cB [52]:=by unfold decB cB;rw[if_neg (by decide),show (4:Int).natAbs=4 from rfl,d_1 (by decide)];rfl
theorem dec5:decB 5=cB [53]:=by unfold decB cB;rw[if_neg (by decide),show (5:Int).natAbs=5 from rfl,d_1 (by decide)];rfl
theorem d_10:decL 10=[49,48]:=by rw[decL_big (by decide),d_1 (by decide)];rfl
theorem dec10:decB 10=cB [49,48]:=by unfold decB cB;rw[if_neg (by decide),show (10:Int).natAbs=10 from rfl,d_10];rfl
theorem dec100:decB 100=cB [49,48,48]:=by unfold decB cB;rw[if_neg (by decide),show (100:Int).natAbs=100 from rfl,decL_big (by decide),show (100:Nat) / 10=10 from rfl,d_10];rfl
def three0:List TypeP:=[⟨⟨#[81]⟩,2,0,[⟨⟨#[105,100]⟩,⟨#[83,84,82]⟩,false,false,0,0⟩,⟨⟨#[117,115,101,114,115]⟩,⟨#[85,83,69,82]⟩,true,false,0,5⟩,⟨⟨#[109,101]⟩,⟨#[85,83,69,82]⟩,false,false,0,0⟩,⟨⟨#[97,110,121]⟩,⟨#[65,78,89]⟩,true,false,2,0⟩],[]⟩,
 ⟨⟨#[83,84,82]⟩,1,10,[],[]⟩,
 ⟨⟨#[85,83,69,82]⟩,2,0,[⟨⟨#[105,100]⟩,⟨#[83,84,82]⟩,false,true,0,0⟩,⟨⟨#[110,97,109,101]⟩,⟨#[83,84,82]⟩,false,false,0,0⟩,⟨⟨#[112,111,115,116,115]⟩,⟨#[80,79,83,84]⟩,true,false,3,0⟩,⟨⟨#[98,101,115,116]⟩,⟨#[80,79,83,84]⟩,false,true,0,0⟩],[]⟩,
 ⟨⟨#[80,79,83,84]⟩,2,0,[⟨⟨#[105,100]⟩,⟨#[83,84,82]⟩,false,false,0,0⟩,⟨⟨#[116,101,120,116]⟩,⟨#[83,84,82]⟩,false,false,0,0⟩,⟨⟨#[98,121]⟩,⟨#[85,83,69,82]⟩,false,false,0,0⟩,⟨⟨#[116,97,103,115]⟩,⟨#[83,84,82]⟩,true,false,0,4⟩],[]⟩,
 ⟨⟨#[65,78,89]⟩,3,0,[],[⟨#[85,83,69,82]⟩,⟨#[80,79,83,84]⟩]⟩]
def text0:ByteArray:=⟨#[111,98,106,32,81,32,105,100,58,83,84,82,32,117,115,101,114,115,58,85,83,69,82,91,60,53,93,32,109,101,58,85,83,69,82,32,97,110,121,58,65,78,89,91,50,93,10,108,101,97,102,32,83,84,82,32,49,48,10,111,98,106,32,85,83,69,82,32,105,100,58,83,84,82,33,32,110,97,109,101,58,83,84,82,32,112,111,115,116,115,58,80,79,83,84,91,51,93,32,98,101,115,116,58,80,79,83,84,33,10,111,98,106,32,80,79,83,84,32,105,100,58,83,84,82,32,116,101,120,116,58,83,84,82,32,98,121,58,85,83,69,82,32,116,97,103,115,58,83,84,82,91,60,52,93,10,111,110,101,32,65,78,89,32,85,83,69,82,32,80,79,83,84,10]⟩
def three1:List TypeP:=[⟨⟨#[81]⟩,2,0,[⟨⟨#[105,100]⟩,⟨#[83,84,82]⟩,false,true,0,0⟩,⟨⟨#[117,115,101,114,115]⟩,⟨#[85,83,69,82]⟩,true,true,2,0⟩,⟨⟨#[97,110,121]⟩,⟨#[65,78,89]⟩,false,false,0,0⟩],[]⟩,
 ⟨⟨#[83,84,82]⟩,1,3,[],[]⟩,
 ⟨⟨#[85,83,69,82]⟩,2,0,[⟨⟨#[105,100]⟩,⟨#[83,84,82]⟩,false,false,0,0⟩,⟨⟨#[110,97,109,101]⟩,⟨#[83,84,82]⟩,false,true,0,0⟩,⟨⟨#[102,114,105,101,110,100,115]⟩,⟨#[85,83,69,82]⟩,true,false,0,3⟩,⟨⟨#[97,110,121]⟩,⟨#[65,78,89]⟩,false,true,0,0⟩],[]⟩,
 ⟨⟨#[80,79,83,84]⟩,2,0,[⟨⟨#[105,100]⟩,⟨#[83,84,82]⟩,false,false,0,0⟩,⟨⟨#[98,121]⟩,⟨#[85,83,69,82]⟩,false,true,0,0⟩],[]⟩,
 ⟨⟨#[65,78,89]⟩,3,0,[],[⟨#[80,79,83,84]⟩,⟨#[85,83,69,82]⟩,⟨#[81]⟩]⟩]
def text1:ByteArray:=⟨#[111,98,106,32,81,32,105,100,58,83,84,82,33,32,117,115,101,114,115,58,85,83,69,82,91,50,93,33,32,97,110,121,58,65,78,89,10,108,101,97,102,32,83,84,82,32,51,10,111,98,106,32,85,83,69,82,32,105,100,58,83,84,82,32,110,97,109,101,58,83,84,82,33,32,102,114,105,101,110,100,115,58,85,83,69,82,91,60,51,93,32,97,110,121,58,65,78,89,33,10,111,98,106,32,80,79,83,84,32,105,100,58,83,84,82,32,98,121,58,85,83,69,82,33,10,111,110,101,32,65,78,89,32,80,79,83,84,32,85,83,69,82,32,81,10]⟩
def three2:List TypeP:=[⟨⟨#[81]⟩,2,0,[⟨⟨#[105,100]⟩,⟨#[83,84,82]⟩,false,false,0,0⟩,⟨⟨#[117,115,101,114,115]⟩,⟨#[85,83,69,82]⟩,true,false,100,0⟩,⟨⟨#[112,111,115,116,115]⟩,⟨#[80,79,83,84]⟩,true,false,0,100⟩],[]⟩,
 ⟨⟨#[83,84,82]⟩,1,100,[],[]⟩,
 ⟨⟨#[85,83,69,82]⟩,2,0,[⟨⟨#[105,100]⟩,⟨#[83,84,82]⟩,false,false,0,0⟩,⟨⟨#[112,111,115,116,115]⟩,⟨#[80,79,83,84]⟩,true,false,100,0⟩],[]⟩,
 ⟨⟨#[80,79,83,84]⟩,2,0,[⟨⟨#[105,100]⟩,⟨#[83,84,82]⟩,false,false,0,0⟩,⟨⟨#[117,115,101,114,115]⟩,⟨#[85,83,69,82]⟩,true,false,100,0⟩],[]⟩,
 ⟨⟨#[65,78,89]⟩,3,0,[],[⟨#[80,79,83,84]⟩]⟩]
def text2:ByteArray:=⟨#[111,98,106,32,81,32,105,100,58,83,84,82,32,117,115,101,114,115,58,85,83,69,82,91,49,48,48,93,32,112,111,115,116,115,58,80,79,83,84,91,60,49,48,48,93,10,108,101,97,102,32,83,84,82,32,49,48,48,10,111,98,106,32,85,83,69,82,32,105,100,58,83,84,82,32,112,111,115,116,115,58,80,79,83,84,91,49,48,48,93,10,111,98,106,32,80,79,83,84,32,105,100,58,83,84,82,32,117,115,101,114,115,58,85,83,69,82,91,49,48,48,93,10,111,110,101,32,65,78,89,32,80,79,83,84,10]⟩
theorem right0:schemaB three0=true:=by
 simp only[three0,schemaB,headKind,typesAll,typeOkB,partB,leafB,objB,oneTB,fieldsB,fieldsAll,fieldB,membersAll,memberB,w_any,w_best,w_by,w_id,w_me,w_name,w_posts,w_tags,w_text,w_users,t_ANY,t_POST,t_Q,t_STR,t_USER,Bool.true_and]
 decide
theorem print0:schT three0=text0:=by
 unfold schT
 rw[if_pos right0]
 simp only[three0,linesT,lineT,headT,fieldsT,fieldT,memsT,tailT,dec2,dec3,dec4,dec5,dec10]
 kernel_rfl
theorem right1:schemaB three1=true:=by
 simp only[three1,schemaB,headKind,typesAll,typeOkB,partB,leafB,objB,oneTB,fieldsB,fieldsAll,fieldB,membersAll,memberB,w_any,w_by,w_friends,w_id,w_name,w_users,t_ANY,t_POST,t_Q,t_STR,t_USER,Bool.true_and]
 decide
theorem print1:schT three1=text1:=by
 unfold schT
 rw[if_pos right1]
 simp only[three1,linesT,lineT,headT,fieldsT,fieldT,memsT,tailT,dec2,dec3]
 kernel_rfl
theorem right2:schemaB three2=true:=by
 simp only[three2,schemaB,headKind,typesAll,typeOkB,partB,leafB,objB,oneTB,fieldsB,fieldsAll,fieldB,membersAll,memberB,w_id,w_posts,w_users,t_ANY,t_POST,t_Q,t_STR,t_USER,Bool.true_and]
 decide
theorem print2:schT three2=text2:=by
 unfold schT
 rw[if_pos right2]
 simp only[three2,linesT,lineT,headT,fieldsT,fieldT,memsT,tailT,dec100]
 kernel_rfl
theorem out_three{t:ByteArray}{s:List TypeP}(h:schemaB s=true)(ht:schT s=t)(h1:t.size≤8000)(h0:t.size≠0):schemaP (bL t)=s:=by
 rw[←ht];exact read_schema h
end Go.Proofs.YtmembhpoidcmlaaGreatDoor.Rw
namespace Go.Proofs.YtmembhpoidcmlaaGreatDoor.Draws
open Lib (hid)
open Go.RowKit Texts Bytes
set_option linter.unusedVariables false
structure Only(p:Nat)(w w':World):Prop where
 os:w'.os=w.os
 tape:w'.tape=w.tape
 output:w'.output=w.output
 size:w.heap.size≤w'.heap.size
 block:∀ k,k<w.heap.size→k≠p→w'.heap[k]?=w.heap[k]?
theorem Only.refl(p:Nat)(w:World):Only p w w:=⟨rfl,rfl,rfl,Nat.le_refl _,fun _ _ _=>rfl⟩
theorem Only.trans{p:Nat}{a b c:World}(h:Only p a b)(g:Only p b c):Only p a c :=
 ⟨g.os.trans h.os,g.tape.trans h.tape,g.output.trans h.output,Nat.le_trans h.size g.size,fun k hk hp=>(g.block k (Nat.lt_of_lt_of_le hk h.size) hp).trans (h.block k hk hp)⟩
theorem Only.drew{p:Nat}{a b:World}(h:Only p a b):Only p a b.drew:=⟨h.os,h.tape,h.output,h.size,h.block⟩
theorem Only.setCell{p:Nat}{a b:World}(h:Only p a b)(i:Nat)(v:Value):Only p a (b.setCell ⟨p,i,none⟩ v) :=
 ⟨h.os,h.tape,h.output,by simpa using h.size,fun k hk hp=>(Below.heap_setCell b ⟨p,i,none⟩ v k hp).trans (h.block k hk hp)⟩
theorem Only.of_below{p:Nat}{a b c:World}(h:Only p a b){B:Nat}(hB:a.heap.size≤B)(g:Below B b c):Only p a c :=
 ⟨g.os.trans h.os,g.tape.trans h.tape,g.output.trans h.output,Nat.le_trans h.size g.size,fun k hk hp=>(g.block k (Nat.lt_of_lt_of_le hk hB)).trans (h.block k hk hp)⟩
theorem Only.below{p:Nat}{a b:World}(h:Only p a b){B:Nat}(hp:B≤p)(hB:B≤a.heap.size):Below B a b :=
 ⟨h.os,h.tape,h.output,h.size,fun k hk=>h.block k (by omega) (by omega)⟩
theorem OwnB.only{w w':World}{base p:Nat}{v:Value}{l:List UInt8}(h:OwnB w base v l)(g:Only p w w')(hp:p<base):OwnB w' base v l:=by
 obtain ⟨hl,⟨hv,hn⟩|⟨gb,cap,cur,hv,hb,hg,hc,hm,hs,ht⟩⟩:=h
 ·exact⟨hl,.inl ⟨hv,hn⟩⟩
 ·have hlt:gb<w.heap.size:=by
   rcases Nat.lt_or_ge gb w.heap.size with h|h
   ·exact h
   ·rw[Array.getElem?_eq_none h] at hg;cases hg
  exact⟨hl,.inr ⟨gb,cap,cur,hv,hb,(g.block gb hlt (by omega)).trans hg,hc,hm,hs,ht⟩⟩
structure Src(w:World)(p:Nat)(a:Option Addr)(len cap:Nat):Prop where
 ex:∃ (k:Nat) (m z:Int),k≤len∧w.heap[p]?=some (.cells #[.slice a len cap,.int .i64 k,.int .u64 m,.int .i64 z] 107 (0,0))
 row:∀ i,i<len→∃ b off x,a=some ⟨b,off,none⟩∧b<p∧0≤x∧x≤255∧w.cell? ⟨b,off+i,none⟩=some (.int .u8 x)
 small:len≤140737488351232
 lt:p<w.heap.size
theorem Src.below{w w':World}{p len cap:Nat}{a:Option Addr}(h:Src w p a len cap){B:Nat}(hB:p<B)(g:Below B w w'):Src w' p a len cap:=by
 refine⟨?_,fun i hi=>?_,h.small,Nat.lt_of_lt_of_le h.lt g.size⟩
 ·obtain ⟨k,m,z,hk,hh⟩:=h.ex
  exact⟨k,m,z,hk,(g.block p hB).trans hh⟩
 ·obtain ⟨b,off,x,ha,hb,h0,h1,hc⟩:=h.row i hi
  exact⟨b,off,x,ha,hb,h0,h1,(g.cell (p:=⟨b,off+i,none⟩) (by show b<B;omega)).trans hc⟩
theorem Src.mk'{w w':World}{p len cap:Nat}{a:Option Addr}(h:Src w p a len cap)(g:Only p w w'){k:Nat}{m z:Int}(hk:k≤len)
  (hh:w'.heap[p]?=some (.cells #[.slice a len cap,.int .i64 k,.int .u64 m,.int .i64 z] 107 (0,0))):Src w' p a len cap:=by
 refine⟨⟨k,m,z,hk,hh⟩,fun i hi=>?_,h.small,Nat.lt_of_lt_of_le h.lt g.size⟩
 obtain ⟨b,off,x,ha,hb,h0,h1,hc⟩:=h.row i hi
 exact⟨b,off,x,ha,hb,h0,h1,((g.below (B:=p) (Nat.le_refl _) (Nat.le_of_lt h.lt)).cell (p:=⟨b,off+i,none⟩) hb).trans hc⟩
theorem mixes(m:Int):∃ M1 M2 M3:Int,bits BinOp.xor IntKind.u64 m (IntKind.u64.wrap (m * 8192))=M1∧bits BinOp.xor IntKind.u64 M1 (M1 / 128)=M2∧bits BinOp.xor IntKind.u64 M2 (IntKind.u64.wrap (M2 * 131072))=M3 ∧
  0≤M1∧0≤M2∧0≤M3∧M3 / 1048576≤17592186044415:=by
 have h:∀ a b:Int,0≤bits BinOp.xor IntKind.u64 a b∧bits BinOp.xor IntKind.u64 a b / 1048576≤17592186044415:=fun a b=>by
  obtain ⟨z,hz⟩:∃ z:Int,bits BinOp.xor IntKind.u64 a b=IntKind.u64.wrap z:=⟨_,rfl⟩
  rw[hz,IntKind.wrap_u64];omega
 exact⟨_,_,_,rfl,rfl,rfl,(h _ _).1,(h _ _).1,(h _ _).1,(h _ _).2⟩
theorem two_sets{W:World}{a:Addr}{u:Value}(h:W.cell? a=some u)(x y:Value):((W.setCell a x).setCell a y).cell? a=some y :=
 World.cell?_setCell_same' _ _ _ (by rw[World.cell?_setCell_same' _ _ _ (by rw[h];rfl)];rfl)
theorem three_sets{W:World}{a:Addr}{u:Value}(h:W.cell? a=some u)(x y z:Value):(((W.setCell a x).setCell a y).setCell a z).cell? a=some z :=
 World.cell?_setCell_same' _ _ _ (by rw[two_sets h x y];rfl)
set_option maxHeartbeats 4000000 in
theorem src_n(w:World)(p len cap:Nat)(a:Option Addr)(h:Src w p a len cap)(most:Int)(hm:most≤9223372036854775807) :
  Calls Tryz.prog 36 #[.pointer (some ⟨p,0,none⟩),.int .i64 most] w fun e w'=>(∃ r,e=.returned (.int .i64 r)∧0≤r∧(r<most∨r=0))∧Src w' p a len cap∧Only p w w':=by
 by_cases h1:most≤1
 ·have HS:=hid h
  clear h
  go_enter Tryz.func36,Tryz.ntmps36
  go_wp2_with fail
  go_ret
  exact⟨⟨0,rfl,Int.le_refl _,.inr rfl⟩,HS.out,Only.refl _ _⟩
 have h1':1<most:=by omega
 clear h1
 obtain ⟨k,m,z,hk,hh⟩:=h.ex
 have c0:w.cell? ⟨p,0,none⟩=some (.slice a len cap):=row_cell hh (k:=0) (by simp)
 have c1:w.cell? ⟨p,1,none⟩=some (.int .i64 k):=row_cell hh (k:=1) (by simp)
 have c2:w.cell? ⟨p,2,none⟩=some (.int .u64 m):=row_cell hh (k:=2) (by simp)
 have f1:=frozen_of_row w p 1 _ _ hh
 have f2:=frozen_of_row w p 2 _ _ hh
 have hsm:=h.small
 have HS:=hid h
 have HH:=hid hh
 clear hh
 by_cases hlt:k<len
 ·obtain ⟨b,off,x,rfl,hb,hx0,hx1,hc⟩:=h.row k hlt
  have hbp:b≠p:=by omega
  clear h
  have e2:(w.setCell ⟨p,1,none⟩ (.int .i64 ((k:Int)+1))).cell? ⟨p,2,none⟩=some (.int .u64 m):=by
   rw[World.cell?_setCell_other _ _ _ _ (by simp)];exact c2
  have e3:=heap_setCell_same w p 1 _ _ (.int .i64 ((k:Int)+1)) HH.out
  obtain ⟨M1,M2,M3,hM1,hM2,hM3,g1,g2,g3,g4⟩:=mixes m
  have d3:=two_sets (W:=(w.setCell ⟨p,1,none⟩ (.int .i64 ((k:Int)+1)))) (a:=⟨p,2,none⟩) e2 (.int .u64 M1) (.int .u64 M2)
  have d4:=three_sets (W:=(w.setCell ⟨p,1,none⟩ (.int .i64 ((k:Int)+1)))) (a:=⟨p,2,none⟩) e2 (.int .u64 M1) (.int .u64 M2) (.int .u64 M3)
  have hend:((((w.setCell ⟨p,1,none⟩ (.int .i64 ((k:Int)+1))).setCell ⟨p,2,none⟩ (.int .u64 M1)).setCell ⟨p,2,none⟩ (.int .u64 M2)).setCell ⟨p,2,none⟩ (.int .u64 M3)).heap[p]? =
    some (.cells #[.slice (some ⟨b,off,none⟩) len cap,.int .i64 ((k:Int)+1),.int .u64 M3,.int .i64 z] 107 (0,0)):=by
   rw[heap_setCell_same _ _ _ _ _ _ (heap_setCell_same _ _ _ _ _ _ (heap_setCell_same _ _ _ _ _ _ e3))];simp
  have HE:=hid hend
  have hmod0:0≤(x+M3 / 1048576) % most:=Int.emod_nonneg _ (by omega)
  have hmod1:(x+M3 / 1048576) % most<most:=Int.emod_lt_of_pos _ (by omega)
  clear hend e2 e3
  go_enter Tryz.func36,Tryz.ntmps36
  go_wp2_with fail
  go_region
  go_wp2_with fail
  go_region
  go_wp2_with fail
  go_region
  go_wp2_with fail
  go_region
  go_wp2_with fail
  go_region
  go_wp2_with fail
  go_ret
  have ho:∀ y1 y2 y3 y4,Only p w ((((w.setCell ⟨p,1,none⟩ y1).setCell ⟨p,2,none⟩ y2).setCell ⟨p,2,none⟩ y3).setCell ⟨p,2,none⟩ y4):=fun _ _ _ _=>((((Only.refl p w).setCell 1 _).setCell 2 _).setCell 2 _).setCell 2 _
  exact⟨⟨_,rfl,hmod0,.inl hmod1⟩,HS.out.mk' (k:=k+1) (ho _ _ _ _).drew.drew.drew.drew.drew (by omega) HE.out,(ho _ _ _ _).drew.drew.drew.drew.drew⟩
 ·have hge:len≤k:=by omega
  clear h hlt
  obtain ⟨M1,M2,M3,hM1,hM2,hM3,g1,g2,g3,g4⟩:=mixes m
  have d3:=two_sets (W:=w) (a:=⟨p,2,none⟩) c2 (.int .u64 M1) (.int .u64 M2)
  have d4:=three_sets (W:=w) (a:=⟨p,2,none⟩) c2 (.int .u64 M1) (.int .u64 M2) (.int .u64 M3)
  have hend:(((w.setCell ⟨p,2,none⟩ (.int .u64 M1)).setCell ⟨p,2,none⟩ (.int .u64 M2)).setCell ⟨p,2,none⟩ (.int .u64 M3)).heap[p]? =
    some (.cells #[.slice a len cap,.int .i64 k,.int .u64 M3,.int .i64 z] 107 (0,0)):=by
   rw[heap_setCell_same _ _ _ _ _ _ (heap_setCell_same _ _ _ _ _ _ (heap_setCell_same _ _ _ _ _ _ HH.out))];simp
  have HE:=hid hend
  have hmod0:0≤(M3 / 1048576) % most:=Int.emod_nonneg _ (by omega)
  have hmod1:(M3 / 1048576) % most<most:=Int.emod_lt_of_pos _ (by omega)
  clear hend
  go_enter Tryz.func36,Tryz.ntmps36
  go_wp2_with fail
  go_region
  go_wp2_with fail
  go_region
  go_wp2_with fail
  go_region
  go_wp2_with fail
  go_region
  go_wp2_with fail
  go_ret
  have ho:∀ y2 y3 y4,Only p w (((w.setCell ⟨p,2,none⟩ y2).setCell ⟨p,2,none⟩ y3).setCell ⟨p,2,none⟩ y4):=fun _ _ _=>(((Only.refl p w).setCell 2 _).setCell 2 _).setCell 2 _
  exact⟨⟨_,rfl,hmod0,.inl hmod1⟩,HS.out.mk' (k:=k) (ho _ _ _).drew.drew.drew.drew (by omega) HE.out,(ho _ _ _).drew.drew.drew.drew⟩
def IsRow(k:IntKind)(w:World)(a:Option Addr)(len cap:Nat)(zs:List Int):Prop :=
 (a=none∧len=0∧cap=0∧zs=[]) ∨
 ∃ x,a=some x∧len≤cap∧cap≤maxLen∧zs.length=cap∧(∀ i,i<zs.length→w.cell? (x.add i)=some (.int k (zs.getD i 0)))∧∀ n∈zs,(Lit.int k n).wf=true
def BytesAt(w:World)(B:Nat)(a:Option Addr)(len:Nat):Prop :=
 ∀ i,i<len→∃ b off x,a=some ⟨b,off,none⟩∧b<B∧0≤x∧x≤255∧w.cell? ⟨b,off+i,none⟩=some (.int .u8 x)
theorem BytesAt.of_row{w:World}{a:Option Addr}{len cap:Nat}{zs:List Int}(h:IsRow .u8 w a len cap zs):BytesAt w w.heap.size a len:=by
 intro i hi
 rcases h with ⟨_,h0,_⟩|⟨⟨b,off,spot⟩,ha,hl,hm,hz,hc,hw⟩
 ·omega
 ·have hs:spot=none:=by
   have h0:=hc 0 (by omega)
   simpa [Addr.add] using World.cell?_spot h0
  subst hs
  have hci:=hc i (by omega)
  have ea:(⟨b,off,none⟩:Addr).add i=⟨b,off+i,none⟩:=by unfold Addr.add;split <;> simp_all
  rw[ea] at hci
  have hwi:=bounds_u8 (hw (zs.getD i 0) (by
   rw[List.getD_eq_getElem?_getD,List.getElem?_eq_getElem (by omega)];exact List.getElem_mem _))
  have hb:b<w.heap.size:=by
   rcases Nat.lt_or_ge b w.heap.size with k|k
   ·exact k
   ·unfold World.cell? at hci;rw[Array.getElem?_eq_none k] at hci;simp at hci
  exact⟨b,off,_,ha,hb,hwi.1,hwi.2,hci⟩
theorem BytesAt.below{w w':World}{B len:Nat}{a:Option Addr}(h:BytesAt w B a len)(g:Below B w w'):BytesAt w' B a len:=fun i hi=>by
 obtain ⟨b,off,x,ha,hb,h0,h1,hc⟩:=h i hi
 exact⟨b,off,x,ha,hb,h0,h1,(g.cell (p:=⟨b,off+i,none⟩) hb).trans hc⟩
theorem BytesAt.mono{w:World}{B B' len:Nat}{a:Option Addr}(h:BytesAt w B a len)(hB:B≤B'):BytesAt w B' a len:=fun i hi=>by
 obtain ⟨b,off,x,ha,hb,h0,h1,hc⟩:=h i hi
 exact⟨b,off,x,ha,by omega,h0,h1,hc⟩
set_option maxHeartbeats 2000000 in
theorem source(w:World)(len cap:Nat)(a:Option Addr)(h:BytesAt w w.heap.size a len)(hsm:len≤140737488351232) :
  Calls Tryz.prog 33 #[.slice a len cap] w fun e w'=>e=.returned (.pointer (some ⟨w.heap.size,0,none⟩))∧Src w' w.heap.size a len cap∧Below w.heap.size w w':=by
 have HB:=hid h
 clear h
 go_enter Tryz.func33,Tryz.ntmps33
 go_wp2_with fail
 go_loopw [4] (fun i wr=>∃ (k:Nat) (m:Int),k≤len∧k≤64∧i=.int .i64 k∧wr.heap[w.heap.size]?=some (.cells #[.slice a len cap,.int .i64 0,.int .u64 m,.int .i64 0] 107 (0,0))∧Below w.heap.size w wr) (fun i _=>64 - (intOf i).toNat)
 case atStart=>exact⟨0,_,by omega,by omega,rfl,heap_alloc_new w _,(Below.refl _ _).alloc (Nat.le_refl _) _⟩
 case round =>
  obtain ⟨k,m,hk,hk64,rfl,hh,hbel⟩:=hrel
  have c2:wr.cell? ⟨w.heap.size,2,none⟩=some (.int .u64 m):=row_cell hh (k:=2) (by simp)
  have c3:wr.cell? ⟨w.heap.size,3,none⟩=some (.int .i64 0):=row_cell hh (k:=3) (by simp)
  have f2:=frozen_of_row wr w.heap.size 2 _ _ hh
  have f3:=frozen_of_row wr w.heap.size 3 _ _ hh
  have HH:=hid hh
  have HBL:=hid hbel
  have hz:=hid hbel.size
  clear hh hbel
  by_cases hlt:k<len∧k<64
  ·obtain ⟨b,off,x,rfl,hb,hx0,hx1,hc⟩:=(HB.out.below HBL.out) k hlt.1
   have hl1:=hlt.1
   have hl2:(k:Int)<64:=by omega
   have hbp:b≠w.heap.size:=by omega
   clear hlt
   go_wp2_with fail
   go_region
   go_wp2_with fail
   have hh2:(wr.setCell ⟨w.heap.size,2,none⟩ (.int .u64 (IntKind.u64.wrap (bits BinOp.xor IntKind.u64 m x * 1099511628211)))).heap[w.heap.size]?=some (.cells #[.slice (some ⟨b,off,none⟩) len cap,.int .i64 0,.int .u64 (IntKind.u64.wrap (bits BinOp.xor IntKind.u64 m x * 1099511628211)),.int .i64 0] 107 (0,0)):=by
    rw[heap_setCell_same wr w.heap.size 2 _ _ _ HH.out];simp
   have HH2:=hid hh2
   clear hh2
   go_roundw
   case rel=>exact⟨k+1,_,by omega,by omega,by go_num,HH2.out,(HBL.out.setCell (Nat.le_refl _) _).drew⟩
   case measure=>simp[intOf];omega
  ·have hcase:k=len∨(k<len∧k=64):=by omega
   have fin:∀ (z:Int) (w':World),Below w.heap.size w w'→w'.heap[w.heap.size]?=some (.cells #[.slice a len cap,.int .i64 0,.int .u64 m,.int .i64 z] 107 (0,0))→Src w' w.heap.size a len cap:=fun z w' hb hh'=>by
    refine⟨⟨0,m,z,by omega,hh'⟩,HB.out.below hb,hsm,?_⟩
    rcases Nat.lt_or_ge w.heap.size w'.heap.size with h|h
    ·exact h
    ·rw[Array.getElem?_eq_none h] at hh';cases hh'
   have FIN:=hid fin
   have hs1:∀ z:Int,(wr.setCell ⟨w.heap.size,3,none⟩ (.int .i64 z)).heap[w.heap.size]?=some (.cells #[.slice a len cap,.int .i64 0,.int .u64 m,.int .i64 z] 107 (0,0)):=fun z=>by
    rw[heap_setCell_same wr w.heap.size 3 _ _ (.int .i64 z) HH.out];simp
   have hs2:∀ y z:Int,((wr.setCell ⟨w.heap.size,3,none⟩ (.int .i64 y)).setCell ⟨w.heap.size,3,none⟩ (.int .i64 z)).heap[w.heap.size]?=some (.cells #[.slice a len cap,.int .i64 0,.int .u64 m,.int .i64 z] 107 (0,0)):=fun y z=>by
    rw[heap_setCell_same _ w.heap.size 3 _ _ (.int .i64 z) (hs1 y)];simp
   have HS1:=hid hs1
   have HS2:=hid hs2
   clear fin hs1 hs2 hlt
   by_cases hbig:12<(len:Int) / 20
   ·rcases hcase with rfl|⟨hl,hk'⟩
    ·omega
    ·have hge:(64:Int)≤(k:Int):=by omega
     have hli:(k:Int)<(len:Int):=by omega
     clear hk'
     go_wp2_with fail
     go_ret
     exact⟨rfl,FIN.out _ _ ((HBL.out.setCell (Nat.le_refl _) _).setCell (Nat.le_refl _) _) (HS2.out _ _),(HBL.out.setCell (Nat.le_refl _) _).setCell (Nat.le_refl _) _⟩
   ·have hsmall:(len:Int) / 20≤12:=by omega
    clear hbig
    rcases hcase with rfl|⟨hl,hk'⟩
    ·go_wp2_with fail
     go_ret
     exact⟨rfl,FIN.out _ _ (HBL.out.setCell (Nat.le_refl _) _) (HS1.out _),HBL.out.setCell (Nat.le_refl _) _⟩
    ·have hge:(64:Int)≤(k:Int):=by omega
     have hli:(k:Int)<(len:Int):=by omega
     clear hk'
     go_wp2_with fail
     go_ret
     exact⟨rfl,FIN.out _ _ (HBL.out.setCell (Nat.le_refl _) _) (HS1.out _),HBL.out.setCell (Nat.le_refl _) _⟩
theorem src_one(w:World)(p len cap:Nat)(a:Option Addr)(h:Src w p a len cap)(of:Int)(hm:of≤9223372036854775807) :
  Calls Tryz.prog 67 #[.pointer (some ⟨p,0,none⟩),.int .i64 of] w fun e w'=>(∃ b,e=.returned (.bool b))∧Src w' p a len cap∧Only p w w':=by
 have HS:=hid h
 clear h
 go_enter Tryz.func67,Tryz.ntmps67
 go_wp2_with (go_at_call 36;refine(src_n _ p len cap a HS.out of hm).mono ?_;rintro e w1 ⟨⟨r,rfl,hr0,hr1⟩,hs1,ho1⟩)
 go_ret
 exact⟨⟨_,rfl⟩,hs1,ho1⟩
end Go.Proofs.YtmembhpoidcmlaaGreatDoor.Draws
namespace Go.Proofs.YtmembhpoidcmlaaGreatDoor.Draws
open Lib (hid)
open Go.RowKit Texts Bytes Rw Words
set_option linter.unusedVariables false
set_option maxRecDepth 100000
set_option maxHeartbeats 2000000 in
theorem src_pick(w:World)(p len cap:Nat)(a:Option Addr)(h:Src w p a len cap)(g:Nat)(L:List ByteArray)(hg:w.heap[g]?=some (.cells (L.map Value.string).toArray 9 (0,0)))(hgp:g≠p)(h1:1≤L.length)(h2:L.length≤100) :
  Calls Tryz.prog 38 #[.pointer (some ⟨p,0,none⟩),.slice (some ⟨g,0,none⟩) L.length L.length] w fun e w'=>(∃ x,x∈L∧e=.returned (.string x))∧Src w' p a len cap∧Only p w w':=by
 have HS:=hid h
 have HG:=hid hg
 have hlt:g<w.heap.size:=by
  rcases Nat.lt_or_ge g w.heap.size with h|h
  ·exact h
  ·rw[Array.getElem?_eq_none h] at hg;cases hg
 clear h hg
 go_enter Tryz.func38,Tryz.ntmps38
 go_wp2_with fail
 refine(src_n _ p len cap a HS.out (L.length:Int) (by omega)).mono ?_
 rintro e w1 ⟨⟨r,rfl,hr0,hr1⟩,hs1,ho1⟩
 obtain ⟨m,rfl⟩:=Int.eq_ofNat_of_zero_le hr0
 have hm:m<L.length:=by omega
 have hmi:(m:Int)<(L.length:Int):=by omega
 have hc:w1.cell? ⟨g,m,none⟩=some (.string L[m]):=by
  rw[Rw.row_cell ((ho1.block g hlt hgp).trans HG.out) (k:=m) (by simpa using hm)];simp
 have hx:=hid (List.getElem_mem hm)
 have HS1:=hid hs1
 have HO1:=hid ho1
 generalize L[m]=x at hc hx
 generalize L.length=n at *
 clear hs1 ho1 hr1 hr0
 go_wp2_with fail
 go_ret
 exact⟨⟨x,hx.out,rfl⟩,HS1.out,HO1.out⟩
def IsThree(s:List TypeP):Prop:=s=three0∨s=three1∨s=three2
theorem three_out{t:ByteArray}(h:t∈[text0,text1,text2]):∃ s,IsThree s∧outS t=(s,0):=by
 have key:∀ (s:List TypeP) (t:ByteArray),schemaB s=true→schT s=t→t.size≤8000→t.size≠0→outS t=(s,0):=fun s t h1 h2 h3 h4=>by
  have e:=out_three h1 h2 h3 h4
  unfold outS
  rw[if_neg (by omega),e,if_pos ⟨h2,h4⟩]
 simp only[List.mem_cons,List.not_mem_nil,or_false] at h
 rcases h with rfl|rfl|rfl
 ·exact⟨three0,.inl rfl,key _ _ right0 print0 (by decide) (by decide)⟩
 ·exact⟨three1,.inr (.inl rfl),key _ _ right1 print1 (by decide) (by decide)⟩
 ·exact⟨three2,.inr (.inr rfl),key _ _ right2 print2 (by decide) (by decide)⟩
def MembersO(w:World)(B:Nat)(v:Value)(s:List TypeP):Prop:=∀ (i:Nat) (x:TypeP),s[i]?=some x→∃ gb cap c cc base,v=.agg #[.slice (some ⟨gb,0,none⟩) s.length cap]∧B≤gb∧B≤base ∧
 w.cell? ⟨gb,i * 5+4,none⟩=some (.slice c x.members.length cc)∧OwnTs w base (.slice c x.members.length cc) x.members
theorem field_so(a:Option Addr)(n c:Nat)(k:Int)(w:World):Sem.run Tryz.prog (Instr.field 39 (.agg #[.slice a n c,.int .i64 k]) 0) w=.ok (.agg #[.slice a n c]) w:=rfl
set_option maxHeartbeats 2000000 in
theorem src_schemaOf(w:World)(p len cap:Nat)(a:Option Addr)(h:Src w p a len cap) :
  Calls Tryz.prog 35 #[.pointer (some ⟨p,0,none⟩)] w fun e w'=>(∃ s v,IsThree s∧e=.returned v∧SchemaX w' w.heap.size w'.heap.size v s∧MembersO w' w.heap.size v s)∧Src w' p a len cap∧Only p w w':=by
 have hplt:=h.lt
 have HS:=hid h
 clear h
 go_enter Tryz.func35,Tryz.ntmps35
 go_wp2_with fail
 have e1:(w.alloc (.cells #[.slice none 0 0] 35)).heap.size=w.heap.size+1:=by simp
 have HA:=hid (((Below.refl w.heap.size w).alloc (Nat.le_refl _) (.cells #[.slice none 0 0] 35)).alloc (by simp) (.cells ([text0,text1,text2].map Value.string).toArray 9))
 have hg:((w.alloc (.cells #[.slice none 0 0] 35)).alloc (.cells ([text0,text1,text2].map Value.string).toArray 9)).heap[w.heap.size+1]?=some (.cells ([text0,text1,text2].map Value.string).toArray 9 (0,0)):=by
  rw[←e1];exact Go.Deep.blk_alloc_new _ _
 have h0:((w.alloc (.cells #[.slice none 0 0] 35)).alloc (.cells ([text0,text1,text2].map Value.string).toArray 9)).heap[w.heap.size]?=some (.cells #[.slice none 0 0] 35 (0,0)):=by
  rw[Go.Deep.blk_alloc_lt _ _ _ (by simp)];exact Go.Deep.blk_alloc_new _ _
 refine(src_pick _ p len cap a (HS.out.below hplt HA.out) (w.heap.size+1) [text0,text1,text2] hg (by omega) (by simp) (by simp)).mono ?_
 rintro e w1 ⟨⟨t,ht,rfl⟩,hs1,ho1⟩
 have hz1:w.heap.size+1<w1.heap.size:=by have:=ho1.size;simp at this;omega
 have hk1:w1.heap[w.heap.size]?=some (.cells #[.slice none 0 0] 35 (0,0)):=(ho1.block _ (by simp;omega) (by omega)).trans h0
 obtain ⟨s,h3,hout⟩:=three_out ht
 have hsz:t.size≤8000:=by
  simp only[List.mem_cons,List.not_mem_nil,or_false] at ht
  rcases ht with rfl|rfl|rfl <;> decide
 have HO1:Hid (Only p w w1):=hid (((Only.refl p w).of_below (Nat.le_refl _) HA.out).trans ho1)
 have HS1:=hid hs1
 have HK1:=hid hk1
 have H3:=hid h3
 have HOUT:=hid hout
 have CR:=hid fun w=>specSchemaReadM t (by unfold OkS;omega) w
 have hp1:p<w1.heap.size:=hs1.lt
 clear hs1 ho1 hk1 h3 hout hg h0 e1 HA HS ht hsz
 go_wp2_with fail
 refine(CR.out _).mono ?_
 rintro e w2 ⟨⟨⟨sa,ca,rfl,hca,hx⟩,hm⟩,hb2⟩
 rw[HOUT.out] at hca hx
 have HM:Hid (MembersO w2 w1.heap.size (.agg #[.slice sa s.length ca]) s):=hid (fun i x hi=>by
  obtain ⟨gb,cap',c,cc,base,e1,e2,e3,e4,e5⟩:=hm i x (by rw[HOUT.out];exact hi)
  rw[HOUT.out] at e1
  have e6:Value.agg #[.slice sa s.length ca]=.agg #[.slice (some ⟨gb,0,none⟩) s.length cap']:=by
   have:=Ending.returned.inj e1
   simp at this ⊢
   exact this
  exact⟨gb,cap',c,cc,base,e6,e2,e3,e4,e5⟩)
 have hz2:w1.heap.size≤w2.heap.size:=hb2.size
 have hk2:=(hb2.block w.heap.size (by omega)).trans HK1.out
 have ⟨k0,f0⟩:=keep1 hk2
 have HK2:=hid hk2
 have HS2:Hid (Src w2 p a len cap):=hid (HS1.out.below hp1 hb2)
 have HO2:Hid (Only p w w2):=hid (HO1.out.of_below (by omega) hb2)
 have HX:=hid (show TypesX w2 w1.heap.size w2.heap.size sa s.length s from hx)
 have HC:=hid (show s.length≤ca from hca)
 rw[HOUT.out]
 clear hb2 hk2 hx hca hm CR
 dsimp only
 obtain ⟨n,hn⟩:∃ n,s.length=n:=⟨_,rfl⟩
 rw[hn] at HM HX HC ⊢
 have HN:=hid hn
 clear hn
 go_wp2_with fail
 rw[field_so]
 go_wp2_with fail
 have hkW:=heap_setCell_same w2 w.heap.size 0 _ _ (.slice sa n ca) HK2.out
 have hBW:Below w.heap.size w2 (w2.setCell ⟨w.heap.size,0,none⟩ (.slice sa n ca)):=(Below.refl w.heap.size w2).setCell (Nat.le_refl _) _
 have hoth:∀ c,c≠w.heap.size→(w2.setCell ⟨w.heap.size,0,none⟩ (.slice sa n ca)).heap[c]?=w2.heap[c]?:=fun c hc=>Go.Deep.blk_setCell_other _ ⟨w.heap.size,0,none⟩ _ _ hc
 have HSF:Hid (Src (w2.setCell ⟨w.heap.size,0,none⟩ (.slice sa n ca)) p a len cap):=hid (HS2.out.below hplt hBW)
 have HOF:Hid (Only p w (w2.setCell ⟨w.heap.size,0,none⟩ (.slice sa n ca))):=hid (HO2.out.of_below (Nat.le_refl _) hBW)
 have HXF:Hid (TypesX (w2.setCell ⟨w.heap.size,0,none⟩ (.slice sa n ca)) w.heap.size (w2.setCell ⟨w.heap.size,0,none⟩ (.slice sa n ca)).heap.size sa n s):=hid ((HX.out.block typeLiesX fun c c1 _=>hoth c (by omega)).wide (by omega) (by simp))
 have HMF:Hid (MembersO (w2.setCell ⟨w.heap.size,0,none⟩ (.slice sa n ca)) w.heap.size (.agg #[.slice sa n ca]) s):=hid (fun i x hi=>by
  obtain ⟨gb,cap',c,cc,base,e1,e2,e3,e4,e5⟩:=HM.out i x hi
  exact⟨gb,cap',c,cc,base,e1,by omega,by omega,(World.cell?_of_block (w:=w2) (hoth gb (by omega))).trans e4,OwnTs.frame e5 fun q q1 _=>hoth q (by omega)⟩)
 clear hBW hoth
 generalize w2.setCell ⟨w.heap.size,0,none⟩ (.slice sa n ca)=wf at *
 have ⟨x0,_⟩:=keep1 hkW
 exact bodyPost_ret (v:=.agg #[.slice sa n ca]) (by simp[results,Tryz.results35,go_sem,x0]) rfl ⟨⟨s,_,H3.out,rfl,⟨sa,ca,by rw[HN.out],by rw[HN.out];exact HXF.out,by rw[HN.out];exact HC.out⟩,HMF.out⟩,HSF.out,HOF.out⟩
end Go.Proofs.YtmembhpoidcmlaaGreatDoor.Draws
