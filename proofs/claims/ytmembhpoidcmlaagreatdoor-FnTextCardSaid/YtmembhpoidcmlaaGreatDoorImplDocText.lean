/-
  Contracts: strings.Join of words, impl.DocText: the text of a right Doc, else the empty text; of what was there nothing is changed. Conditions: in memory; the library's table of powers of ten reads as the program lays it.
-/
import Derived.Test.YtmembhpoidcmlaaGreatDoorRows
import Derived.Test.YtmembhpoidcmlaaGreatDoorSplitP
import Derived.Deep.AppendLies
import Derived.Test.YtmembhpoidcmlaaGreatDoorToks
import Derived.Test.YtmembhpoidcmlaaGreatDoorFieldWord
import Derived.Test.YtmembhpoidcmlaaGreatDoorImplDoc
namespace Go.Proofs.YtmembhpoidcmlaaGreatDoor.Splits
open Go.RowKit Texts Bytes
set_option linter.unusedVariables false
set_option maxRecDepth 100000
structure Made(v v':Value)(w w':World):Prop where
 grown:w.grownBy w' v.ownBlock
 own:∀ g,v'.ownBlock=some g→v.ownBlock=some g∨w.heap.size≤g
theorem Made.refl(v:Value)(w:World):Made v v w w:=⟨⟨rfl,rfl,rfl,Nat.le_refl _,fun _ _ _=>rfl⟩,fun _ h=>.inl h⟩
theorem Made.trans{v v1 v2:Value}{w w1 w2:World}(h:Made v v1 w w1)(g:Made v1 v2 w1 w2):Made v v2 w w2 :=
 ⟨⟨g.grown.os.trans h.grown.os,g.grown.tape.trans h.grown.tape,g.grown.output.trans h.grown.output,Nat.le_trans h.grown.size g.grown.size,fun k hk hn=>(g.grown.block k (Nat.lt_of_lt_of_le hk h.grown.size) (fun e=>by
   rcases h.own k e.symm with e2|e2
   ·exact hn e2.symm
   ·omega)).trans (h.grown.block k hk hn)⟩,fun b hb=>by
   rcases g.own b hb with e|e
   ·exact h.own b e
   ·exact .inr (Nat.le_trans h.grown.size e)⟩
theorem Made.of_below{v:Value}{w w':World}(g:Below w.heap.size w w'):Made v v w w' :=
 ⟨⟨g.os,g.tape,g.output,g.size,fun k hk _=>g.block k hk⟩,fun _ h=>.inl h⟩
theorem Made.below{v v':Value}{w w1 w2:World}(h:Made v v' w w1)(g:Below w1.heap.size w1 w2):Made v v' w w2:=h.trans (Made.of_below g)
theorem Made.toBelow{v v':Value}{w w':World}{base:Nat}(h:Made v v' w w')(hv:∀ g,v.ownBlock=some g→base≤g)(hb:base≤w.heap.size):Below base w w' :=
 ⟨h.grown.os,h.grown.tape,h.grown.output,h.grown.size,fun k hk=>h.grown.block k (by omega) (fun e=>by have:=hv k e.symm;omega)⟩
theorem Made.cell{v v':Value}{w w':World}(h:Made v v' w w'){p:Addr}(hp:p.block<w.heap.size)(hne:∀ g,v.ownBlock=some g→g≠p.block):w'.cell? p=w.cell? p :=
 World.cell?_of_block (w:=w) (h.grown.block p.block hp (fun e=>hne _ e.symm rfl))
theorem OwnS.base{w:World}{base:Nat}{v:Value}{l:List (List UInt8)}(h:OwnS w base v l):∀ g,v.ownBlock=some g→base≤g∧g<w.heap.size:=fun g hg=>World.ownsRow.lt h g hg
theorem OwnS.below{w w':World}{base:Nat}{v:Value}{l:List (List UInt8)}(h:OwnS w base v l)(g:Below w.heap.size w w'):OwnS w' base v l :=
 World.ownsRow.kept h (row:=none) ⟨g.os,g.tape,g.output,g.size,fun k hk _=>g.block k hk⟩ (by cases v.ownBlock <;> simp)
theorem OwnS.none_(w:World)(base:Nat):OwnS w base (.slice none 0 0) []:=World.ownsRow_nil w base _ _
theorem app_strs{w:World}{ops:Array Oper}{rest:List Oper}{o:Oper}{a:Act}{Q:Exit→Act→World→Prop}(hgd:o.guard=none)(s x:Operand)
  (ho:o.op=.call { callee:=.builtin .append,args:=#[s,x],argTypes:=#[48,48] })
  (base:Nat) (v:Value) (l:List (List UInt8)) (hs:a.eval s=v) (hown:OwnS w base v l)
  (B c:Nat) (ns:List (List UInt8)) (hx:a.eval x=.slice (some ⟨B,0,none⟩) ns.length c) (hc:∀ j y,ns[j]?=some y→w.cell? ⟨B,j,none⟩=some (strV y)) (hpos:0<ns.length)
  (hsize:l.length+ns.length≤2097152) (hbase:base≤w.heap.size)
  (h:∀ v' w',OwnS w' base v' (l++ns)→Made v v' w w'→wpList Tryz.prog ops Q rest (a.put o.dst v') w'):wpList Tryz.prog ops Q (o::rest) a w:=by
 obtain ⟨i0,hi,hz0,hz1,hz2⟩:=info_parts infoS
 refine wpList_append_lies w hgd s x 48 ho base 9 i0 (.string ⟨#[]⟩) 1 16 Tryz.underlying48 hi hz0 hz1 hz2 rfl (by decide) v l.length (l.map strV) hs hown ⟨B,0,none⟩ ns.length c (ns.map strV) hx (by simp) ?_ ?_ hpos (by unfold maxLen;omega) (by omega) hbase _ rfl ?_
 ·intro j u hj
  rw[List.getElem?_map] at hj
  obtain ⟨y,hy,rfl⟩:=Option.map_eq_some_iff.1 hj
  have e:(⟨B,0,none⟩:Addr).add j=⟨B,j,none⟩:=by unfold Addr.add;split <;> simp_all
  rw[e];exact hc j y hy
 ·intro u hu
  obtain ⟨y,_,rfl⟩:=List.mem_map.1 hu
  rfl
 ·intro g cap w' hown' hgrow hat hlt
  refine h _ w' ?_ ⟨hgrow,fun g' hg'=>?_⟩
  ·unfold OwnS
   rw[List.map_append,List.length_append];exact hown'
  ·have e:g'=g:=by simpa [Value.ownBlock] using hg'.symm
   subst e
   rcases hat with hat|hat
   ·exact .inl hat
   ·exact .inr (by omega)
end Go.Proofs.YtmembhpoidcmlaaGreatDoor.Splits
namespace Go.Proofs.YtmembhpoidcmlaaGreatDoor.Selss
open Lib (hid)
open Go.RowKit Words Decs Splits
set_option linter.unusedVariables false
set_option maxRecDepth 100000
theorem strV_bl(s:ByteArray):strV (bl s)=.string s:=by simp[strV,bl]
theorem new_cells(w:World)(cs:Array Value)(T:TypeId)(ns:List Tok)(e:ns.map strV=cs.toList)(g:Nat)(hg:g=w.heap.size):∀ j y,ns[j]?=some y→(w.alloc (.cells cs T)).cell? ⟨g,j,none⟩=some (strV y):=fun j y hy=>by
 subst hg
 have h1:cs.toList[j]?=some (strV y):=by rw[←e,List.getElem?_map,hy];rfl
 have h2:cs[j]?=some (strV y):=by rw[←h1];simp
 unfold World.cell?
 rw[heap_alloc_new]
 exact h2
def selToks(k:Int)(key nm:ByteArray)(f:Int)(u:Sels):List Tok :=
 if k=3 then [[46,46,46]++bl nm] else (if k=2 then [[46,46,46,111,110],bl nm] else [bl (fieldT key nm f)])++(if u.len=0 then [] else [123]::(u.toks++[[125]]))
theorem toks_step{i:Nat}{s:Sels}{k:Int}{key nm:ByteArray}{f:Int}{u r:Sels}(h:s.drop i=.cons k key nm f u r):(s.drop i).toks=selToks k key nm f u++(s.drop (i+1)).toks:=by
 rw[Sels.drop_succ i s h,h];rfl
theorem selToks_len'(k:Int)(key nm:ByteArray)(f:Int)(u:Sels)(h:u.toks.length≤4 * u.all):(selToks k key nm f u).length≤4 * u.all+4:=by
 unfold selToks
 split
 ·simp
 ·split <;> split <;> simp <;> omega
theorem toks_len:∀ s:Sels,s.toks.length≤4 * s.all
 | .nil=>Nat.zero_le _
 | .cons k key nm f u r=>by
  have hu:=toks_len u
  have hr:=toks_len r
  simp only[Sels.toks,Sels.all,List.length_append]
  split
  ·simp;omega
  ·split <;> split <;> simp <;> omega
def BlockIs(base A B:Nat)(a:Option Addr)(cap:Nat)(u:Sels):Prop :=
 ∀ (w:World) (v:Value) (ws:List Tok),SelsAt w A B a u.len u→base≤w.heap.size→Pow base w→OwnS w base v ws→ws.length+4 * u.all+2≤1000000 →
  Calls Tryz.prog 31 #[v,.slice a u.len cap] w fun e w'=>(∃ v',e=.returned v'∧OwnS w' base v' (ws++[123]::(u.toks++[[125]]))∧Made v v' w w')
set_option maxHeartbeats 4000000 in
theorem implAddSel(w:World)(base A B:Nat)(hBb:B≤base)(hb:base≤w.heap.size)(hp:Pow base w)(v:Value)(ws:List Tok)(hown:OwnS w base v ws)
  (k:Int) (key nm:ByteArray) (f:Int) (a:Option Addr) (cap:Nat) (u:Sels) (hs:SelsAt w A B a u.len u) (hok:OkI k∧OkS key∧OkS nm∧OkI f) (hone:oneB k key nm f u.len=true) (hws:ws.length+4 * u.all+4≤1000000) (ih:BlockIs base A B a cap u) :
  Calls Tryz.prog 62 #[v,.agg #[.int .i64 k,.string key,.string nm,.int .i64 f,.slice a u.len cap]] w fun e w'=>(∃ v',e=.returned v'∧OwnS w' base v' (ws++selToks k key nm f u)∧Made v v' w w'):=by
 have hul:=hs.2.1
 have HA:Hid (∀ o,Below w.heap.size w (w.alloc o)):=hid fun o=>(Below.refl _ _).alloc (Nat.le_refl _) o
 have IH:=hid ih
 have HS:=hid hs
 have HP:=hid hp
 have HO:=hid hown
 have hbase:=hid hown.base
 have hf:=hok.2.2.2
 clear ih hs hp hown hok
 rcases oneB_cases hone with ⟨rfl,h1,h2,h3,h4⟩|⟨rfl,h2,h3⟩|⟨rfl,h2,h3⟩
 ·clear hone
  have CF:Hid (∀ w':World,Below w.heap.size w w'→Calls Tryz.prog 85 #[.agg #[.int .i64 1,.string key,.string nm,.int .i64 f,.slice a u.len cap]] w' fun e w''=>e=.returned (.string (fieldT key nm f))∧Below w'.heap.size w' w'') :=
   hid fun w' h=>implFieldWord w' 1 key nm f a u.len cap (by omega) (by omega) hf base (HP.out.over hb h) (Nat.le_trans hb h.size)
  have hsel:Hid (selToks 1 key nm f u=[bl (fieldT key nm f)]++(if u.len=0 then [] else [123]::(u.toks++[[125]]))):=hid rfl
  generalize fieldT key nm f=ft at *
  go_enter Tryz.func62,Tryz.ntmps62
  go_wp2_with fail
  refine(CF.out _ (HA.out _)).mono ?_
  rintro e w1 ⟨rfl,hb1⟩
  have HB1:=hid ((HA.out _).trans (hb1.mono (HA.out _).size))
  have k4:=hb1.cell (p:=⟨w.heap.size,4,none⟩) (by simp)
  simp at k4
  have z1:w.heap.size<w1.heap.size:=by have:=hb1.size;simp at this;omega
  have HO1:=hid (HO.out.below HB1.out)
  clear hb1 CF
  have HK:Hid (∀ (o:Obj) (v':Value) (w':World),Made v v' (w1.alloc o) w'→w'.cell? ⟨w.heap.size,4,none⟩=some (.slice a u.len cap)):=hid fun o v' w' h =>
   (h.cell (p:=⟨w.heap.size,4,none⟩) (by simp;omega) (fun g hg=>by have:=(hbase.out g hg).2;show g≠w.heap.size;omega)).trans ((((Below.refl _ w1).alloc (Nat.le_refl _) o).cell (p:=⟨w.heap.size,4,none⟩) z1).trans k4)
  have HM:Hid (∀ (o:Obj) (v':Value) (w':World),Made v v' (w1.alloc o) w'→Made v v' w w'):=hid fun o v' w' h =>
   ((Made.of_below HB1.out).trans (Made.of_below ((Below.refl _ w1).alloc (Nat.le_refl _) o))).trans h
  by_cases hz:u.len=0
  ·have hzi:(u.len:Int)=0:=by omega
   have hzb:((u.len:Int) == 0)=true:=by rw[hzi];rfl
   have hf2:=hid (show ws++[bl ft]=ws++selToks 1 key nm f u by rw[hsel.out,if_pos hz];simp)
   clear hz
   go_wp2_with (at_builtin;refine app_strs rfl _ _ rfl base v ws rfl (HO1.out.alloc _) w1.heap.size 1 [bl ft] rfl (new_cells _ _ _ _ (by simp[strV_bl]) _ rfl) (by simp) (by simp;omega) (by simp;omega) ?_;intro v2 w2 hown2 hm2;have k42:=HK.out _ _ _ hm2)
   go_ret
   exact⟨v2,rfl,by rw[←hf2.out];exact hown2,HM.out _ _ _ hm2⟩
  ·have hzi:0<(u.len:Int):=by omega
   have hzb:((u.len:Int) == 0)=false:=by rw[beq_eq_false_iff_ne];omega
   have hf2:=hid (show (ws++[bl ft])++[123]::(u.toks++[[125]])=ws++selToks 1 key nm f u by rw[hsel.out,if_neg hz];simp)
   clear hz
   go_wp2_with (at_builtin;refine app_strs rfl _ _ rfl base v ws rfl (HO1.out.alloc _) w1.heap.size 1 [bl ft] rfl (new_cells _ _ _ _ (by simp[strV_bl]) _ rfl) (by simp) (by simp;omega) (by simp;omega) ?_;intro v2 w2 hown2 hm2;have k42:=HK.out _ _ _ hm2)
   have hm:=HM.out _ _ _ hm2
   have hB2:=hm.toBelow (base:=base) (fun g hg=>(hbase.out g hg).1) hb
   refine(IH.out w2 v2 _ (HS.out.below hBb hB2) (Nat.le_trans hb hB2.size) (HP.out.on hB2) hown2 (by simp;omega)).mono ?_
   rintro e w3 ⟨v3,rfl,hown3,hm3⟩
   have HM3:=hid (hm.trans hm3)
   have HO3:=hid hown3
   clear hown3 hm3 hm hm2 hown2 hB2 k42 k4
   go_wp2_with fail
   go_ret
   exact⟨v3,rfl,by rw[←hf2.out];exact HO3.out,HM3.out⟩
 ·clear hone
  have hsel:Hid (selToks 2 key nm f u=[[46,46,46,111,110],bl nm]++(if u.len=0 then [] else [123]::(u.toks++[[125]]))):=hid rfl
  have HM:Hid (∀ (o o2:Obj) (v':Value) (w':World),Made v v' ((w.alloc o).alloc o2) w'→Made v v' w w'):=hid fun o o2 v' w' h =>
   (Made.of_below (((Below.refl _ w).alloc (Nat.le_refl _) o).alloc (by simp) o2)).trans h
  have HK:Hid (∀ (cs:Array Value) (T:TypeId) (o2:Obj) (v':Value) (w':World),cs[4]?=some (.slice a u.len cap)→Made v v' ((w.alloc (.cells cs T)).alloc o2) w'→w'.cell? ⟨w.heap.size,4,none⟩=some (.slice a u.len cap)):=hid fun cs T o2 v' w' hc h =>
   (h.cell (p:=⟨w.heap.size,4,none⟩) (by simp;omega) (fun g hg=>by have:=(hbase.out g hg).2;show g≠w.heap.size;omega)).trans ((((Below.refl _ (w.alloc (.cells cs T))).alloc (Nat.le_refl _) o2).cell (p:=⟨w.heap.size,4,none⟩) (by simp)).trans (by unfold World.cell?;rw[heap_alloc_new];exact hc))
  have hzi:0<(u.len:Int):=by omega
  have hzb:((u.len:Int) == 0)=false:=by rw[beq_eq_false_iff_ne];omega
  have hf2:=hid (show (ws++[[46,46,46,111,110],bl nm])++[123]::(u.toks++[[125]])=ws++selToks 2 key nm f u by rw[hsel.out,if_neg (by omega)];simp)
  go_enter Tryz.func62,Tryz.ntmps62
  go_wp2_with (at_builtin;refine app_strs rfl _ _ rfl base v ws rfl ((HO.out.alloc _).alloc _) (w.heap.size+1) 2 [[46,46,46,111,110],bl nm] rfl (new_cells _ _ _ _ (by rw[List.map_cons,List.map_cons,strV_bl];rfl) _ (by simp)) (by simp) (by simp;omega) (by simp;omega) ?_;intro v2 w2 hown2 hm2;have k42:=HK.out _ _ _ _ _ rfl hm2)
  have hm:=HM.out _ _ _ _ hm2
  have hB2:=hm.toBelow (base:=base) (fun g hg=>(hbase.out g hg).1) hb
  refine(IH.out w2 v2 _ (HS.out.below hBb hB2) (Nat.le_trans hb hB2.size) (HP.out.on hB2) hown2 (by simp;omega)).mono ?_
  rintro e w3 ⟨v3,rfl,hown3,hm3⟩
  have HM3:=hid (hm.trans hm3)
  have HO3:=hid hown3
  clear hown3 hm3 hm hm2 hown2 hB2 k42
  go_wp2_with fail
  go_ret
  exact⟨v3,rfl,by rw[←hf2.out];exact HO3.out,HM3.out⟩
 ·clear hone
  have hsel:Hid (selToks 3 key nm f u=[[46,46,46]++bl nm]):=hid rfl
  have HM:Hid (∀ (o o2:Obj) (v':Value) (w':World),Made v v' ((w.alloc o).alloc o2) w'→Made v v' w w'):=hid fun o o2 v' w' h =>
   (Made.of_below (((Below.refl _ w).alloc (Nat.le_refl _) o).alloc (by simp) o2)).trans h
  have hst:strV ([46,46,46]++bl nm)=.string ((⟨#[46,46,46]⟩:ByteArray)++nm):=by
   rw[←strV_bl,bl_append];rfl
  go_enter Tryz.func62,Tryz.ntmps62
  go_wp2_with (at_builtin;refine app_strs rfl _ _ rfl base v ws rfl ((HO.out.alloc _).alloc _) (w.heap.size+1) 1 [[46,46,46]++bl nm] rfl (new_cells _ _ _ _ (by rw[List.map_cons,hst];rfl) _ (by simp)) (by simp) (by simp;omega) (by simp;omega) ?_;intro v2 w2 hown2 hm2)
  go_ret
  exact⟨v2,rfl,by rw[hsel.out];exact hown2,HM.out _ _ _ _ hm2⟩
set_option maxHeartbeats 4000000 in
theorem implAddBlock:∀(n:Nat)(u:Sels),u.all<n→∀ (deep:Int),selsB u deep=true→∀ (base A B:Nat),B≤base→∀ (a:Option Addr) (cap:Nat),BlockIs base A B a cap u:=by
 intro n
 induction n with
 | zero=>intro s h;omega
 | succ n ih =>
  intro s hall deep hsel base A B hBb a cap w v ws hs hb hp hown hws
  have hlen:=hs.2.1
  have IH:=hid ih
  have HS:=hid hs
  have HSEL:=hid hsel
  have HP:=hid hp
  have HO:=hid hown
  have hbase:=hid hown.base
  have hsa:=hid (Sels.len_le_all s)
  clear ih hs hsel hp hown
  have HM:Hid (∀ (o:Obj) (v':Value) (w':World),Made v v' (w.alloc o) w'→Made v v' w w'):=hid fun o v' w' h =>
   (Made.of_below ((Below.refl _ w).alloc (Nat.le_refl _) o)).trans h
  go_enter Tryz.func31,Tryz.ntmps31
  go_wp2_with (at_builtin;refine app_strs rfl _ _ rfl base v ws rfl (HO.out.alloc _) w.heap.size 1 [[123]] rfl (new_cells _ _ _ _ (by simp[strV]) _ rfl) (by simp) (by simp;omega) (by simp;omega) ?_;intro v2 w2 hown2 hm2)
  have HM2:=hid (HM.out _ _ _ hm2)
  have HO2:=hid hown2
  clear hm2 hown2
  go_loopw [0,12] (fun x i wr=>∃ (i':Nat) (pre:List Tok),i'≤s.len∧i=.int .i64 i'∧Hid (pre++(s.drop i').toks=ws++[123]::s.toks)∧Hid (pre.length+4 * (s.drop i').all≤ws.length+1+4 * s.all)∧OwnS wr base x pre∧Made v x w wr) (fun _ i _=>s.len - (intOf i).toNat)
  case atStart=>exact⟨0,ws++[[123]],by omega,rfl,hid (by rw[Sels.drop_zero];simp),hid (by rw[Sels.drop_zero];simp),HO2.out,HM2.out⟩
  case round =>
   obtain ⟨i,pre,hi,rfl,hpre,hlp,hown,hmade⟩:=hrel
   have HMR:=hid hmade
   have HOR:=hid hown
   have HBR:=hid (hmade.toBelow (base:=base) (fun g hg=>(hbase.out g hg).1) hb)
   clear hmade hown
   by_cases hlt:i<s.len
   ·have hli:(i:Int)<(s.len:Int):=by omega
    obtain ⟨k,key,nm,f,u,r,b,off,a',cap',hd,rfl,hbb,hok,⟨hc0,hc1,hc2,hc3,hc4⟩,hu⟩:=(HS.out.below hBb HBR.out).at hlt
    have hua:u.all<n:=by have:=Sels.all_drop hd;omega
    have hst:=hid (Sels.all_step hd)
    have hts:=hid (toks_step hd)
    have hsd:=selsB_drop HSEL.out i
    rw[hd] at hsd
    unfold selsB at hsd
    simp only[Bool.and_eq_true] at hsd
    have HU:=hid hu
    have ihu:=hid (IH.out u hua _ hsd.1.2 base A B hBb a' cap')
    have CA:Hid (∀ w':World,Below wr.heap.size wr w'→Calls Tryz.prog 62 #[u0,.agg #[.int .i64 k,.string key,.string nm,.int .i64 f,.slice a' u.len cap']] w' fun e w''=>(∃ v',e=.returned v'∧OwnS w'' base v' (pre++selToks k key nm f u)∧Made u0 v' w' w'')) :=
     hid fun w' h=>implAddSel w' base A B hBb (Nat.le_trans (Nat.le_trans hb HBR.out.size) h.size) ((HP.out.on HBR.out).over (Nat.le_trans hb HBR.out.size) h) u0 pre (HOR.out.below h) k key nm f a' cap' u (HU.out.below (Nat.le_trans hBb (Nat.le_trans hb HBR.out.size)) h) hok hsd.1.1.1 (by have e1:=hlp.out;have e2:=hst.out;omega) ihu.out
    have HMX:Hid (∀ (o:Obj) (v':Value) (w':World),Made u0 v' (wr.alloc o) w'→Made v v' w w'):=hid fun o v' w' h =>
     HMR.out.trans ((Made.of_below ((Below.refl _ wr).alloc (Nat.le_refl _) o)).trans h)
    have HAX:Hid (∀ o,Below wr.heap.size wr (wr.alloc o)):=hid fun o=>(Below.refl _ _).alloc (Nat.le_refl _) o
    have hslen:=hid (selToks_len' k key nm f u (toks_len u))
    have hrel1:Hid ((pre++selToks k key nm f u)++(s.drop (i+1)).toks=ws++[123]::s.toks):=hid (by rw[←hpre.out,hts.out];simp)
    have hrel2:Hid ((pre++selToks k key nm f u).length+4 * (s.drop (i+1)).all≤ws.length+1+4 * s.all):=hid (by
     have e1:=hlp.out;have e2:=hst.out;have e3:=hslen.out;rw[List.length_append];omega)
    clear hlt hd hu hok hsd
    go_wp2_with fail
    refine(CA.out _ (HAX.out _)).mono ?_
    rintro e w3 ⟨v3,rfl,hown3,hm3⟩
    have HM3:=hid (HMX.out _ _ _ hm3)
    have HO3:=hid hown3
    clear hown3 hm3
    go_wp2_with fail
    go_roundw
    case rel=>exact⟨i+1,_,by omega,by go_num,hrel1,hrel2,HO3.out,HM3.out⟩
    case measure=>simp[intOf];omega
   ·obtain rfl:i=s.len:=by omega
    have hfin:Hid (pre=ws++[123]::s.toks):=hid (by
     have e1:=hpre.out;rw[Sels.drop_end (Nat.le_refl _)] at e1;simpa [Sels.toks] using e1)
    have hplen:pre.length≤1000000:=by have e1:=hlp.out;omega
    have HMX:Hid (∀ (o:Obj) (v':Value) (w':World),Made u0 v' (wr.alloc o) w'→Made v v' w w'):=hid fun o v' w' h =>
     HMR.out.trans ((Made.of_below ((Below.refl _ wr).alloc (Nat.le_refl _) o)).trans h)
    have hbr:=Nat.le_trans hb HBR.out.size
    clear hlt
    go_wp2_with (at_builtin;refine app_strs rfl _ _ rfl base u0 pre rfl (HOR.out.alloc _) wr.heap.size 1 [[125]] rfl (new_cells _ _ _ _ (by simp[strV]) _ rfl) (by simp) (by simp;omega) (by simp;omega) ?_;intro v4 w4 hown4 hm4)
    go_ret
    exact⟨v4,rfl,by rw[show ws++[123]::(s.toks++[[125]])=pre++[[125]] by rw[hfin.out];simp];exact hown4,HMX.out _ _ _ hm4⟩
theorem join_flat:∀(r:List Tok)(x:Tok),Lib.join (x::r) [32]++[32]=flat (x::r)
 | [],x=>by simp[Lib.join_one,flat]
 | y::r,x=>by
  have ih:=join_flat r y
  rw[Lib.join_cons] at ih ⊢
  rw[flat,←ih]
  simp[Lib.joinTail]
theorem join_docToks{d:DocP}(h:docB d=true):Lib.join (docToks d) [32]=bl (docT d):=by
 have e:=docT_flat h
 have h2:docToks d=[123]::(d.sels.toks++[[125]]++fragsToks d.frags):=rfl
 have h3:=join_flat (d.sels.toks++[[125]]++fragsToks d.frags) [123]
 rw[←h2,←e] at h3
 exact List.append_cancel_right h3
theorem fragsT_size:∀ l:List FragP,(∀ x∈l,(fragT x).size≤2500)→(fragsT l).size≤2500 * l.length
 | [],_=>Nat.zero_le _
 | x::l,h=>by
  have h1:=h x (by simp)
  have h2:=fragsT_size l (fun y hy=>h y (by simp[hy]))
  simp only[fragsT,ByteArray.size_append,List.length_cons];omega
theorem docT_size(d:DocP):(docT d).size≤20000:=by
 cases h:docB d
 ·rw[←docT_no h];simp
 ·obtain ⟨_,hfl,hall,hsel,hfr⟩:=docB_parts h
  have h1:=text_size hsel
  have h2:=fragsT_size d.frags (fun x hx=>by
   obtain ⟨i,hi⟩:=List.mem_iff_getElem?.1 hx
   have hfb:=fragsB_at hfr hi
   rw[Nat.zero_add] at hfb
   have:=fragAll_mem hi
   exact fragT_size hfb (by unfold DocP.all at hall;omega))
  rw[←docT_yes h,ByteArray.size_append]
  unfold DocP.all at hall
  omega
theorem joinWords(w:World)(base:Nat)(v:Value)(l:List Tok)(hown:OwnS w base v l)(hne:l≠[])(hl:l.length≤1000000)(hlen:(Lib.join l [32]).length≤140737488355328) :
  Calls Tryz.prog 32 #[v,.string ⟨#[32]⟩] w fun e w'=>e=.returned (.string ⟨(Lib.join l [32]).toArray⟩)∧Below w.heap.size w w':=by
 have em:(l.map (fun t=>(⟨t.toArray⟩:ByteArray))).map (·.data.toList)=l:=by
  rw[List.map_map]
  conv=>rhs;rw[←List.map_id l]
  exact List.map_congr_left fun t _=>by simp
 obtain ⟨a,cap,rfl,hs⟩:=OwnS.strs hown
 obtain ⟨_,hh⟩:=hs
 have hcap:l.length≤cap:=by
  obtain ⟨_,⟨h,hn⟩|⟨g,cap',cur,h,_,_,hc,_⟩⟩:=hown
  ·omega
  ·cases h;exact hc
 rcases hh with h|⟨b,off,rfl,hb,hb',hc⟩
 ·exact absurd h hne
 have key:=Tryz.strings_Join b off cap (l.map (fun t=>(⟨t.toArray⟩:ByteArray))) ⟨#[32]⟩ w (fun j x hj=>by
   rw[List.getElem?_map] at hj
   obtain ⟨y,hy,rfl⟩:=Option.map_eq_some_iff.1 hj
   exact hc j y hy) hb' (by rw[List.length_map];omega) (by rw[List.length_map];exact hcap) (by rw[em];exact hlen)
 rw[em,List.length_map] at key
 exact key
set_option maxHeartbeats 4000000 in
theorem implDocText(w:World)(A B:Nat)(v:Value)(d:DocP)(hs:DocAt w A B v d)(hB:B≤w.heap.size)(hp:Pow w.heap.size w) :
  Calls Tryz.prog 5 #[v] w fun e w'=>e=.returned (.string (docT d))∧Below w.heap.size w w':=by
 have CR:Hid (∀ w':World,Below w.heap.size w w'→Calls Tryz.prog 24 #[v] w' fun e w''=>e=.returned (.bool (docB d))∧Below w'.heap.size w' w''):=hid fun w' h=>implDocRight w' A B v d (hs.below hB h) (Nat.le_trans hB h.size)
 obtain ⟨a,ca,b,cb,rfl,hsd,hsf,_⟩:=hs
 have HA:Hid (∀ o,Below w.heap.size w (w.alloc o)):=hid fun o=>(Below.refl _ _).alloc (Nat.le_refl _) o
 obtain ⟨q,hb⟩:∃ q,docB d=q:=⟨_,rfl⟩
 rw[hb] at CR
 cases q
 ·have hf:=hid (docT_no hb)
  clear hb hsd hsf hp
  go_enter Tryz.func5,Tryz.ntmps5
  go_wp2_with fail
  refine(CR.out _ (HA.out _)).mono ?_
  rintro e w1 ⟨rfl,hb1⟩
  have HB1:=hid ((HA.out _).trans (hb1.mono (HA.out _).size))
  clear hb1
  go_wp2_with fail
  go_ret
  exact⟨ret_string hf.out,HB1.out⟩
 have hjoin:=hid (join_docToks hb)
 have hsize:=hid (docT_size d)
 obtain ⟨_,hfl,hall,hsel,hfr⟩:=docB_parts hb
 have hall2:d.sels.all≤60:=by unfold DocP.all at hall;omega
 have hall3:fragAll d.frags≤60:=by unfold DocP.all at hall;omega
 have HS:=hid hsd
 have HF:=hid hsf
 have HFR:=hid hfr
 have HP:=hid hp
 have CB:=hid (implAddBlock (d.sels.all+1) d.sels (Nat.lt_succ_self _) 6 hsel (w.heap.size+1) A B (by omega) a ca)
 have hlen:=hsf.2.1
 clear hb hsd hsf hsel hfr hp hall
 go_enter Tryz.func5,Tryz.ntmps5
 go_wp2_with fail
 refine(CR.out _ (HA.out _)).mono ?_
 rintro e w1 ⟨rfl,hb1⟩
 obtain ⟨B1,z1,k0,k1⟩:=kstep (HA.out _) (by simp) (by simp;rfl) (by simp;rfl) hb1
 have HB1:=hid B1
 have HPA:Hid (Pow (w.heap.size+1) w1):=hid ((HP.out.on HB1.out).mono (by omega))
 clear hb1 B1 CR
 go_wp2_with fail
 refine(CB.out w1 _ [] (HS.out.below hB HB1.out) z1 HPA.out (OwnS.none_ _ _) (by simp;omega)).mono ?_
 rintro e w2 ⟨v2,rfl,hown2,hm2⟩
 have hb2:=hm2.toBelow (base:=w.heap.size+1) (fun g hg=>by cases hg) z1
 have z2:w.heap.size<w2.heap.size:=Nat.lt_of_lt_of_le z1 hb2.size
 have j1:=(hb2.cell (p:=⟨w.heap.size,1,none⟩) (by simp)).trans k1
 have HB2:=hid (HB1.out.trans (hb2.mono (by omega)))
 have HO2:=hid hown2
 clear hb2 hm2 hown2 k0 k1 CB
 go_wp2_with fail
 go_loopw [3,15] (fun x i wr=>∃ (i':Nat) (pre:List Tok),i'≤d.frags.length∧i=.int .i64 i'∧Hid (pre++fragsToks (d.frags.drop i')=docToks d)∧Hid (pre.length+4 * fragAll (d.frags.drop i')≤242+4 * fragAll d.frags+6 * i')∧OwnS wr (w.heap.size+1) x pre∧w.heap.size<wr.heap.size∧Below w.heap.size w wr) (fun _ i _=>d.frags.length - (intOf i).toNat)
 case atStart=>exact⟨0,_,by omega,rfl,hid (by rw[List.drop_zero];simp[docToks]),hid (by rw[List.drop_zero];have:=toks_len d.sels;simp;omega),HO2.out,z2,HB2.out⟩
 case round =>
  obtain ⟨i,pre,hi,rfl,hpre,hlp,hown,hz,hbw⟩:=hrel
  have HB:=hid hbw
  have HO:=hid hown
  have hbase:=hid hown.base
  have hfi:fragAll (d.frags.drop i)≤60:=by
   have key:∀ (l:List FragP) (j:Nat),fragAll (l.drop j)≤fragAll l:=by
    intro l
    induction l with
    | nil=>intro j;simp
    | cons x l ih=>intro j;cases j with
     | zero=>simp
     | succ j=>have:=ih j;simp only[List.drop_succ_cons,fragAll];omega
   have:=key d.frags i;omega
  clear HO2 HB2 z2 j1 HPA z1 HB1
  by_cases hlt:i<d.frags.length
  ·have hli:(i:Int)<(d.frags.length:Int):=by omega
   obtain ⟨x,fb,off,a',cap',hd,rfl,hbb,hok,⟨hc0,hc1,hc2⟩,hu⟩:=(HF.out.below (Nat.le_refl _) (hbw.mono hB)).at hlt
   have hfb:=fragsB_at HFR.out hd
   have hfp:=fragB_parts hfb
   have hxa:=fragAll_mem hd
   have hst:=hid (fragAll_drop hd)
   have HU:=hid hu
   have CX:=hid (implAddBlock (x.sels.all+1) x.sels (Nat.lt_succ_self _) 6 hfp.2.2.2.2 (w.heap.size+1) A B (by omega) a' cap')
   have hft:Hid (fragsToks (d.frags.drop i)=fragToks x++fragsToks (d.frags.drop (i+1))):=hid (by
    obtain ⟨hl,e⟩:=List.getElem?_eq_some_iff.1 hd
    rw[List.drop_eq_getElem_cons hl,e];rfl)
   have hpl:pre.length≤1000:=by have e1:=hlp.out;omega
   have hrel1:Hid (((pre++[[102,114,97,103,109,101,110,116],bl x.name,[111,110],bl x.on])++[123]::(x.sels.toks++[[125]]))++fragsToks (d.frags.drop (i+1))=docToks d):=hid (by
    rw[←hpre.out,hft.out];simp[fragToks])
   have hrel2:Hid (((pre++[[102,114,97,103,109,101,110,116],bl x.name,[111,110],bl x.on])++[123]::(x.sels.toks++[[125]])).length+4 * fragAll (d.frags.drop (i+1))≤242+4 * fragAll d.frags+6 * (i+1)):=hid (by
    have e1:=hlp.out;have e2:=hst.out;have e3:=toks_len x.sels;simp;omega)
   have HM:Hid (∀ (o o2:Obj) (v':Value) (w':World),Made u3 v' ((wr.alloc o).alloc o2) w'→Made u3 v' wr w'):=hid fun o o2 v' w' h =>
    (Made.of_below (((Below.refl _ wr).alloc (Nat.le_refl _) o).alloc (by simp) o2)).trans h
   have HK:Hid (∀ (cs:Array Value) (T:TypeId) (o2:Obj) (v':Value) (w':World),cs[2]?=some (.slice a' x.sels.len cap')→Made u3 v' ((wr.alloc (.cells cs T)).alloc o2) w'→w'.cell? ⟨wr.heap.size,2,none⟩=some (.slice a' x.sels.len cap')):=hid fun cs T o2 v' w' hc h =>
    (h.cell (p:=⟨wr.heap.size,2,none⟩) (by simp;omega) (fun g hg=>by have:=(hbase.out g hg).2;show g≠wr.heap.size;omega)).trans ((((Below.refl _ (wr.alloc (.cells cs T))).alloc (Nat.le_refl _) o2).cell (p:=⟨wr.heap.size,2,none⟩) (by simp)).trans (by unfold World.cell?;rw[heap_alloc_new];exact hc))
   clear hlt hd hu hok hbw hown hfb hfp
   go_wp2_with (at_builtin;refine app_strs rfl _ _ rfl (w.heap.size+1) u3 pre rfl ((HO.out.alloc _).alloc _) (wr.heap.size+1) 4 [[102,114,97,103,109,101,110,116],bl x.name,[111,110],bl x.on] rfl (new_cells _ _ _ _ (by rw[List.map_cons,List.map_cons,List.map_cons,List.map_cons,strV_bl,strV_bl];rfl) _ (by simp)) (by simp) (by simp;omega) (by simp;omega) ?_;intro v3 w3 hown3 hm3;have k43:=HK.out _ _ _ _ _ rfl hm3)
   have hm:=HM.out _ _ _ _ hm3
   have hB3:=hm.toBelow (base:=w.heap.size+1) (fun g hg=>(hbase.out g hg).1) hz
   have HB3:=HB.out.trans (hB3.mono (by omega))
   have z3:w.heap.size<w3.heap.size:=Nat.lt_of_lt_of_le hz hB3.size
   refine(CX.out w3 v3 _ (HU.out.below (Nat.le_trans hB (by omega)) (hB3.mono (by omega):Below (w.heap.size) wr w3)) z3 ((HP.out.on HB3).mono (by omega)) hown3 (by simp;omega)).mono ?_
   rintro e w4 ⟨v4,rfl,hown4,hm4⟩
   have hbs3:=hown3.base
   have hB4:=hm4.toBelow (base:=w.heap.size+1) (fun g hg=>(hbs3 g hg).1) z3
   have HB4:=hid (HB3.trans (hB4.mono (by omega)))
   have z4:w.heap.size<w4.heap.size:=Nat.lt_of_lt_of_le z3 hB4.size
   have HO4:=hid hown4
   clear hown4 hm4 hB4 hbs3 hown3 hm3 hm hB3 HB3 z3 k43
   go_wp2_with fail
   go_roundw
   case rel=>exact⟨i+1,_,by omega,by go_num,hrel1,hrel2,HO4.out,z4,HB4.out⟩
   case measure=>simp[intOf];omega
  ·obtain rfl:i=d.frags.length:=by omega
   have hfin:pre=docToks d:=by have e1:=hpre.out;rw[List.drop_length] at e1;simpa [fragsToks] using e1
   have CJ:=hid (joinWords wr (w.heap.size+1) u3 pre HO.out (by rw[hfin];simp[docToks]) (by have e1:=hlp.out;omega) (by
    rw[hfin,hjoin.out];have:=hsize.out;unfold bl;rw[Array.length_toList];show (docT d).size≤_;omega))
   have hres:Hid ((⟨(Lib.join pre [32]).toArray⟩:ByteArray)=docT d):=hid (by rw[hfin,hjoin.out];simp[bl])
   clear hlt hbw hown hfin
   go_wp2_with fail
   refine CJ.out.mono ?_
   rintro e w5 ⟨rfl,hb5⟩
   have HB5:=hid (HB.out.trans (hb5.mono HB.out.size))
   clear hb5
   go_wp2_with fail
   go_ret
   exact⟨ret_string hres.out,HB5.out⟩
end Go.Proofs.YtmembhpoidcmlaaGreatDoor.Selss
