/-
  Contract: impl.readSchema: what the lines of a text say; of what was there nothing is changed. Conditions: a text of at most 8000 bytes; the library's variables hold what the program lays.
-/
import Derived.Test.YtmembhpoidcmlaaGreatDoorRows
import Derived.Test.YtmembhpoidcmlaaGreatDoorPrintS
import Derived.Lib.IndexMore
import Derived.Lib.ParseIntBTie
import Derived.Lib.Join
import Derived.Lib.SplitLaws
import Derived.Lib.CountLaws
import Derived.Test.YtmembhpoidcmlaaGreatDoorBytes
import Derived.Test.YtmembhpoidcmlaaGreatDoorFmt
import Derived.Lib.AtoiErrMem
import Derived.Test.YtmembhpoidcmlaaGreatDoorKindF
import Derived.Test.YtmembhpoidcmlaaGreatDoorOwnTy
import Derived.Test.YtmembhpoidcmlaaGreatDoorFieldP
import Derived.WalkSpells
import Derived.Deep.RegionLaw
namespace Go.Proofs.YtmembhpoidcmlaaGreatDoor.Rw
open Go.RowKit Words Decs Splits
set_option linter.unusedVariables false
set_option maxRecDepth 100000
abbrev Tk:=List UInt8
theorem ix_word{c:UInt8}{b:Tk}:∀ {a:Tk},c∉a→Lib.index (a++c::b) [c]=a.length
 | [],_=>by simp[Lib.index]
 | x::a,h=>by
  have hx:c≠x:=fun e=>h (by simp[e])
  have ih:=ix_word (b:=b) (a:=a) (fun e=>h (List.mem_cons_of_mem _ e))
  rw[List.cons_append,Lib.index,if_neg (by simp[hx]),ih]
  rw[if_neg (by rw[beq_iff_eq];omega),List.length_cons];omega
theorem ix_none{c:UInt8}:∀ {a:Tk},c∉a→Lib.index a [c]=-1
 | [],_=>by simp[Lib.index]
 | x::a,h=>by
  have hx:c≠x:=fun e=>h (by simp[e])
  have ih:=ix_none (a:=a) (fun e=>h (List.mem_cons_of_mem _ e))
  rw[Lib.index,if_neg (by simp[hx]),ih];rfl
theorem cutR_word{c:UInt8}{a b:Tk}(h:c∉a):Lib.cut (a++c::b) [c]=(a,b,true):=by
 unfold Lib.cut
 rw[ix_word h,if_pos (by omega)]
 simp
theorem cutR_none{c:UInt8}{a:Tk}(h:c∉a):Lib.cut a [c]=(a,[],false):=by
 unfold Lib.cut
 rw[ix_none h,if_neg (by omega)]
theorem cutR_len(s sep:Tk):(Lib.cut s sep).1.length≤s.length∧(Lib.cut s sep).2.1.length≤s.length:=by
 unfold Lib.cut
 split
 ·simp only[List.length_take,List.length_drop];omega
 ·simp
theorem trimR_last(a:Tk)(c:UInt8):Lib.trimSuffix (a++[c]) [c]=a∧Lib.hasSuffix (a++[c]) [c]=true:=by
 have h:Lib.hasSuffix (a++[c]) [c]=true:=by unfold Lib.hasSuffix;rw[List.isSuffixOf_iff_suffix];exact List.suffix_append a [c]
 refine⟨?_,h⟩
 unfold Lib.trimSuffix
 rw[if_pos h]
 simp
theorem trimR_none{a:Tk}{c:UInt8}(h:c∉a):Lib.trimSuffix a [c]=a∧Lib.hasSuffix a [c]=false:=by
 have h:Lib.hasSuffix a [c]=false:=by
  cases hs:Lib.hasSuffix a [c] with
  | false=>rfl
  | true =>
   unfold Lib.hasSuffix at hs
   rw[List.isSuffixOf_iff_suffix] at hs
   obtain ⟨p,rfl⟩:=hs
   exact absurd (by simp) h
 refine⟨?_,h⟩
 unfold Lib.trimSuffix
 rw[if_neg (by rw[h];simp)]
theorem trimR_len(s p:Tk):(Lib.trimSuffix s p).length≤s.length:=by
 unfold Lib.trimSuffix
 split
 ·rw[List.length_take];omega
 ·exact Nat.le_refl _
theorem preR_hit(a:Tk)(c:UInt8):Lib.trimPrefix (c::a) [c]=a∧Lib.hasPrefix (c::a) [c]=true:=by
 have h:Lib.hasPrefix (c::a) [c]=true:=by unfold Lib.hasPrefix;simp
 refine⟨?_,h⟩
 unfold Lib.trimPrefix
 rw[if_pos h];rfl
theorem preR_none{a:Tk}{c:UInt8}(h:c∉a):Lib.trimPrefix a [c]=a∧Lib.hasPrefix a [c]=false:=by
 have h:Lib.hasPrefix a [c]=false:=by
  cases a with
  | nil=>rfl
  | cons x a =>
   have hcx:c≠x:=fun e=>h (by simp[e])
   simp[Lib.hasPrefix,List.isPrefixOf,hcx]
 refine⟨?_,h⟩
 unfold Lib.trimPrefix
 rw[if_neg (by rw[h];simp)]
theorem preR_len(s p:Tk):(Lib.trimPrefix s p).length≤s.length:=by
 unfold Lib.trimPrefix
 split
 ·rw[List.length_drop];omega
 ·exact Nat.le_refl _
theorem splitK_R(c:UInt8):∀ (n:Nat) (s:Tk),s.length<n→Lib.splitK [c] 0 (Lib.count s [c]) s=splitL c s:=by
 intro n
 induction n with
 | zero=>intro s h;omega
 | succ n ih =>
  intro s hs
  by_cases hm:c∈s
  ·obtain ⟨a,b,rfl,ha⟩:=List.eq_append_cons_of_mem hm
   have hi:Lib.index (a++c::b) [c]=(a.length:Int):=ix_word ha
   have hd:(a++c::b).drop (a.length + [c].length)=b:=by simp
   rw[Lib.count_hit (by simp) hi,hd,Nat.add_comm,splitR_word ha]
   unfold Lib.splitK
   rw[hi,if_neg (by simp),show ((a.length:Int)).toNat=a.length from rfl,hd,ih b (by simp at hs;omega)]
   simp
  ·have hi:=ix_none hm
   rw[Lib.count_miss hi,splitR_last hm];rfl
theorem splitB_R(c:UInt8)(t:ByteArray):(Lib.splitB ⟨#[c]⟩ 0 (Lib.countB t ⟨#[c]⟩) t).map bL=splitL c (bL t):=by
 have h:=Lib.splitB_data ⟨#[c]⟩ 0 (Lib.countB t ⟨#[c]⟩) t
 exact h.trans (splitK_R c _ _ (Nat.lt_succ_self _))
theorem splitL_snoc(c:UInt8):∀ u:Tk,splitL c (u++[c])=splitL c u++[[]]
 | []=>by simp[splitL]
 | x::u=>by
  have ih:=splitL_snoc c u
  rw[List.cons_append,splitL,splitL]
  split
  ·rw[ih];rfl
  ·rw[ih]
   obtain ⟨a,r,h⟩:=consR (splitL_ne c u)
   rw[h];rfl
def pintR(l:Tk):Int:=match Lib.parseIntB 64 l with
 | .ok v=>v
 | Lib.NumEnd.syntax=>0
 | .range=>Lib.intSat 64 l
theorem pintR_ok(l:Tk):OkI (pintR l):=by
 unfold OkI pintR
 rcases h:Lib.parseIntB 64 l with v|_|_
 ·have:=Lib.parseIntB_bounds h
  have e:((2 ^ (64 - 1):Nat):Int)=9223372036854775808:=by decide
  rw[e] at this
  simp only;omega
 ·simp only;omega
 ·have e:(2 ^ (64 - 1):Nat)=9223372036854775808:=by decide
  simp only[Lib.intSat]
  split <;> rw[e] <;> omega
theorem pintR_one:∀ n:Fin 10,pintR [UInt8.ofNat (48+n.val)]=(n.val:Int):=by decide +kernel
theorem pintR_two:∀ p:Fin 100,pintR [UInt8.ofNat (48+p.val / 10),UInt8.ofNat (48+p.val % 10)]=(p.val:Int):=by decide +kernel
theorem pintR_100:pintR [49,48,48]=100:=by decide +kernel
theorem pintR_dec{f:Int}(h0:0≤f)(h1:f≤100):pintR (bL (decB f))=f:=by
 rw[bL_dec h0]
 obtain ⟨n,rfl⟩:=Int.eq_ofNat_of_zero_le h0
 rw[Int.toNat_natCast]
 have hn:n≤100:=by omega
 by_cases h2:n<10
 ·rw[decL_small h2];exact pintR_one ⟨n,h2⟩
 ·by_cases h3:n<100
  ·rw[decL_big (by omega),decL_small (by omega)];exact pintR_two ⟨n,h3⟩
  ·obtain rfl:n=100:=by omega
   rw[decL_big (by omega),decL_big (by omega),decL_small (by omega)]
   exact pintR_100
def numQ(x:Tk):Tk:=Lib.trimSuffix x [93]
def fieldQ(w:Tk):FieldP :=
 ⟨ubR (Lib.cut (Lib.cut (Lib.trimSuffix w [33]) [91]).1 [58]).1,ubR (Lib.cut (Lib.cut (Lib.trimSuffix w [33]) [91]).1 [58]).2.1,(Lib.cut (Lib.trimSuffix w [33]) [91]).2.2,Lib.hasSuffix w [33],
  if Lib.hasPrefix (numQ (Lib.cut (Lib.trimSuffix w [33]) [91]).2.1) [60]=true then 0 else pintR (Lib.trimPrefix (numQ (Lib.cut (Lib.trimSuffix w [33]) [91]).2.1) [60]),
  if Lib.hasPrefix (numQ (Lib.cut (Lib.trimSuffix w [33]) [91]).2.1) [60]=true then pintR (Lib.trimPrefix (numQ (Lib.cut (Lib.trimSuffix w [33]) [91]).2.1) [60]) else 0⟩
def nameQ(l:Tk):ByteArray:=ubR (Lib.cut (Lib.cut l [32]).2.1 [32]).1
def hadQ(l:Tk):Tk:=(Lib.cut (Lib.cut l [32]).2.1 [32]).2.1
def typeQ(l:Tk):TypeP :=
 if (Lib.cut l [32]).1=leafW then ⟨nameQ l,1,pintR (hadQ l),[],[]⟩
 else if (Lib.cut l [32]).1=objW then ⟨nameQ l,2,0,(splitL 32 (hadQ l)).map fieldQ,[]⟩
 else if (Lib.cut l [32]).1=oneW then ⟨nameQ l,3,0,[],(splitL 32 (hadQ l)).map ubR⟩
 else zeroType
def schemaQ(t:Tk):List TypeP:=(splitL 10 (Lib.trimSuffix t [10])).map typeQ
theorem read_fieldQ{s:List TypeP}{f:FieldP}(h:FieldOk s f):fieldQ (wordT f)=f:=by
 have hnb:=word_bytes h.word
 have htb:=type_bytes h.typ
 have hsz:=h.sized
 have hw:wordT f=(bL f.name++58::(bL f.typ++coreT f))++(if f.must=true then [33] else []):=by
  unfold wordT;rw[tail_core hsz];simp
 have hno:∀ c:UInt8,c∉bL f.name++58::(bL f.typ++coreT f)↔(c∉bL f.name∧c≠58∧c∉bL f.typ∧c∉coreT f):=fun c=>by simp[not_or]
 have h33:(33:UInt8)∉bL f.name++58::(bL f.typ++coreT f):=(hno 33).2 ⟨not_in hnb (.inl (by decide)),by decide,not_in htb (.inl (by decide)),core_no hsz (by decide) (by decide) (by decide) (.inl (by decide))⟩
 have hcut:Lib.trimSuffix (wordT f) [33]=bL f.name++58::(bL f.typ++coreT f)∧Lib.hasSuffix (wordT f) [33]=f.must:=by
  rw[hw]
  cases hm:f.must with
  | true=>rw[if_pos rfl];exact trimR_last _ _
  | false=>rw[if_neg (by simp),List.append_nil];exact trimR_none h33
 have n58:(58:UInt8)∉bL f.name:=not_in hnb (.inl (by decide))
 have n91:(91:UInt8)∉bL f.name++58::bL f.typ:=by
  intro e
  rcases List.mem_append.1 e with e|e
  ·exact not_in hnb (c:=91) (.inl (by decide)) e
  ·rcases List.mem_cons.1 e with e|e
   ·exact absurd e (by decide)
   ·exact not_in htb (c:=91) (.inr (by decide)) e
 have hhead:Lib.cut (bL f.name++58::bL f.typ) [58]=(bL f.name,bL f.typ,true):=cutR_word n58
 have key:∀ (num:Tk) (ls:Bool),Lib.cut (bL f.name++58::(bL f.typ++coreT f)) [91]=(bL f.name++58::bL f.typ,num,ls)→ls=f.list →
   (if Lib.hasPrefix (numQ num) [60]=true then 0 else pintR (Lib.trimPrefix (numQ num) [60]))=f.size→(if Lib.hasPrefix (numQ num) [60]=true then pintR (Lib.trimPrefix (numQ num) [60]) else 0)=f.cap→fieldQ (wordT f)=f:=by
  intro num ls h1 h2 h3 h4
  unfold fieldQ
  rw[hcut.1,hcut.2,h1]
  simp only
  rw[hhead,h3,h4,h2]
  simp only[ubR_bL]
 have dn:∀ {n:Int},0≤n→n≤100→∀ c:UInt8,(c.toNat<48∨57<c.toNat)→c∉bL (decB n):=fun a b c hc=>not_in (dec_bytes a b) hc
 unfold coreT at key
 rcases sized_cases hsz with ⟨h1,h2,h3⟩|⟨h1,h2,h3,h4⟩|⟨h1,h2,h3,h4⟩
 ·refine key [] false ?_ h1.symm ?_ ?_
  ·rw[if_neg (by rw[h1];simp),List.append_nil];exact cutR_none n91
  ·rw[h2];decide +kernel
  ·rw[h3];decide +kernel
 ·have e:numQ (bL (decB f.size)++[93])=bL (decB f.size):=(trimR_last _ _).1
  have e2:=preR_none (dn h3 h4 60 (.inr (by decide)))
  refine key (bL (decB f.size)++[93]) true ?_ h1.symm ?_ ?_
  ·rw[if_pos h1,if_pos h2]
   have:=cutR_word (b:=bL (decB f.size)++[93]) n91
   simpa using this
  ·rw[e,e2.1,e2.2,if_neg (by simp)];exact pintR_dec h3 h4
  ·rw[e,e2.1,e2.2,if_neg (by simp)];exact h2.symm
 ·have e:numQ (60::(bL (decB f.cap)++[93]))=60::bL (decB f.cap):=by
   have:=(trimR_last (60::bL (decB f.cap)) 93).1
   rw[List.cons_append] at this;exact this
  have e2:=preR_hit (bL (decB f.cap)) 60
  refine key (60::(bL (decB f.cap)++[93])) true ?_ h1.symm ?_ ?_
  ·rw[if_pos h1,if_neg (by omega)]
   have:=cutR_word (b:=60::(bL (decB f.cap)++[93])) n91
   simpa using this
  ·rw[e,e2.1,e2.2,if_pos rfl];exact h2.symm
  ·rw[e,e2.1,e2.2,if_pos rfl];exact pintR_dec (by omega) h4
theorem blanks_cons(w:Tk)(ws:List Tk):blanks (w::ws)=32::(w++blanks ws):=by unfold blanks;rw[List.flatMap_cons,List.cons_append]
theorem part_fields_some{s:List TypeP}{x:TypeP}(h:partB s x=true)(hk:x.kind=2):x.fields≠[]:=by
 intro e
 unfold partB objB fieldsB at h
 rw[if_neg (by omega),if_pos hk,e] at h
 simp at h
theorem part_members_some{s:List TypeP}{x:TypeP}(h:partB s x=true)(hk:x.kind=3):x.members≠[]:=by
 intro e
 unfold partB oneTB at h
 rw[if_neg (by omega),if_neg (by omega),if_pos hk,e] at h
 simp at h
theorem read_lineQ{s:List TypeP}(hs:schemaB s=true){x:TypeP}(hL:LineOk s x)(hx:partB s x=true):typeQ (kw x.kind++blanks (restT x))=x:=by
 have hc:=rest_clean hs hL hx (c:=32) (.inl rfl)
 have hkw:=kw_clean x.kind (c:=32) (.inl rfl)
 obtain ⟨W,hW⟩:∃ W,(if x.kind=1 then [bL (decB x.bytes)] else [])++(x.fields.map wordT++x.members.map bL)=W:=⟨_,rfl⟩
 have hR:restT x=bL x.name::W:=by unfold restT;rw[hW]
 rw[hR] at hc ⊢
 have h1:Lib.cut (kw x.kind++blanks (bL x.name::W)) [32]=(kw x.kind,bL x.name++blanks W,true):=by rw[blanks_cons];exact cutR_word hkw
 have hnm:=hc (bL x.name) (by simp)
 have h2:∀ (w:Tk) (ws:List Tk),W=w::ws→nameQ (kw x.kind++blanks (bL x.name::W))=x.name∧hadQ (kw x.kind++blanks (bL x.name::W))=w++blanks ws:=by
  intro w ws e
  unfold nameQ hadQ
  rw[h1]
  simp only
  rw[e,blanks_cons,cutR_word hnm]
  exact⟨ubR_bL _,rfl⟩
 have hrd:∀ f∈x.fields,fieldQ (wordT f)=f:=fun f hf=>read_fieldQ (hL.each f hf)
 have pf:=fun h=>part_fields hx h
 have pm:=fun h=>part_members hx h
 have pb:=fun h=>part_bytes hx h
 have sf:=fun h=>part_fields_some hx h
 have sm:=fun h=>part_members_some hx h
 obtain ⟨_,hk,⟨hb0,hb1⟩,_⟩:=hL
 unfold typeQ
 rw[h1]
 simp only
 obtain ⟨nm,kd,by_,fs,ms⟩:=x
 simp only at h1 h2 hrd pf pm pb sf sm hk hb0 hb1 hc hnm hW hkw ⊢
 rcases hk with rfl|rfl|rfl
 ·obtain rfl:=pf (by decide)
  obtain rfl:=pm (by decide)
  obtain ⟨e1,e2⟩:=h2 _ [] (by rw[←hW];rfl)
  rw[if_pos (show kw 1=leafW from rfl),e1,e2,show blanks []=[] from rfl,List.append_nil,pintR_dec hb0 hb1]
 ·obtain rfl:=pm (by decide)
  obtain rfl:=pb (by decide)
  cases fs with
  | nil=>exact absurd rfl (sf rfl)
  | cons f fs =>
   have hWW:W=wordT f::fs.map wordT:=by rw[←hW];simp
   obtain ⟨e1,e2⟩:=h2 _ _ hWW
   rw[if_neg (show ¬ kw 2=leafW by decide),if_pos (show kw 2=objW from rfl),e1,e2,split_blanks (hc _ (by rw[hWW];simp)) (fun v hv=>hc v (by rw[hWW];simp only[List.mem_cons];exact .inr (.inr hv)))]
   have:∀ l:List FieldP,(∀ f∈l,fieldQ (wordT f)=f)→(l.map wordT).map fieldQ=l:=by
    intro l
    induction l with
    | nil=>intro _;rfl
    | cons y l ih=>intro hl;rw[List.map_cons,List.map_cons,hl y (by simp),ih fun z hz=>hl z (by simp[hz])]
   rw[←List.map_cons,this _ hrd]
 ·obtain rfl:=pf (by decide)
  obtain rfl:=pb (by decide)
  cases ms with
  | nil=>exact absurd rfl (sm rfl)
  | cons m ms =>
   have hWW:W=bL m::ms.map bL:=by rw[←hW];simp
   obtain ⟨e1,e2⟩:=h2 _ _ hWW
   rw[if_neg (show ¬ kw 3=leafW by decide),if_neg (show ¬ kw 3=objW by decide),if_pos (show kw 3=oneW from rfl),e1,e2,split_blanks (hc _ (by rw[hWW];simp)) (fun v hv=>hc v (by rw[hWW];simp only[List.mem_cons];exact .inr (.inr hv)))]
   have:∀ l:List ByteArray,(l.map bL).map ubR=l:=by
    intro l
    induction l with
    | nil=>rfl
    | cons y l ih=>rw[List.map_cons,List.map_cons,ubR_bL,ih]
   rw[←List.map_cons,this]
theorem read_schemaQ{s:List TypeP}(h:schemaB s=true):schemaQ (bL (schT s))=s:=by
 have hok:∀ x∈s,LineOk s x∧partB s x=true:=fun x hx=>by
  obtain ⟨i,hi⟩:=List.mem_iff_getElem?.1 hx
  exact⟨line_ok h hi,((schemaB_parts h).2.2 i x hi).1.2⟩
 have hlen:=(schemaB_parts h).1.1
 have hsp:=split_lines (l:=s) fun x hx e=>by
  obtain ⟨h1,h2⟩:=hok x hx
  rcases List.mem_append.1 e with e|e
  ·exact kw_clean _ (.inr rfl) e
  ·exact blanks_clean (rest_clean h h1 h2 (.inr rfl)) e
 have hlast:∀ l:List TypeP,l≠[]→∃ u,bL (linesT l)=u++[10]:=by
  intro l
  induction l with
  | nil=>intro e;exact absurd rfl e
  | cons x l ih =>
   intro _
   rw[linesT,bL_append,line_blanks]
   cases l with
   | nil=>exact⟨kw x.kind++blanks (restT x),by rw[linesT,bL_empty,List.append_nil]⟩
   | cons y l =>
    obtain ⟨u,hu⟩:=ih (by simp)
    exact⟨((kw x.kind++blanks (restT x))++[10])++u,by rw[hu];simp⟩
 obtain ⟨u,hu⟩:=hlast s (by intro e;rw[e] at hlen;simp at hlen)
 have hS:schT s=linesT s:=by unfold schT;rw[if_pos h]
 rw[hu,splitL_snoc] at hsp
 have hsp2:=List.append_cancel_right hsp
 unfold schemaQ
 rw[hS,hu,(trimR_last u 10).1,hsp2,List.map_map]
 have:∀ l:List TypeP,(∀ x∈l,x∈s)→l.map (typeQ ∘ fun x=>kw x.kind++blanks (restT x))=l:=by
  intro l
  induction l with
  | nil=>intro _;rfl
  | cons x l ih =>
   intro hl
   obtain ⟨h1,h2⟩:=hok x (hl x (by simp))
   rw[List.map_cons,ih fun y hy=>hl y (by simp[hy])]
   show typeQ (kw x.kind++blanks (restT x))::l=x::l
   rw[read_lineQ h h1 h2]
 exact this s fun _ hx=>hx
end Go.Proofs.YtmembhpoidcmlaaGreatDoor.Rw
namespace Go.Proofs.YtmembhpoidcmlaaGreatDoor.Clones
open Lib (hid)
open Go.RowKit Texts
set_option linter.unusedVariables false
theorem shape_of_row{W:World}{g:Nat}{Y:Array Value}{t:TypeId}(h:W.heap[g]?=some (.cells Y t (0,0))):W.shape? g=some (t,Y.size):=by
 unfold World.shape?;rw[h]
theorem ne_nil{s:ByteArray}(h:¬ s.size=0):s.data.toList≠[]:=by
 intro e
 have:=congrArg List.length e
 exact h (by rw[Array.length_toList] at this;exact this)
theorem liteClone(s:ByteArray)(w:World)(hs:s.size≤140737488351232) :
  Calls Tryz.prog 92 #[.string s] w fun e w'=>e=.returned (.string s)∧Below w.heap.size w w':=by
 by_cases h0:s.size=0
 ·obtain rfl:=empty_of_size h0
  clear h0
  go_enter Tryz.func92,Tryz.ntmps92
  go_wp2_with fail
  go_ret
  exact⟨rfl,Below.refl _ _⟩
 ·have h1:0<s.size:=by omega
  have hz:((s.size:Int) == 0)=false:=beq_eq_false_iff_ne.2 (by omega)
  have hne:=ne_nil h0
  clear h0
  have hmk:=make_bytes s.size (by omega)
  obtain ⟨M,hM⟩:∃ M,M=zeros s.size:=⟨_,rfl⟩
  have hMs:M.size=s.size:=by rw[hM,zeros_size]
  rw[←hM] at hmk
  clear hM
  have hcp:=Lib.run_copy_row_string (P:=Tryz.prog) (w.alloc (.cells M 5)) 22 9 3 5 w.heap.size 0 s.size s.size s M 5 Tryz.underlying22 size5 (heap_alloc_new w _) (by omega) (by omega)
  obtain ⟨Y,hY⟩:∃ Y,Y=(M.toList.take 0++Lib.byteCells s.data.toList++M.toList.drop (0+s.size)).toArray:=⟨_,rfl⟩
  rw[←hY] at hcp
  have hYl:Y.toList=Lib.byteCells s.data.toList:=by
   rw[hY,List.toList_toArray,List.take_zero,List.nil_append,List.drop_of_length_le (by rw[Array.length_toList];omega),List.append_nil]
  have hYs:Y.size=s.size:=by rw[←Array.length_toList,hYl,Lib.byteCells_length];simp
  have hUS:=Lib.run_unsafeString_row (P:=Tryz.prog) ((w.alloc (.cells M 5)).setRow w.heap.size Y) 138 3 9 5 Tryz.underlying138 cells5 w.heap.size Y.size (shape_of_row (row_heap w M Y _)) s.data.toList hne (by rw[hYs];simp) (by simp;omega)
   (fun j x hx=>Lib.cells_of_row (row_heap w M Y _) Y.size j _ (by rw[List.take_of_length_le (by rw[Array.length_toList];exact Nat.le_refl _),hYl];simp[Lib.byteCells,hx]))
  have hlen:s.data.toList.length=s.size:=by simp
  rw[hlen,str_eq] at hUS
  have HYs:=hid hYs
  have HMs:=hid hMs
  clear hY hYl hYs hMs hlen hne
  go_enter Tryz.func92,Tryz.ntmps92
  go_wp2_with fail
  go_ret
  exact⟨rfl,Lib.below_freeze (below_row w M Y _) (p:=⟨w.heap.size,0,none⟩) (Nat.le_refl _) _⟩
theorem clone(s:ByteArray)(w:World)(hs:s.size≤140737488351232) :
  Calls Tryz.prog 69 #[.string s] w fun e w'=>e=.returned (.string s)∧Below w.heap.size w w':=by
 go_enter Tryz.func69,Tryz.ntmps69
 go_wp2_with (go_at_call 92;refine(liteClone s _ hs).mono ?_;rintro e w' ⟨rfl,hb⟩)
 go_ret
 exact⟨rfl,hb⟩
end Go.Proofs.YtmembhpoidcmlaaGreatDoor.Clones
namespace Go.Proofs.YtmembhpoidcmlaaGreatDoor.Rw
open Go.RowKit Words Decs Splits
set_option linter.unusedVariables false
set_option maxRecDepth 100000
structure VarsN(w:World):Prop where
 pow : Lib.TabIs Tryz.prog w "internal/strconv.uint64pow10" .u64 Lib.pow10Tab
 max:∃ m,w.cell? ⟨1,0,none⟩=some (.int .i64 m)
 syn:∃ t x,w.cell? ⟨5,0,none⟩=some (.iface t x)
 rng:∃ t x,w.cell? ⟨6,0,none⟩=some (.iface t x)
def VarsR(B:Nat)(w:World):Prop:=∀ w',Below B w w'→VarsN w'
theorem VarsR.here{B:Nat}{w:World}(h:VarsR B w):VarsN w:=h w (Below.refl _ _)
theorem VarsR.on{B:Nat}{w w1:World}(h:VarsR B w)(hb:Below B w w1):VarsR B w1:=fun w' g=>h w' (hb.trans g)
theorem VarsR.mono{B C:Nat}{w:World}(h:VarsR B w)(hB:B≤C):VarsR C w:=fun w' hb=>h w' (hb.mono hB)
theorem VarsR.over{B:Nat}{w w1:World}(h:VarsR B w)(hB:B≤w.heap.size)(hb:Below w.heap.size w w1):VarsR B w1:=h.on (hb.mono hB)
theorem VarsR.pow{B:Nat}{w:World}(h:VarsR B w):Decs.Pow B w:=fun w' hb=>(h w' hb).pow
theorem below_drawn(w:World)(n:Nat):Below w.heap.size w (w.drewN n):=⟨rfl,rfl,rfl,Nat.le_refl _,fun _ _=>rfl⟩
theorem cutC(s sep:ByteArray)(w:World)(B:Nat)(hv:VarsR B w)(hs:s.size≤8000) :
  Calls Tryz.prog 100 #[.string s,.string sep] w fun e w'=>e=.returned (.tuple #[.string (ubR (Lib.cut (bL s) (bL sep)).1),.string (ubR (Lib.cut (bL s) (bL sep)).2.1),.bool (Lib.cut (bL s) (bL sep)).2.2])∧Below w.heap.size w w':=by
 obtain ⟨m,hm⟩:=hv.here.max
 refine(Tryz.strings_Cut s sep m w (by omega) hm).mono ?_
 rintro e w' ⟨rfl,n,rfl⟩
 exact⟨rfl,below_drawn w n⟩
theorem pintC(s:ByteArray)(w:World)(B:Nat)(hv:VarsR B w)(hs:s.size≤8000) :
  Calls Tryz.prog 121 #[.string s,.int .i64 10,.int .i64 64] w fun e w'=>(∃ x,e=.returned (.tuple #[.int .i64 (pintR (bL s)),x]))∧Below w.heap.size w w':=by
 unfold pintR
 rcases h:Lib.parseIntB 64 (bL s) with v|_|_
 ·refine(Tryz.strconv_ParseInt_10_at64_ok s (by omega) v h w).mono ?_
  rintro e w' ⟨rfl,rfl|⟨t,rfl⟩⟩
  ·exact⟨⟨_,rfl⟩,Below.refl _ _⟩
  ·exact⟨⟨_,rfl⟩,Lib.bytesWorld_below _ _ _⟩
 ·obtain ⟨t,x,hx⟩:=hv.here.syn
  refine(Tryz.strconv_ParseInt_10_at64_syntax s (by omega) h _ w hx (.inr ⟨t,x,rfl⟩)).mono ?_
  rintro e w' ⟨N,rfl,_,_,hb⟩
  exact⟨⟨_,rfl⟩,hb⟩
 ·obtain ⟨t,x,hx⟩:=hv.here.rng
  refine(Tryz.strconv_ParseInt_10_at64_range s (by omega) h _ w hx (.inr ⟨t,x,rfl⟩)).mono ?_
  rintro e w' ⟨N,rfl,_,_,hb⟩
  exact⟨⟨_,rfl⟩,hb⟩
theorem trimC(s p:ByteArray)(w:World)(hs:s.size≤8000) :
  Calls Tryz.prog 74 #[.string s,.string p] w fun e w'=>e=.returned (.string (ubR (Lib.trimSuffix (bL s) (bL p))))∧w=w':=by
 refine(Tryz.strings_TrimSuffix s p w (by omega)).mono ?_
 rintro e w' ⟨rfl,rfl⟩
 exact⟨rfl,rfl⟩
theorem sufC(s p:ByteArray)(w:World)(hs:s.size≤8000) :
  Calls Tryz.prog 133 #[.string s,.string p] w fun e w'=>e=.returned (.tuple #[.string (ubR (Lib.trimSuffix (bL s) (bL p))),.bool (Lib.hasSuffix (bL s) (bL p))])∧w=w':=by
 refine(Tryz.strings_CutSuffix s p w (by omega)).mono ?_
 rintro e w' ⟨rfl,rfl⟩
 exact⟨rfl,rfl⟩
theorem preC(s p:ByteArray)(w:World) :
  Calls Tryz.prog 134 #[.string s,.string p] w fun e w'=>e=.returned (.tuple #[.string (ubR (Lib.trimPrefix (bL s) (bL p))),.bool (Lib.hasPrefix (bL s) (bL p))])∧w=w':=by
 refine(Tryz.strings_CutPrefix s p w).mono ?_
 rintro e w' ⟨rfl,rfl⟩
 exact⟨rfl,rfl⟩
theorem textsR_sizes(c:UInt8)(t:ByteArray)(ht:t.size≤8000):((splitL c (bL t)).map ubR).length≤8001∧∀ x∈(splitL c (bL t)).map ubR,x.size≤8000:=by
 have hl:=bL_len t
 have h1:=splitR_len c (bL t)
 refine⟨by rw[List.length_map];omega,fun x hx=>?_⟩
 obtain ⟨y,hy,rfl⟩:=List.mem_map.1 hx
 have:=splitR_sizes c (bL t) y hy
 rw[ubR_size];omega
theorem splitC(t:ByteArray)(c:UInt8)(w:World)(B:Nat)(hv:VarsR B w)(ht:t.size≤8000) :
  Calls Tryz.prog 68 #[.string t,.string ⟨#[c]⟩] w fun e w'=>(∃ a,e=.returned (.slice a ((splitL c (bL t)).map ubR).length ((splitL c (bL t)).map ubR).length)∧TextsX w' w.heap.size w'.heap.size a ((splitL c (bL t)).map ubR).length ((splitL c (bL t)).map ubR))∧Below w.heap.size w w':=by
 obtain ⟨m,hm⟩:=hv.here.max
 refine(Tryz.strings_Split t ⟨#[c]⟩ m w (by omega) hm (by show 0<1;decide)).mono ?_
 rintro e w' ⟨rfl,rfl⟩
 have hlen:=Lib.splitB_all ⟨#[c]⟩ (by show 0<1;decide) 0 _ t rfl
 have hmap:(Lib.splitB ⟨#[c]⟩ 0 (Lib.countB t ⟨#[c]⟩) t)=(splitL c (bL t)).map ubR:=by
  rw[←splitB_R,List.map_map]
  conv=>lhs;rw[←List.map_id (Lib.splitB ⟨#[c]⟩ 0 (Lib.countB t ⟨#[c]⟩) t)]
  exact List.map_congr_left fun x _=>(ubR_bL x).symm
 have hl2:Lib.countB t ⟨#[c]⟩+1=((splitL c (bL t)).map ubR).length:=by rw[←hmap,hlen]
 obtain ⟨hs1,hs2⟩:=textsR_sizes c t ht
 rw[hl2,hmap]
 generalize (splitL c (bL t)).map ubR=L at *
 have hblk:=heap_alloc_new w (.cells (L.map Value.string).toArray 9)
 refine⟨⟨_,rfl,?_⟩,(Below.refl _ _).alloc (Nat.le_refl _) _⟩
 refine RowsX.made (by omega) (by simp) (LieRX.flat ⟨_,_,hblk⟩ (by simp) (by simp) fun j y hj=>⟨by have:=hs2 y (List.mem_iff_getElem?.2 ⟨j,hj⟩);unfold OkS;omega,?_⟩)
 rw[Nat.zero_add,Nat.mul_one]
 exact cell_of hblk (by simp[hj])
end Go.Proofs.YtmembhpoidcmlaaGreatDoor.Rw
namespace Go.Proofs.YtmembhpoidcmlaaGreatDoor.Rw
open Lib (hid)
open Go.RowKit Words Decs Splits
set_option linter.unusedVariables false
set_option maxRecDepth 100000
theorem implNumberOf(s:ByteArray)(w:World)(B:Nat)(hv:VarsR B w)(hs:s.size≤8000) :
  Calls Tryz.prog 101 #[.string s] w fun e w'=>e=.returned (.int .i64 (pintR (bL s)))∧Below w.heap.size w w':=by
 have CP:=hid (pintC s w B hv hs)
 generalize pintR (bL s)=n at *
 clear hv
 go_enter Tryz.func101,Tryz.ntmps101
 go_wp2_with fail
 refine CP.out.mono ?_
 rintro e w1 ⟨⟨x,rfl⟩,hb1⟩
 have HB1:=hid hb1
 clear hb1
 go_wp2_with fail
 go_ret
 exact⟨rfl,HB1.out⟩
theorem ubL{l:Tk}:bL (ubR l)=l:=by simp[bL,ubR]
theorem fieldQ_ok(w:ByteArray)(hw:w.size≤8000):(fieldQ (bL w)).ok:=by
 have hl:=bL_len w
 have h1:=trimR_len (bL w) [33]
 have h2:=cutR_len (Lib.trimSuffix (bL w) [33]) [91]
 have h3:=cutR_len (Lib.cut (Lib.trimSuffix (bL w) [33]) [91]).1 [58]
 refine⟨okS_ub (by omega),okS_ub (by omega),?_,?_⟩
 ·unfold fieldQ;simp only;split
  ·exact okI_0
  ·exact pintR_ok _
 ·unfold fieldQ;simp only;split
  ·exact pintR_ok _
  ·exact okI_0
set_option maxHeartbeats 4000000 in
theorem implReadField(t:ByteArray)(w:World)(B:Nat)(hv:VarsR B w)(hB:B≤w.heap.size)(ht:t.size≤8000) :
  Calls Tryz.prog 122 #[.string t] w fun e w'=>e=.returned (.agg (fieldQ (bL t)).cells.toArray)∧Below w.heap.size w w':=by
 have HA:Hid (∀ o,Below w.heap.size w (w.alloc o)):=hid fun o=>(Below.refl _ _).alloc (Nat.le_refl _) o
 have CC:Hid (∀ (s sep:ByteArray) (w':World),s.size≤8000→Below w.heap.size w w'→Calls Tryz.prog 100 #[.string s,.string sep] w' fun e w''=>e=.returned (.tuple #[.string (ubR (Lib.cut (bL s) (bL sep)).1),.string (ubR (Lib.cut (bL s) (bL sep)).2.1),.bool (Lib.cut (bL s) (bL sep)).2.2])∧Below w'.heap.size w' w''):=hid fun s sep w' h1 h2=>cutC s sep w' B (hv.over hB h2) h1
 have CN:Hid (∀ (s:ByteArray) (w':World),s.size≤8000→Below w.heap.size w w'→Calls Tryz.prog 101 #[.string s] w' fun e w''=>e=.returned (.int .i64 (pintR (bL s)))∧Below w'.heap.size w' w''):=hid fun s w' h1 h2=>implNumberOf s w' B (hv.over hB h2) h1
 have hl:=bL_len t
 have b33:bL ⟨#[33]⟩=[33]:=rfl
 have b91:bL ⟨#[91]⟩=[91]:=rfl
 have b58:bL ⟨#[58]⟩=[58]:=rfl
 have b93:bL ⟨#[93]⟩=[93]:=rfl
 have b60:bL ⟨#[60]⟩=[60]:=rfl
 -- the word without its must
 have C1:Hid (∀ w',Calls Tryz.prog 133 #[.string t,.string ⟨#[33]⟩] w' fun e w''=>e=.returned (.tuple #[.string (ubR (Lib.trimSuffix (bL t) [33])),.bool (Lib.hasSuffix (bL t) [33])])∧w'=w''):=hid fun w'=>sufC t _ w' ht
 have l1:=trimR_len (bL t) [33]
 have HQ:=hid (show fieldQ (bL t)=⟨ubR (Lib.cut (Lib.cut (Lib.trimSuffix (bL t) [33]) [91]).1 [58]).1,ubR (Lib.cut (Lib.cut (Lib.trimSuffix (bL t) [33]) [91]).1 [58]).2.1,(Lib.cut (Lib.trimSuffix (bL t) [33]) [91]).2.2,Lib.hasSuffix (bL t) [33],
  if Lib.hasPrefix (numQ (Lib.cut (Lib.trimSuffix (bL t) [33]) [91]).2.1) [60]=true then 0 else pintR (Lib.trimPrefix (numQ (Lib.cut (Lib.trimSuffix (bL t) [33]) [91]).2.1) [60]),
  if Lib.hasPrefix (numQ (Lib.cut (Lib.trimSuffix (bL t) [33]) [91]).2.1) [60]=true then pintR (Lib.trimPrefix (numQ (Lib.cut (Lib.trimSuffix (bL t) [33]) [91]).2.1) [60]) else 0⟩ from rfl)
 generalize Lib.trimSuffix (bL t) [33]=w1 at *
 generalize Lib.hasSuffix (bL t) [33]=must at *
 have C2:Hid (∀ w',Below w.heap.size w w'→Calls Tryz.prog 100 #[.string (ubR w1),.string ⟨#[91]⟩] w' fun e w''=>e=.returned (.tuple #[.string (ubR (Lib.cut w1 [91]).1),.string (ubR (Lib.cut w1 [91]).2.1),.bool (Lib.cut w1 [91]).2.2])∧Below w'.heap.size w' w''):=hid fun w' h=>by
  have:=CC.out (ubR w1) ⟨#[91]⟩ w' (by rw[ubR_size];omega) h
  rw[ubL] at this;exact this
 have l2:=cutR_len w1 [91]
 generalize Lib.cut w1 [91]=c at *
 obtain ⟨head,number,listed⟩:=c
 simp only at C2 l2 HQ
 have C3:Hid (∀ w',Below w.heap.size w w'→Calls Tryz.prog 100 #[.string (ubR head),.string ⟨#[58]⟩] w' fun e w''=>e=.returned (.tuple #[.string (ubR (Lib.cut head [58]).1),.string (ubR (Lib.cut head [58]).2.1),.bool (Lib.cut head [58]).2.2])∧Below w'.heap.size w' w''):=hid fun w' h=>by
  have:=CC.out (ubR head) ⟨#[58]⟩ w' (by rw[ubR_size];omega) h
  rw[ubL] at this;exact this
 generalize Lib.cut head [58]=d at *
 obtain ⟨name,typ,dot⟩:=d
 simp only at C3 HQ
 have C4:Hid (∀ w',Calls Tryz.prog 74 #[.string (ubR number),.string ⟨#[93]⟩] w' fun e w''=>e=.returned (.string (ubR (numQ number)))∧w'=w''):=hid fun w'=>by
  have:=trimC (ubR number) ⟨#[93]⟩ w' (by rw[ubR_size];omega)
  rw[ubL] at this;exact this
 have l4:(numQ number).length≤number.length:=trimR_len _ _
 generalize numQ number=x at *
 have C5:Hid (∀ w',Calls Tryz.prog 134 #[.string (ubR x),.string ⟨#[60]⟩] w' fun e w''=>e=.returned (.tuple #[.string (ubR (Lib.trimPrefix x [60])),.bool (Lib.hasPrefix x [60])])∧w'=w''):=hid fun w'=>by
  have:=preC (ubR x) ⟨#[60]⟩ w'
  rw[ubL] at this;exact this
 have l5:=preR_len x [60]
 generalize Lib.trimPrefix x [60]=dg at *
 generalize Lib.hasPrefix x [60]=cp at *
 have C6:Hid (∀ w',Below w.heap.size w w'→Calls Tryz.prog 101 #[.string (ubR dg)] w' fun e w''=>e=.returned (.int .i64 (pintR dg))∧Below w'.heap.size w' w''):=hid fun w' h=>by
  have:=CN.out (ubR dg) w' (by rw[ubR_size];omega) h
  rw[ubL] at this;exact this
 generalize pintR dg=num at *
 rw[HQ.out]
 clear HQ hv CC CN l1 l2 l4 l5 hl b33 b91 b58 b93 b60
 generalize ubR w1=u1 at *
 generalize ubR head=u2 at *
 generalize ubR number=u3 at *
 generalize ubR name=u4 at *
 generalize ubR typ=u5 at *
 generalize ubR x=u6 at *
 generalize ubR dg=u7 at *
 simp only[FieldP.cells]
 have HZ0:=hid (heap_alloc_new w (.cells #[.string ⟨#[]⟩,.string ⟨#[]⟩,.bool false,.bool false,.int .i64 0,.int .i64 0] 84))
 cases cp
 ·simp only[Bool.false_eq_true,if_false]
  go_enter Tryz.func122,Tryz.ntmps122
  go_wp2_with fail
  refine(C1.out _).mono ?_
  rintro e w9 ⟨rfl,rfl⟩
  go_wp2_with fail
  refine(C2.out _ (HA.out _)).mono ?_
  rintro e w2 ⟨rfl,hb2⟩
  have HB2:=hid ((HA.out _).trans (hb2.mono (HA.out _).size))
  have HZ2:=hid ((hb2.block w.heap.size (lt_of_get HZ0.out)).trans HZ0.out)
  clear hb2
  go_wp2_with fail
  refine(C3.out _ HB2.out).mono ?_
  rintro e w3 ⟨rfl,hb3⟩
  have HB3:=hid (HB2.out.trans (hb3.mono HB2.out.size))
  have HZ3:=hid ((hb3.block w.heap.size (lt_of_get HZ2.out)).trans HZ2.out)
  clear hb3
  have HB4:Hid (Below w.heap.size w (w3.alloc (.cells #[.string u4,.string u5,.bool listed,.bool must,.int .i64 0,.int .i64 0] 84))):=hid (HB3.out.alloc HB3.out.size _)
  have HF4:=hid (heap_alloc_new w3 (.cells #[.string u4,.string u5,.bool listed,.bool must,.int .i64 0,.int .i64 0] 84))
  have HZ4:=hid ((Go.Deep.blk_alloc_lt w3 (.cells #[.string u4,.string u5,.bool listed,.bool must,.int .i64 0,.int .i64 0] 84) w.heap.size (lt_of_get HZ3.out)).trans HZ3.out)
  go_wp2_with (first
   | (go_at_call 74;refine(C4.out _).mono ?_;rintro e w9 ⟨rfl,rfl⟩)
   | (go_at_call 134;refine(C5.out _).mono ?_;rintro e w9 ⟨rfl,rfl⟩))
  refine(C6.out _ HB4.out).mono ?_
  rintro e w5 ⟨rfl,hb5⟩
  have HB5:=hid (HB4.out.trans (hb5.mono HB4.out.size))
  have hf5:=(hb5.block w3.heap.size (lt_of_get HF4.out)).trans HF4.out
  have HZ5:=hid ((hb5.block w.heap.size (lt_of_get HZ4.out)).trans HZ4.out)
  have hlt:w.heap.size<w3.heap.size:=lt_of_get HZ3.out
  have ⟨⟨y0,y1,y2,y3,y4,y5⟩,f0,f1,f2,f3,f4,f5⟩:=keep6 hf5
  have ⟨⟨z0,z1,z2,z3,z4,z5⟩,g0,g1,g2,g3,g4,g5⟩:=keep6 HZ5.out
  have HZ6:Hid ((w5.setCell ⟨w3.heap.size,4,none⟩ (.int .i64 num)).heap[w.heap.size]?=_):=hid ((Go.Deep.blk_setCell_other w5 ⟨w3.heap.size,4,none⟩ (.int .i64 num) w.heap.size (by show w.heap.size≠w3.heap.size;omega)).trans HZ5.out)
  have HB6:=hid (HB5.out.setCell (p:=⟨w3.heap.size,4,none⟩) (by show w.heap.size≤w3.heap.size;omega) (.int .i64 num))
  clear hb5 hf5
  go_wp2_with fail
  change bodyPost _ _ _ _ _ (putL (w5.setCell ⟨w3.heap.size,4,none⟩ (.int .i64 num)) w.heap.size 0 [.string u4,.string u5,.bool listed,.bool must,.int .i64 num,.int .i64 0])
  generalize w5.setCell ⟨w3.heap.size,4,none⟩ (.int .i64 num)=w6 at *
  obtain ⟨hr,_,_⟩:=putL_cells (g:=w.heap.size) (o:=0) (l:=[.string u4,.string u5,.bool listed,.bool must,.int .i64 num,.int .i64 0]) HZ6.out (by simp)
  have HBF:=putL_below (g:=w.heap.size) (B:=w.heap.size) (Nat.le_refl _) [.string u4,.string u5,.bool listed,.bool must,.int .i64 num,.int .i64 0] 0 HB6.out
  generalize putL w6 w.heap.size 0 [.string u4,.string u5,.bool listed,.bool must,.int .i64 num,.int .i64 0]=wz at *
  have ⟨x0,x1,x2,x3,x4,x5⟩:=row6z hr
  exact bodyPost_ret (v:=.agg #[.string u4,.string u5,.bool listed,.bool must,.int .i64 num,.int .i64 0]) (by simp[results,Tryz.results122,go_sem,x0,x1,x2,x3,x4,x5]) rfl ⟨rfl,HBF⟩
 ·simp only[if_true]
  go_enter Tryz.func122,Tryz.ntmps122
  go_wp2_with fail
  refine(C1.out _).mono ?_
  rintro e w9 ⟨rfl,rfl⟩
  go_wp2_with fail
  refine(C2.out _ (HA.out _)).mono ?_
  rintro e w2 ⟨rfl,hb2⟩
  have HB2:=hid ((HA.out _).trans (hb2.mono (HA.out _).size))
  have HZ2:=hid ((hb2.block w.heap.size (lt_of_get HZ0.out)).trans HZ0.out)
  clear hb2
  go_wp2_with fail
  refine(C3.out _ HB2.out).mono ?_
  rintro e w3 ⟨rfl,hb3⟩
  have HB3:=hid (HB2.out.trans (hb3.mono HB2.out.size))
  have HZ3:=hid ((hb3.block w.heap.size (lt_of_get HZ2.out)).trans HZ2.out)
  clear hb3
  have HB4:Hid (Below w.heap.size w (w3.alloc (.cells #[.string u4,.string u5,.bool listed,.bool must,.int .i64 0,.int .i64 0] 84))):=hid (HB3.out.alloc HB3.out.size _)
  have HF4:=hid (heap_alloc_new w3 (.cells #[.string u4,.string u5,.bool listed,.bool must,.int .i64 0,.int .i64 0] 84))
  have HZ4:=hid ((Go.Deep.blk_alloc_lt w3 (.cells #[.string u4,.string u5,.bool listed,.bool must,.int .i64 0,.int .i64 0] 84) w.heap.size (lt_of_get HZ3.out)).trans HZ3.out)
  go_wp2_with (first
   | (go_at_call 74;refine(C4.out _).mono ?_;rintro e w9 ⟨rfl,rfl⟩)
   | (go_at_call 134;refine(C5.out _).mono ?_;rintro e w9 ⟨rfl,rfl⟩))
  refine(C6.out _ HB4.out).mono ?_
  rintro e w5 ⟨rfl,hb5⟩
  have HB5:=hid (HB4.out.trans (hb5.mono HB4.out.size))
  have hf5:=(hb5.block w3.heap.size (lt_of_get HF4.out)).trans HF4.out
  have HZ5:=hid ((hb5.block w.heap.size (lt_of_get HZ4.out)).trans HZ4.out)
  have hlt:w.heap.size<w3.heap.size:=lt_of_get HZ3.out
  have ⟨⟨y0,y1,y2,y3,y4,y5⟩,f0,f1,f2,f3,f4,f5⟩:=keep6 hf5
  have ⟨⟨z0,z1,z2,z3,z4,z5⟩,g0,g1,g2,g3,g4,g5⟩:=keep6 HZ5.out
  have HZ6:Hid ((w5.setCell ⟨w3.heap.size,5,none⟩ (.int .i64 num)).heap[w.heap.size]?=_):=hid ((Go.Deep.blk_setCell_other w5 ⟨w3.heap.size,5,none⟩ (.int .i64 num) w.heap.size (by show w.heap.size≠w3.heap.size;omega)).trans HZ5.out)
  have HB6:=hid (HB5.out.setCell (p:=⟨w3.heap.size,5,none⟩) (by show w.heap.size≤w3.heap.size;omega) (.int .i64 num))
  clear hb5 hf5
  go_wp2_with fail
  change bodyPost _ _ _ _ _ (putL (w5.setCell ⟨w3.heap.size,5,none⟩ (.int .i64 num)) w.heap.size 0 [.string u4,.string u5,.bool listed,.bool must,.int .i64 0,.int .i64 num])
  generalize w5.setCell ⟨w3.heap.size,5,none⟩ (.int .i64 num)=w6 at *
  obtain ⟨hr,_,_⟩:=putL_cells (g:=w.heap.size) (o:=0) (l:=[.string u4,.string u5,.bool listed,.bool must,.int .i64 0,.int .i64 num]) HZ6.out (by simp)
  have HBF:=putL_below (g:=w.heap.size) (B:=w.heap.size) (Nat.le_refl _) [.string u4,.string u5,.bool listed,.bool must,.int .i64 0,.int .i64 num] 0 HB6.out
  generalize putL w6 w.heap.size 0 [.string u4,.string u5,.bool listed,.bool must,.int .i64 0,.int .i64 num]=wz at *
  have ⟨x0,x1,x2,x3,x4,x5⟩:=row6z hr
  exact bodyPost_ret (v:=.agg #[.string u4,.string u5,.bool listed,.bool must,.int .i64 0,.int .i64 num]) (by simp[results,Tryz.results122,go_sem,x0,x1,x2,x3,x4,x5]) rfl ⟨rfl,HBF⟩
def FieldsNew(w w':World)(L:List FieldP)(e:Ending):Prop:=∃ a cap,e=.returned (.slice a L.length cap)∧L.length≤cap∧FieldsX w' w.heap.size w'.heap.size a L.length L
set_option maxHeartbeats 4000000 in
theorem implReadFields(t:ByteArray)(w:World)(B:Nat)(hv:VarsR B w)(hB:B≤w.heap.size)(ht:t.size≤8000) :
  Calls Tryz.prog 102 #[.string t] w fun e w'=>FieldsNew w w' ((splitL 32 (bL t)).map fieldQ) e∧Below w.heap.size w w':=by
 have CS:=hid (splitC t 32 w B hv ht)
 have HV:=hid hv
 obtain ⟨hs1,hs2⟩:=textsR_sizes 32 t ht
 have HL0:Hid ((splitL 32 (bL t)).map fieldQ=((splitL 32 (bL t)).map ubR).map fun x=>fieldQ (bL x)):=hid (by rw[List.map_map];exact List.map_congr_left fun x _=>by show fieldQ x=fieldQ (bL (ubR x));rw[ubL])
 rw[HL0.out]
 generalize (splitL 32 (bL t)).map ubR=L at *
 have HS2:=hid hs2
 clear hv HL0 hs2
 go_enter Tryz.func102,Tryz.ntmps102
 go_wp2_with fail
 refine CS.out.mono ?_
 rintro e w1 ⟨⟨a,rfl,hx⟩,hb1⟩
 have HB1:=hid hb1
 have HX:=hid (RowsX.at_ textLies (fun h=>h) hx)
 clear hx hb1
 go_wp2_with fail
 go_loopw [3,9] (fun s i wr=>∃ (i':Nat) (av:Option Addr) (cap:Nat),i'≤L.length∧i=.int .i64 i'∧s=.slice av i' cap∧Hid (OwnFs wr w1.heap.size (.slice av i' cap) ((L.take i').map fun x=>fieldQ (bL x)))∧Hid (Below w1.heap.size w1 wr)∧Below w.heap.size w wr) (fun _ i _=>L.length - (intOf i).toNat)
 case atStart=>exact⟨0,none,0,by omega,rfl,rfl,hid (OwnFs.nil _ _),hid (Below.refl _ _),HB1.out⟩
 case round =>
  obtain ⟨i,av,cap,hi,rfl,rfl,HO,HW1,hb⟩:=hrel
  have HB:=hid hb
  by_cases hlt:i<L.length
  ·have hli:(i:Int)<(L.length:Int):=by omega
   obtain ⟨x,b,off,hd,rfl,hAb,hbb,hok,hc⟩:=(HX.out.below textLies (Nat.le_refl _) HW1.out).at hlt
   rw[Nat.mul_one] at hc
   have HD:=hid hd
   have hx8:=HS2.out x (List.mem_iff_getElem?.2 ⟨i,hd⟩)
   have CF:=hid (implReadField x wr B (HV.out.over hB HB.out) (Nat.le_trans hB HB.out.size) hx8)
   have HLen:Hid (((L.take i).map fun x=>fieldQ (bL x)).length=i):=hid (by rw[List.length_map,List.length_take];omega)
   obtain ⟨f,hf⟩:∃ f,fieldQ (bL x)=f:=⟨_,rfl⟩
   have HF:=hid hf
   rw[hf] at CF
   have hfc:=hid (show f.cells=[.string f.name,.string f.typ,.bool f.list,.bool f.must,.int .i64 f.size,.int .i64 f.cap] from rfl)
   simp only[FieldP.cells] at CF
   clear hd hok hlt hb hx8 hf
   go_wp2_with fail
   refine CF.out.mono ?_
   rintro e w2 ⟨rfl,hb2⟩
   have HW2:=hid (HW1.out.trans (hb2.mono HW1.out.size))
   have HB2:=hid (HB.out.trans (hb2.mono HB.out.size))
   have HO2:Hid (OwnFs (w2.alloc (.cells #[.string f.name,.string f.typ,.bool f.list,.bool f.must,.int .i64 f.size,.int .i64 f.cap] 84)) w1.heap.size (.slice av i cap) ((L.take i).map fun x=>fieldQ (bL x))):=hid ((HO.out.below hb2).below ((Below.refl _ _).alloc (Nat.le_refl _) _))
   have HN:=hid (heap_alloc_new w2 (.cells #[.string f.name,.string f.typ,.bool f.list,.bool f.must,.int .i64 f.size,.int .i64 f.cap] 84))
   have HW3:=hid (HW2.out.alloc HW2.out.size (.cells #[.string f.name,.string f.typ,.bool f.list,.bool f.must,.int .i64 f.size,.int .i64 f.cap] 84))
   have HB3:=hid (HB2.out.alloc HB2.out.size (.cells #[.string f.name,.string f.typ,.bool f.list,.bool f.must,.int .i64 f.size,.int .i64 f.cap] 84))
   clear hb2
   go_wp2_with (at_builtin;refine app_field rfl _ _ rfl w1.heap.size (.slice av i cap) ((L.take i).map fun x=>fieldQ (bL x)) (by first | rfl | (rw[HLen.out];rfl)) HO2.out w2.heap.size 1 rfl f HN.out (by rw[HLen.out];omega) HW3.out.size ?_;rw[HLen.out];intro a3 cap3 w3 hown3 hb3)
   have HW4:=hid (HW3.out.trans hb3)
   have HB4:=hid (HB3.out.trans (hb3.mono HB1.out.size))
   have HO4:Hid (OwnFs w3 w1.heap.size (.slice a3 (i+1) cap3) ((L.take (i+1)).map fun x=>fieldQ (bL x))):=hid (by
    rw[List.take_add_one,HD.out,List.map_append]
    simp only[Option.toList_some,List.map_cons,List.map_nil,HF.out]
    exact hown3)
   clear hown3 hb3
   go_roundw
   case rel=>exact⟨i+1,a3,cap3,by omega,by go_num,rfl,HO4,HW4,HB4.out⟩
   case measure=>simp[intOf];omega
  ·obtain rfl:i=L.length:=by omega
   have hx:=HO.out
   rw[List.take_length] at hx
   have hxl:(L.map fun x=>fieldQ (bL x)).length=L.length:=by rw[List.length_map]
   obtain ⟨a9,c9,he,hc9,hx9⟩:=OwnFs.fieldsX hx (fun f hf=>by
    obtain ⟨y,hy,rfl⟩:=List.mem_map.1 hf
    exact fieldQ_ok y (HS2.out y hy)) (by rw[hxl];omega) HW1.out.size
   rw[hxl] at he hc9
   obtain ⟨rfl,rfl⟩:av=a9∧cap=c9:=by cases he;exact⟨rfl,rfl⟩
   have HX9:=hid hx9
   have HC9:=hid hc9
   clear hlt hb hx he hc9 hx9
   go_wp2_with fail
   go_ret
   exact⟨⟨av,cap,by rw[hxl];rfl,by rw[hxl];exact HC9.out,RowsX.wide HX9.out HB1.out.size (Nat.le_refl _)⟩,HB.out⟩
def TypeNw(w w':World)(x:TypeP)(e:Ending):Prop:=∃ a ca c cc,e=.returned (.agg (x.cells a ca c cc).toArray)∧TypeX w' w.heap.size w'.heap.size (.agg (x.cells a ca c cc).toArray) x
theorem ubR_list(l:Tk):(ubR l).toList=l:=by rw[Lib.toList_data];rfl
theorem typeQ_ok(t:ByteArray)(ht:t.size≤8000):(typeQ (bL t)).ok:=by
 have hl:=bL_len t
 have h1:=cutR_len (bL t) [32]
 have h2:=cutR_len (Lib.cut (bL t) [32]).2.1 [32]
 have hn:OkS (nameQ (bL t)):=okS_ub (by omega)
 unfold typeQ
 split
 ·exact⟨hn,by unfold OkI;simp,pintR_ok _⟩
 ·split
  ·exact⟨hn,by unfold OkI;simp,by unfold OkI;simp⟩
  ·split
   ·exact⟨hn,by unfold OkI;simp,by unfold OkI;simp⟩
   ·exact⟨by unfold OkS zeroType;decide,by unfold OkI zeroType;simp,by unfold OkI zeroType;simp⟩
set_option maxHeartbeats 8000000 in
theorem implReadType(t:ByteArray)(w:World)(B:Nat)(hv:VarsR B w)(hB:B≤w.heap.size)(ht:t.size≤8000) :
  Calls Tryz.prog 75 #[.string t] w fun e w'=>TypeNw w w' (typeQ (bL t)) e∧Below w.heap.size w w':=by
 have HA:Hid (∀ o,Below w.heap.size w (w.alloc o)):=hid fun o=>(Below.refl _ _).alloc (Nat.le_refl _) o
 have HOK:=hid (typeQ_ok t ht)
 have hl:=bL_len t
 have C1:Hid (∀ w',Below w.heap.size w w'→Calls Tryz.prog 100 #[.string t,.string ⟨#[32]⟩] w' fun e w''=>e=.returned (.tuple #[.string (ubR (Lib.cut (bL t) [32]).1),.string (ubR (Lib.cut (bL t) [32]).2.1),.bool (Lib.cut (bL t) [32]).2.2])∧Below w'.heap.size w' w''):=hid fun w' h=>cutC t ⟨#[32]⟩ w' B (hv.over hB h) ht
 have l1:=cutR_len (bL t) [32]
 have HQ:=hid (show typeQ (bL t)=if (Lib.cut (bL t) [32]).1=leafW then ⟨ubR (Lib.cut (Lib.cut (bL t) [32]).2.1 [32]).1,1,pintR (Lib.cut (Lib.cut (bL t) [32]).2.1 [32]).2.1,[],[]⟩
  else if (Lib.cut (bL t) [32]).1=objW then ⟨ubR (Lib.cut (Lib.cut (bL t) [32]).2.1 [32]).1,2,0,(splitL 32 (Lib.cut (Lib.cut (bL t) [32]).2.1 [32]).2.1).map fieldQ,[]⟩
  else if (Lib.cut (bL t) [32]).1=oneW then ⟨ubR (Lib.cut (Lib.cut (bL t) [32]).2.1 [32]).1,3,0,[],(splitL 32 (Lib.cut (Lib.cut (bL t) [32]).2.1 [32]).2.1).map ubR⟩
  else zeroType from rfl)
 generalize typeQ (bL t)=x at *
 generalize Lib.cut (bL t) [32]=c at *
 obtain ⟨first,rest,sp1⟩:=c
 simp only at C1 l1 HQ
 have C2:Hid (∀ w',Below w.heap.size w w'→Calls Tryz.prog 100 #[.string (ubR rest),.string ⟨#[32]⟩] w' fun e w''=>e=.returned (.tuple #[.string (ubR (Lib.cut rest [32]).1),.string (ubR (Lib.cut rest [32]).2.1),.bool (Lib.cut rest [32]).2.2])∧Below w'.heap.size w' w''):=hid fun w' h=>by
  have:=cutC (ubR rest) ⟨#[32]⟩ w' B (hv.over hB h) (by rw[ubR_size];omega)
  rw[ubL] at this;exact this
 have l2:=cutR_len rest [32]
 generalize Lib.cut rest [32]=d at *
 obtain ⟨name,had,sp2⟩:=d
 simp only at C2 l2 HQ
 have CN:Hid (∀ w',Below w.heap.size w w'→Calls Tryz.prog 101 #[.string (ubR had)] w' fun e w''=>e=.returned (.int .i64 (pintR had))∧Below w'.heap.size w' w''):=hid fun w' h=>by
  have:=implNumberOf (ubR had) w' B (hv.over hB h) (by rw[ubR_size];omega)
  rw[ubL] at this;exact this
 have CF:Hid (∀ w',Below w.heap.size w w'→Calls Tryz.prog 102 #[.string (ubR had)] w' fun e w''=>FieldsNew w' w'' ((splitL 32 had).map fieldQ) e∧Below w'.heap.size w' w''):=hid fun w' h=>by
  have:=implReadFields (ubR had) w' B (hv.over hB h) (Nat.le_trans hB h.size) (by rw[ubR_size];omega)
  rw[ubL] at this;exact this
 have CS:Hid (∀ w',Below w.heap.size w w'→Calls Tryz.prog 68 #[.string (ubR had),.string ⟨#[32]⟩] w' fun e w''=>(∃ a,e=.returned (.slice a ((splitL 32 had).map ubR).length ((splitL 32 had).map ubR).length)∧TextsX w'' w'.heap.size w''.heap.size a ((splitL 32 had).map ubR).length ((splitL 32 had).map ubR))∧Below w'.heap.size w' w''):=hid fun w' h=>by
  have:=splitC (ubR had) 32 w' B (hv.over hB h) (by rw[ubR_size];omega)
  rw[ubL] at this;exact this
 generalize pintR had=num at *
 generalize (splitL 32 had).map fieldQ=FL at *
 generalize (splitL 32 had).map ubR=ML at *
 have hfl:(ubR first).toList=first:=ubR_list first
 generalize ubR name=nm at *
 generalize ubR rest=u1 at *
 generalize ubR had=u2 at *
 generalize ubR first=u0 at *
 have HZ0:=hid (heap_alloc_new w (.cells #[.string ⟨#[]⟩,.int .i64 0,.int .i64 0,.slice none 0 0,.slice none 0 0] 77))
 clear hv l1 l2 hl
 go_enter Tryz.func75,Tryz.ntmps75
 go_wp2_with fail
 refine(C1.out _ (HA.out _)).mono ?_
 rintro e w1 ⟨rfl,hb1⟩
 have HB1:=hid ((HA.out _).trans (hb1.mono (HA.out _).size))
 have HZ1:=hid ((hb1.block w.heap.size (lt_of_get HZ0.out)).trans HZ0.out)
 clear hb1
 go_wp2_with fail
 refine(C2.out _ HB1.out).mono ?_
 rintro e w2 ⟨rfl,hb2⟩
 have HB2:=hid (HB1.out.trans (hb2.mono HB1.out.size))
 have HZ2:=hid ((hb2.block w.heap.size (lt_of_get HZ1.out)).trans HZ1.out)
 clear hb2
 have hz2:=lt_of_get HZ2.out
 have ⟨⟨z0,z1,z2,z3,z4⟩,g0,g1,g2,g3,g4⟩:=keep5 HZ2.out
 by_cases q1:first=leafW
 ·have e1:(u0.toList == [108,101,97,102])=true:=by rw[hfl,q1];rfl
  have hx:Hid (x=⟨nm,1,num,[],[]⟩):=hid (by rw[HQ.out,if_pos q1])
  clear q1 hfl HQ
  go_wp2_with fail
  refine(CN.out _ HB2.out).mono ?_
  rintro e w3 ⟨rfl,hb3⟩
  have HB3:=hid (HB2.out.trans (hb3.mono HB2.out.size))
  have HZ3:=hid ((hb3.block w.heap.size hz2).trans HZ2.out)
  clear hb3 z0 z1 z2 z3 z4 g0 g1 g2 g3 g4
  have ⟨⟨z0,z1,z2,z3,z4⟩,g0,g1,g2,g3,g4⟩:=keep5 HZ3.out
  go_wp2_with fail
  change bodyPost _ _ _ _ _ (putL w3 w.heap.size 0 [.string nm,.int .i64 1,.int .i64 num,.slice none 0 0,.slice none 0 0])
  obtain ⟨hr,_,_⟩:=putL_cells (g:=w.heap.size) (o:=0) (l:=[.string nm,.int .i64 1,.int .i64 num,.slice none 0 0,.slice none 0 0]) HZ3.out (by simp)
  have HBF:=putL_below (g:=w.heap.size) (B:=w.heap.size) (Nat.le_refl _) [.string nm,.int .i64 1,.int .i64 num,.slice none 0 0,.slice none 0 0] 0 HB3.out
  generalize putL w3 w.heap.size 0 [.string nm,.int .i64 1,.int .i64 num,.slice none 0 0,.slice none 0 0]=wz at *
  have ⟨x0,x1,x2,x3,x4⟩:=row5z hr
  exact bodyPost_ret (v:=.agg #[.string nm,.int .i64 1,.int .i64 num,.slice none 0 0,.slice none 0 0]) (by simp[results,Tryz.results75,go_sem,x0,x1,x2,x3,x4]) rfl ⟨by
   rw[hx.out];exact⟨none,0,none,0,rfl,none,0,none,0,w.heap.size,rfl,by rw[←hx.out];exact HOK.out,⟨RowsX.nil (Nat.le_refl _),Nat.le_refl _⟩,RowsX.nil HBF.size,Nat.le_refl _⟩,HBF⟩
 have e1:(u0.toList == [108,101,97,102])=false:=by rw[hfl];exact beq_eq_false_iff_ne.2 q1
 by_cases q2:first=objW
 ·have e2:(u0.toList == [111,98,106])=true:=by rw[hfl,q2];rfl
  have hx:Hid (x=⟨nm,2,0,FL,[]⟩):=hid (by rw[HQ.out,if_neg q1,if_pos q2])
  clear q1 q2 hfl HQ
  go_wp2_with fail
  refine(CF.out _ HB2.out).mono ?_
  rintro e w3 ⟨⟨fa,fcap,rfl,hfc,hfx⟩,hb3⟩
  have HFX:=hid hfx
  have HFC:=hid hfc
  have HB3:=hid (HB2.out.trans (hb3.mono HB2.out.size))
  have HZ3:=hid ((hb3.block w.heap.size hz2).trans HZ2.out)
  clear hb3 hfx hfc z0 z1 z2 z3 z4 g0 g1 g2 g3 g4
  have ⟨⟨z0,z1,z2,z3,z4⟩,g0,g1,g2,g3,g4⟩:=keep5 HZ3.out
  go_wp2_with fail
  change bodyPost _ _ _ _ _ (putL w3 w.heap.size 0 [.string nm,.int .i64 2,.int .i64 0,.slice fa FL.length fcap,.slice none 0 0])
  obtain ⟨hr,_,_⟩:=putL_cells (g:=w.heap.size) (o:=0) (l:=[.string nm,.int .i64 2,.int .i64 0,.slice fa FL.length fcap,.slice none 0 0]) HZ3.out (by simp)
  have HBF:=putL_below (g:=w.heap.size) (B:=w.heap.size) (Nat.le_refl _) [.string nm,.int .i64 2,.int .i64 0,.slice fa FL.length fcap,.slice none 0 0] 0 HB3.out
  have hsz:=putL_size [.string nm,.int .i64 2,.int .i64 0,.slice fa FL.length fcap,.slice none 0 0] w3 w.heap.size 0
  have HTZ:=HFX.out.block (w':=putL w3 w.heap.size 0 [.string nm,.int .i64 2,.int .i64 0,.slice fa FL.length fcap,.slice none 0 0]) fieldLies fun q p1 p2=>putL_other _ _ _ _ q (by omega)
  generalize putL w3 w.heap.size 0 [.string nm,.int .i64 2,.int .i64 0,.slice fa FL.length fcap,.slice none 0 0]=wz at *
  have ⟨x0,x1,x2,x3,x4⟩:=row5z hr
  rw[←hsz] at HTZ
  exact bodyPost_ret (v:=.agg #[.string nm,.int .i64 2,.int .i64 0,.slice fa FL.length fcap,.slice none 0 0]) (by simp[results,Tryz.results75,go_sem,x0,x1,x2,x3,x4]) rfl ⟨by
   rw[hx.out];exact⟨fa,fcap,none,0,rfl,fa,fcap,none,0,wz.heap.size,rfl,by rw[←hx.out];exact HOK.out,⟨HTZ.wide (by omega) (Nat.le_refl _),HFC.out⟩,RowsX.nil (Nat.le_refl _),Nat.le_refl _⟩,HBF⟩
 have e2:(u0.toList == [111,98,106])=false:=by rw[hfl];exact beq_eq_false_iff_ne.2 q2
 by_cases q3:first=oneW
 ·have e3:(u0.toList == [111,110,101])=true:=by rw[hfl,q3];rfl
  have hx:Hid (x=⟨nm,3,0,[],ML⟩):=hid (by rw[HQ.out,if_neg q1,if_neg q2,if_pos q3])
  clear q1 q2 q3 hfl HQ
  go_wp2_with fail
  refine(CS.out _ HB2.out).mono ?_
  rintro e w3 ⟨⟨fa,rfl,hfx⟩,hb3⟩
  have HFX:=hid hfx
  have HB3:=hid (HB2.out.trans (hb3.mono HB2.out.size))
  have HZ3:=hid ((hb3.block w.heap.size hz2).trans HZ2.out)
  clear hb3 hfx z0 z1 z2 z3 z4 g0 g1 g2 g3 g4
  have ⟨⟨z0,z1,z2,z3,z4⟩,g0,g1,g2,g3,g4⟩:=keep5 HZ3.out
  go_wp2_with fail
  change bodyPost _ _ _ _ _ (putL w3 w.heap.size 0 [.string nm,.int .i64 3,.int .i64 0,.slice none 0 0,.slice fa ML.length ML.length])
  obtain ⟨hr,_,_⟩:=putL_cells (g:=w.heap.size) (o:=0) (l:=[.string nm,.int .i64 3,.int .i64 0,.slice none 0 0,.slice fa ML.length ML.length]) HZ3.out (by simp)
  have HBF:=putL_below (g:=w.heap.size) (B:=w.heap.size) (Nat.le_refl _) [.string nm,.int .i64 3,.int .i64 0,.slice none 0 0,.slice fa ML.length ML.length] 0 HB3.out
  have hsz:=putL_size [.string nm,.int .i64 3,.int .i64 0,.slice none 0 0,.slice fa ML.length ML.length] w3 w.heap.size 0
  have HTZ:=HFX.out.block (w':=putL w3 w.heap.size 0 [.string nm,.int .i64 3,.int .i64 0,.slice none 0 0,.slice fa ML.length ML.length]) textLies fun q p1 p2=>putL_other _ _ _ _ q (by omega)
  generalize putL w3 w.heap.size 0 [.string nm,.int .i64 3,.int .i64 0,.slice none 0 0,.slice fa ML.length ML.length]=wz at *
  have ⟨x0,x1,x2,x3,x4⟩:=row5z hr
  rw[←hsz] at HTZ
  exact bodyPost_ret (v:=.agg #[.string nm,.int .i64 3,.int .i64 0,.slice none 0 0,.slice fa ML.length ML.length]) (by simp[results,Tryz.results75,go_sem,x0,x1,x2,x3,x4]) rfl ⟨by
   rw[hx.out];exact⟨none,0,fa,ML.length,rfl,none,0,fa,ML.length,w.heap.size,rfl,by rw[←hx.out];exact HOK.out,⟨RowsX.nil (Nat.le_refl _),Nat.le_refl _⟩,HTZ.wide (by omega) (Nat.le_refl _),Nat.le_refl _⟩,HBF⟩
 have e3:(u0.toList == [111,110,101])=false:=by rw[hfl];exact beq_eq_false_iff_ne.2 q3
 have hx:Hid (x=zeroType):=hid (by rw[HQ.out,if_neg q1,if_neg q2,if_neg q3])
 clear q1 q2 q3 hfl HQ
 go_wp2_with fail
 change bodyPost _ _ _ _ _ (putL w2 w.heap.size 0 [.string ⟨#[]⟩,.int .i64 0,.int .i64 0,.slice none 0 0,.slice none 0 0])
 obtain ⟨hr,_,_⟩:=putL_cells (g:=w.heap.size) (o:=0) (l:=[.string ⟨#[]⟩,.int .i64 0,.int .i64 0,.slice none 0 0,.slice none 0 0]) HZ2.out (by simp)
 have HBF:=putL_below (g:=w.heap.size) (B:=w.heap.size) (Nat.le_refl _) [.string ⟨#[]⟩,.int .i64 0,.int .i64 0,.slice none 0 0,.slice none 0 0] 0 HB2.out
 generalize putL w2 w.heap.size 0 [.string ⟨#[]⟩,.int .i64 0,.int .i64 0,.slice none 0 0,.slice none 0 0]=wz at *
 have ⟨x0,x1,x2,x3,x4⟩:=row5z hr
 exact bodyPost_ret (v:=.agg #[.string ⟨#[]⟩,.int .i64 0,.int .i64 0,.slice none 0 0,.slice none 0 0]) (by simp[results,Tryz.results75,go_sem,x0,x1,x2,x3,x4]) rfl ⟨by
  rw[hx.out];exact⟨none,0,none,0,rfl,none,0,none,0,w.heap.size,rfl,by rw[←hx.out];exact HOK.out,⟨RowsX.nil (Nat.le_refl _),Nat.le_refl _⟩,RowsX.nil HBF.size,Nat.le_refl _⟩,HBF⟩
theorem okT_of{w:World}{A B:Nat}{x:TypeP}{a:Option Addr}{ca:Nat}{c:Option Addr}{cc:Nat}(h:TypeX w A B (.agg (x.cells a ca c cc).toArray) x):OkT w ⟨x,a,ca,c,cc,A,B,false⟩:=by
 obtain ⟨a',ca',c',cc',M,hv,hk,h2,h3⟩:=h
 simp[TypeP.cells] at hv
 obtain ⟨⟨rfl,rfl⟩,rfl,rfl⟩:=hv
 exact⟨hk,fun e=>(by cases e),M,h2,h3⟩
set_option maxHeartbeats 8000000 in
theorem implReadSchema(t:ByteArray)(w:World)(B:Nat)(hv:VarsR B w)(hB:B≤w.heap.size)(ht:t.size≤8000) :
  Calls Tryz.prog 47 #[.string t] w fun e w'=>(∃ a ca,e=.returned (.agg #[.slice a (schemaQ (bL t)).length ca])∧SchemaX w' w.heap.size w'.heap.size (.agg #[.slice a (schemaQ (bL t)).length ca]) (schemaQ (bL t)))∧Below w.heap.size w w':=by
 have HA:Hid (∀ o,Below w.heap.size w (w.alloc o)):=hid fun o=>(Below.refl _ _).alloc (Nat.le_refl _) o
 have HV:=hid hv
 have hl:=bL_len t
 have C1:Hid (∀ w',Calls Tryz.prog 69 #[.string t] w' fun e w''=>e=.returned (.string t)∧Below w'.heap.size w' w''):=hid fun w'=>Clones.clone t w' (by omega)
 have C2:Hid (∀ w',Calls Tryz.prog 74 #[.string t,.string ⟨#[10]⟩] w' fun e w''=>e=.returned (.string (ubR (Lib.trimSuffix (bL t) [10])))∧w'=w''):=hid fun w'=>trimC t ⟨#[10]⟩ w' ht
 have l1:=trimR_len (bL t) [10]
 have HQ:=hid (show schemaQ (bL t)=(splitL 10 (Lib.trimSuffix (bL t) [10])).map typeQ from rfl)
 generalize Lib.trimSuffix (bL t) [10]=u at *
 obtain ⟨hs1,hs2⟩:=textsR_sizes 10 (ubR u) (by rw[ubR_size];omega)
 rw[ubL] at hs1 hs2
 have C3:Hid (∀ w',Below w.heap.size w w'→Calls Tryz.prog 68 #[.string (ubR u),.string ⟨#[10]⟩] w' fun e w''=>(∃ a,e=.returned (.slice a ((splitL 10 u).map ubR).length ((splitL 10 u).map ubR).length)∧TextsX w'' w'.heap.size w''.heap.size a ((splitL 10 u).map ubR).length ((splitL 10 u).map ubR))∧Below w'.heap.size w' w''):=hid fun w' h=>by
  have:=splitC (ubR u) 10 w' B (hv.over hB h) (by rw[ubR_size];omega)
  rw[ubL] at this;exact this
 have HL0:Hid (schemaQ (bL t)=((splitL 10 u).map ubR).map fun x=>typeQ (bL x)):=hid (by rw[HQ.out,List.map_map];exact List.map_congr_left fun x _=>by show typeQ x=typeQ (bL (ubR x));rw[ubL])
 rw[HL0.out]
 generalize (splitL 10 u).map ubR=L at *
 generalize ubR u=u1 at *
 have HS2:=hid hs2
 have HZ0:=hid (heap_alloc_new w (.cells #[.slice none 0 0] 35))
 clear hv HL0 hs2 HQ l1 hl
 go_enter Tryz.func47,Tryz.ntmps47
 go_wp2_with (first
  | (go_at_call 74;refine(C2.out _).mono ?_;rintro e w9 ⟨rfl,rfl⟩)
  | (go_at_call 69;refine(C1.out _).mono ?_;rintro e w1 ⟨rfl,hb1⟩)
  | (go_at_call 68;have HB1:=hid ((HA.out (.cells #[.slice none 0 0] 35)).trans (hb1.mono (HA.out _).size));have HZ1:=hid ((hb1.block w.heap.size (lt_of_get HZ0.out)).trans HZ0.out);clear hb1;refine(C3.out _ HB1.out).mono ?_;rintro e w2 ⟨⟨a,rfl,hx⟩,hb2⟩;have HB2:=hid (HB1.out.trans (hb2.mono HB1.out.size));have HZ2:=hid ((hb2.block w.heap.size (lt_of_get HZ1.out)).trans HZ1.out);have HX:=hid (RowsX.at_ textLies (fun h=>h) hx);clear hx hb2))
 obtain ⟨g,hg⟩:∃ g,w2.heap.size=g:=⟨_,rfl⟩
 have HG0:=hid (heap_alloc_new w2 (.cells #[.slice none 0 0] 35))
 have HZ3:=hid ((Go.Deep.blk_alloc_lt w2 (.cells #[.slice none 0 0] 35) w.heap.size (lt_of_get HZ2.out)).trans HZ2.out)
 have HW0:Hid (Below w2.heap.size w2 (w2.alloc (.cells #[.slice none 0 0] 35))):=hid ((Below.refl _ _).alloc (Nat.le_refl _) _)
 have HB3:=hid (HB2.out.alloc HB2.out.size (.cells #[.slice none 0 0] 35))
 have hwg:w.heap.size<g:=by rw[←hg];exact lt_of_get HZ2.out
 rw[hg] at HG0 HW0 HX ⊢
 go_loopw [13] (fun i wr=>∃ (i':Nat) (av:Option Addr) (cap:Nat),i'≤L.length∧i=.int .i64 i'∧Hid (wr.heap[w.heap.size]?=some (.cells #[.slice none 0 0] 35 (0,0)))∧Hid (wr.heap[g]?=some (.cells #[.slice av i' cap] 35 (0,0)))∧Hid (∃ R:List RowT,R.length=i'∧R.map RowT.x=(L.take i').map (fun x=>typeQ (bL x))∧OwnTy wr (g+1) (.slice av i' cap) R)∧Hid (Below g w2 wr)∧Below w.heap.size w wr) (fun i _=>L.length - (intOf i).toNat)
 case atStart=>exact⟨0,none,0,by omega,rfl,HZ3,HG0,hid ⟨[],rfl,rfl,OwnTy.nil _ _⟩,HW0,HB3.out⟩
 case round =>
  clear HZ3 HG0 HW0 HB3
  obtain ⟨i,av,cap,hi,rfl,HZ,HG,HR,HW,hb⟩:=hrel
  have HB:=hid hb
  have hgl:=lt_of_get HG.out
  by_cases hlt:i<L.length
  ·have hli:(i:Int)<(L.length:Int):=by omega
   obtain ⟨x,b,off,hd,rfl,hAb,hbb,hok,hc⟩:=(HX.out.below textLies (Nat.le_refl _) HW.out).at hlt
   rw[Nat.mul_one] at hc
   have HD:=hid hd
   have hx8:=HS2.out x (List.mem_iff_getElem?.2 ⟨i,hd⟩)
   obtain ⟨R,hRl,hRm,hRo⟩:=HR.out
   have HRM:=hid hRm
   have HRO:=hid (hRo.below (Below.refl _ wr).drew)
   have HBd:=hid HB.out.drew
   have CT:=hid (implReadType x wr.drew B (HV.out.over hB HBd.out) (Nat.le_trans hB HBd.out.size) hx8)
   have HGd:Hid (wr.drew.heap[g]?=some (.cells #[.slice av i cap] 35 (0,0))):=hid HG.out
   have HZd:Hid (wr.drew.heap[w.heap.size]?=some (.cells #[.slice none 0 0] 35 (0,0))):=hid HZ.out
   have HWd:=hid HW.out.drew
   have ⟨n0,_⟩:=keep1 HGd.out
   obtain ⟨y,hy⟩:∃ y,typeQ (bL x)=y:=⟨_,rfl⟩
   have HY:=hid hy
   rw[hy] at CT
   have CT2:Hid (Calls Tryz.prog 75 #[.string x] wr.drew fun e w'=>(∃ a ca c cc,e=.returned (.agg #[.string y.name,.int .i64 y.kind,.int .i64 y.bytes,.slice a y.fields.length ca,.slice c y.members.length cc])∧TypeX w' wr.drew.heap.size w'.heap.size (.agg (y.cells a ca c cc).toArray) y)∧Below wr.drew.heap.size wr.drew w'):=hid CT.out
   clear hd hok hlt hb hx8 hRm hRo hy HR CT
   go_wp2_with fail
   go_region_law (first
    | (refine step_app_type (by rfl) _ _ (by rfl) (g+1) (.slice av i cap) R (by rfl) HO4.out w3.heap.size 1 (by rfl) ⟨y,fa,fca,fc,fcc,wr.heap.size,w3.heap.size,false⟩ HC4.out ⟨HT4.out,hgl,by simp,HOW.out⟩ HORD.out (by omega) hz4 ?_;intro a5 cap5 w5 hown5 hb5;have HG5:=hid ((hb5.block g (by omega)).trans HG4.out);have ⟨s0,r0⟩:=keep1 HG5.out)
    | (go_simp; go_at_call 75; refine CT2.out.mono ?_; rintro e w3 ⟨⟨fa, fca, fc, fcc, rfl, htx⟩, hb3⟩; go_must (first | (have HT3 := Lib.hid (okT_of htx)) | fail "HT3"); go_must (first | (have HG3 := Lib.hid ((hb3.block g hgl).trans HGd.out)) | fail "HG3"); go_must (first | (have hgl3 := lt_of_get HG3.out) | fail "hgl3"); have ⟨p0, _⟩ := keep1 HG3.out; go_must (first | (have HO4 : Hid (OwnTy (w3.alloc (.cells #[.string y.name, .int .i64 y.kind, .int .i64 y.bytes, .slice fa y.fields.length fca, .slice fc y.members.length fcc] 77)) (g + 1) (.slice av i cap) R) := Lib.hid ((HRO.out.below hb3).below ((Below.refl _ _).alloc (Nat.le_refl _) _))) | fail "HO4"); go_must (first | (have HC4 : Hid ((w3.alloc (.cells #[.string y.name, .int .i64 y.kind, .int .i64 y.bytes, .slice fa y.fields.length fca, .slice fc y.members.length fcc] 77)).heap[w3.heap.size]? = some (.cells #[.string y.name, .int .i64 y.kind, .int .i64 y.bytes, .slice fa y.fields.length fca, .slice fc y.members.length fcc] 77 (0, 0))) := Lib.hid (heap_alloc_new w3 _)) | fail "HC4"); go_must (first | (have HT4 : Hid (OkT (w3.alloc (.cells #[.string y.name, .int .i64 y.kind, .int .i64 y.bytes, .slice fa y.fields.length fca, .slice fc y.members.length fcc] 77)) ⟨y, fa, fca, fc, fcc, wr.heap.size, w3.heap.size, false⟩) := Lib.hid (HT3.out.block fun q _ q2 => Go.Deep.blk_alloc_lt w3 _ q q2)) | fail "HT4"); go_must (first | (have HOW : Hid (∀ g', (Value.slice av i cap).ownBlock = some g' → g' < wr.heap.size ∨ w3.heap.size ≤ g') := Lib.hid (by intro g' h; exact Or.inl (HRO.out.owner h))) | fail "HOW"); go_must (first | (have HORD : Hid (∀ q ∈ R, q.hi ≤ wr.heap.size) := Lib.hid (fun q hq => (HRO.out.ok q hq).2.2.1)) | fail "HORD"); go_must (first | (have hz4 : g + 1 ≤ (w3.alloc (.cells #[.string y.name, .int .i64 y.kind, .int .i64 y.bytes, .slice fa y.fields.length fca, .slice fc y.members.length fcc] 77)).heap.size := (by simp; omega)) | fail "hz4"); go_must (first | (have HG4 := Lib.hid ((Go.Deep.blk_alloc_lt w3 (.cells #[.string y.name, .int .i64 y.kind, .int .i64 y.bytes, .slice fa y.fields.length fca, .slice fc y.members.length fcc] 77) g hgl3).trans HG3.out)) | fail "HG4"); have ⟨v0, _⟩ := keep1 HG4.out))
   all_goals
    rw[hRl] at hown5
    have hoth:∀ q,q≠g→(w5.setCell ⟨g,0,none⟩ (.slice a5 (i+1) cap5)).heap[q]?=w5.heap[q]?:=fun q hq=>Go.Deep.blk_setCell_other _ ⟨g,0,none⟩ _ q hq
    have hsz:(w5.setCell ⟨g,0,none⟩ (.slice a5 (i+1) cap5)).heap.size=w5.heap.size:=by simp
    have HA4:=hid ((Below.refl w3.heap.size w3).alloc (Nat.le_refl _) (.cells #[.string y.name,.int .i64 y.kind,.int .i64 y.bytes,.slice fa y.fields.length fca,.slice fc y.members.length fcc] 77))
    have HW5:=hid (((HWd.out.trans (hb3.mono (Nat.le_of_lt hgl))).trans (HA4.out.mono (Nat.le_of_lt hgl3))).trans (hb5.mono (by omega)))
    have HB5:=hid (((HBd.out.trans (hb3.mono HBd.out.size)).trans (HA4.out.mono (HBd.out.trans (hb3.mono HBd.out.size)).size)).trans (hb5.mono (by omega)))
    have HZ5:=hid ((hb5.block w.heap.size (by omega)).trans ((HA4.out.block w.heap.size (Nat.lt_trans hwg hgl3)).trans ((hb3.block w.heap.size (lt_of_get HZd.out)).trans HZd.out)))
    have HZ6:Hid ((w5.setCell ⟨g,0,none⟩ (.slice a5 (i+1) cap5)).heap[w.heap.size]?=some (.cells #[.slice none 0 0] 35 (0,0))):=hid ((hoth w.heap.size (by omega)).trans HZ5.out)
    have HG6:Hid ((w5.setCell ⟨g,0,none⟩ (.slice a5 (i+1) cap5)).heap[g]?=some (.cells #[.slice a5 (i+1) cap5] 35 (0,0))):=hid (heap_setCell_same w5 g 0 _ _ _ HG5.out)
    have HR6:Hid (∃ R':List RowT,R'.length=i+1∧R'.map RowT.x=(L.take (i+1)).map (fun x=>typeQ (bL x))∧OwnTy (w5.setCell ⟨g,0,none⟩ (.slice a5 (i+1) cap5)) (g+1) (.slice a5 (i+1) cap5) R'):=hid ⟨R++[⟨y,fa,fca,fc,fcc,wr.heap.size,w3.heap.size,false⟩],by simp[hRl],by
     rw[List.map_append,HRM.out,List.take_add_one,HD.out,List.map_append]
     simp only[Option.toList_some,List.map_cons,List.map_nil,HY.out],OwnTy.frame hown5 (by omega) fun q q1 q2=>hoth q (by omega)⟩
    have HW6:=hid (HW5.out.setCell (p:=⟨g,0,none⟩) (Nat.le_refl _) (.slice a5 (i+1) cap5))
    have HB6:=hid (HB5.out.setCell (p:=⟨g,0,none⟩) (by show w.heap.size≤g;omega) (.slice a5 (i+1) cap5))
    clear hb3 hb5 hown5 hoth
    go_wp2_with fail
    go_roundw
    case rel=>exact⟨i+1,a5,cap5,by omega,by go_num,HZ6,HG6,HR6,HW6,HB6.out⟩
    case measure=>simp[intOf];omega
  ·obtain rfl:i=L.length:=by omega
   obtain ⟨R,hRl,hRm,hRo⟩:=HR.out
   rw[List.take_length] at hRm
   obtain ⟨a9,c9,he,hc9,hx9⟩:=OwnTy.typesX hRo (by omega) hgl
   rw[hRl] at he hc9 hx9
   rw[hRm] at hx9
   obtain ⟨rfl,rfl⟩:av=a9∧cap=c9:=by cases he;exact⟨rfl,rfl⟩
   have HX9:=hid hx9
   have HC9:=hid hc9
   have ⟨n0,p0⟩:=keep1 HG.out
   have ⟨z0,f0⟩:=keep1 HZ.out
   clear hlt hb he hc9 hx9 hRl hRm hRo HR
   go_wp2_with fail
   change bodyPost _ _ _ _ _ (putL wr w.heap.size 0 [.slice av L.length cap])
   obtain ⟨hr,_,_⟩:=putL_cells (g:=w.heap.size) (o:=0) (l:=[.slice av L.length cap]) HZ.out (by simp)
   have HBF:=putL_below (g:=w.heap.size) (B:=w.heap.size) (Nat.le_refl _) [.slice av L.length cap] 0 HB.out
   have hsz:=putL_size [.slice av L.length cap] wr w.heap.size 0
   have HTZ:=HX9.out.block (w':=putL wr w.heap.size 0 [.slice av L.length cap]) typeLiesX fun q q1 q2=>putL_other _ _ _ _ q (by omega)
   generalize putL wr w.heap.size 0 [.slice av L.length cap]=wz at *
   have x0:=hr 0 _ rfl
   rw[←hsz] at HTZ
   have hml:(L.map fun x=>typeQ (bL x)).length=L.length:=by rw[List.length_map]
   exact bodyPost_ret (v:=.agg #[.slice av L.length cap]) (by simp[results,Tryz.results47,go_sem,x0]) rfl ⟨⟨av,cap,by rw[hml],av,cap,by rw[hml],by rw[hml];exact HTZ.wide (by omega) (Nat.le_refl _),by rw[hml];exact HC9.out⟩,HBF⟩
end Go.Proofs.YtmembhpoidcmlaaGreatDoor.Rw
