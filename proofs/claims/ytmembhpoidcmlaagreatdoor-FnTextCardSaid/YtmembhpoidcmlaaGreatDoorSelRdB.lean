/-
  Contracts: the program's reader of one selection reads, if its reader of braces does. Conditions: as each theorem says.
-/
import Derived.Test.YtmembhpoidcmlaaGreatDoorRows
import Derived.Test.YtmembhpoidcmlaaGreatDoorReadS
import Derived.Lib.IndexMore
import Derived.Lib.ParseIntBTie
import Derived.Lib.Join
import Derived.Test.YtmembhpoidcmlaaGreatDoorFieldWord
import Derived.Test.YtmembhpoidcmlaaGreatDoorVars
import Derived.Lib.AtoiErrMem
import Derived.Test.YtmembhpoidcmlaaGreatDoorImplCount
namespace Go.Proofs.YtmembhpoidcmlaaGreatDoor.Selss
open Go.RowKit Words Decs Splits
set_option linter.unusedVariables false
set_option maxRecDepth 100000
theorem index_word{c:UInt8}{b:Tok}:∀ {a:Tok},c∉a→Lib.index (a++c::b) [c]=a.length
 | [],_=>by simp[Lib.index]
 | x::a,h=>by
  have hx:c≠x:=fun e=>h (by simp[e])
  have ih:=index_word (b:=b) (a:=a) (fun e=>h (List.mem_cons_of_mem _ e))
  rw[List.cons_append,Lib.index,if_neg (by simp[hx]),ih]
  rw[if_neg (by rw[beq_iff_eq];omega),List.length_cons];omega
theorem index_none{c:UInt8}:∀ {a:Tok},c∉a→Lib.index a [c]=-1
 | [],_=>by simp[Lib.index]
 | x::a,h=>by
  have hx:c≠x:=fun e=>h (by simp[e])
  have ih:=index_none (a:=a) (fun e=>h (List.mem_cons_of_mem _ e))
  rw[Lib.index,if_neg (by simp[hx]),ih];rfl
theorem cut_word{c:UInt8}{a b:Tok}(h:c∉a):Lib.cut (a++c::b) [c]=(a,b,true):=by
 unfold Lib.cut
 rw[index_word h,if_pos (by omega)]
 simp
theorem cut_none{c:UInt8}{a:Tok}(h:c∉a):Lib.cut a [c]=(a,[],false):=by
 unfold Lib.cut
 rw[index_none h,if_neg (by omega)]
theorem cut_len(s sep:Tok):(Lib.cut s sep).1.length≤s.length∧(Lib.cut s sep).2.1.length≤s.length:=by
 unfold Lib.cut
 split
 ·simp only[List.length_take,List.length_drop];omega
 ·simp
theorem trim_last(a:Tok)(c:UInt8):Lib.trimSuffix (a++[c]) [c]=a:=by
 unfold Lib.trimSuffix Lib.hasSuffix
 rw[if_pos (by rw[List.isSuffixOf_iff_suffix];exact List.suffix_append a [c])]
 simp
theorem trim_len(s p:Tok):(Lib.trimSuffix s p).length≤s.length:=by
 unfold Lib.trimSuffix
 split
 ·rw[List.length_take];omega
 ·exact Nat.le_refl _
def pint(l:Tok):Int:=match Lib.parseIntB 64 l with
 | .ok v=>v
 | Lib.NumEnd.syntax=>0
 | .range=>Lib.intSat 64 l
theorem pint_ok(l:Tok):-9223372036854775808≤pint l∧pint l≤9223372036854775807:=by
 unfold pint
 rcases h:Lib.parseIntB 64 l with v|_|_
 ·have:=Lib.parseIntB_bounds h
  have e:((2 ^ (64 - 1):Nat):Int)=9223372036854775808:=by decide
  rw[e] at this
  simp only;omega
 ·simp only;omega
 ·have e:(2 ^ (64 - 1):Nat)=9223372036854775808:=by decide
  simp only[Lib.intSat]
  split <;> rw[e] <;> omega
theorem pint_one:∀ n:Fin 10,pint [UInt8.ofNat (48+n.val)]=(n.val:Int):=by decide +kernel
theorem pint_two:∀ p:Fin 100,pint [UInt8.ofNat (48+p.val / 10),UInt8.ofNat (48+p.val % 10)]=(p.val:Int):=by decide +kernel
theorem pint_100:pint [49,48,48]=100:=by decide +kernel
theorem pint_dec{f:Int}(h0:0≤f)(h1:f≤100):pint (bl (decB f))=f:=by
 rw[bl_dec h0]
 obtain ⟨n,rfl⟩:=Int.eq_ofNat_of_zero_le h0
 rw[Int.toNat_natCast]
 have hn:n≤100:=by omega
 by_cases h2:n<10
 ·rw[decL_small h2];exact pint_one ⟨n,h2⟩
 ·by_cases h3:n<100
  ·rw[decL_big (by omega),decL_small (by omega)];exact pint_two ⟨n,h3⟩
  ·obtain rfl:n=100:=by omega
   rw[decL_big (by omega),decL_big (by omega),decL_small (by omega)]
   exact pint_100
def fCand(t:Tok):Tok×Tok×Int :=
 ((Lib.cut (Lib.cut t [40]).1 [58]).1,(if (Lib.cut (Lib.cut t [40]).1 [58]).2.2 then (Lib.cut (Lib.cut t [40]).1 [58]).2.1 else (Lib.cut (Lib.cut t [40]).1 [58]).1),if (Lib.cut t [40]).2.2 then pint (Lib.trimSuffix (Lib.cut t [40]).2.1 [41]) else -1)
theorem fCand_len(t:Tok):(fCand t).1.length≤t.length∧(fCand t).2.1.length≤t.length:=by
 have h1:=(cut_len t [40]).1
 have h2:=cut_len (Lib.cut t [40]).1 [58]
 unfold fCand
 constructor
 ·simp only;omega
 ·simp only
  split <;> omega
theorem fCand_int(t:Tok):-9223372036854775808≤(fCand t).2.2∧(fCand t).2.2≤9223372036854775807:=by
 unfold fCand
 simp only
 split
 ·exact pint_ok _
 ·omega
theorem fCand_field{key nm:ByteArray}{f:Int}(hk:wordB key=true)(hn:wordB nm=true)(h0:-1≤f)(h1:f≤100):fCand (bl (fieldT key nm f))=(bl key,bl nm,f):=by
 rw[field_bl]
 have ka:=not_mem_word hk (c:=40) (by decide)
 have kb:=not_mem_word hk (c:=58) (by decide)
 have na:=not_mem_word hn (c:=40) (by decide)
 have nb:=not_mem_word hn (c:=58) (by decide)
 have hA:(40:UInt8)∉((if key=nm then [] else bl key++[58])++bl nm):=by
  by_cases e1:key=nm
  ·simp[e1,na]
  ·simp[e1,ka,na]
 have hS:Lib.cut ((if key=nm then [] else bl key++[58])++bl nm) [58]=(if key=nm then (bl nm,[],false) else (bl key,bl nm,true)):=by
  by_cases e1:key=nm
  ·rw[if_pos e1,if_pos e1,List.nil_append,cut_none nb]
  ·rw[if_neg e1,if_neg e1,List.append_assoc,List.singleton_append,cut_word kb]
 obtain ⟨q,hq⟩:∃ q,(if key=nm then (bl nm,[],false) else (bl key,bl nm,true):Tok×Tok×Bool)=q:=⟨_,rfl⟩
 have hK:q.1=bl key∧(if q.2.2 then q.2.1 else q.1)=bl nm:=by
  rw[←hq]
  by_cases e1:key=nm
  ·rw[if_pos e1,e1];exact⟨rfl,rfl⟩
  ·rw[if_neg e1];exact⟨rfl,rfl⟩
 rw[hq] at hS
 generalize ((if key=nm then [] else bl key++[58])++bl nm)=A at hA hS
 by_cases e2:f=-1
 ·rw[if_pos e2,List.append_nil]
  unfold fCand
  rw[cut_none hA]
  simp only[hS]
  exact Prod.ext hK.1 (Prod.ext hK.2 e2.symm)
 ·rw[if_neg e2]
  unfold fCand
  rw[cut_word hA]
  simp only[hS,trim_last,if_true]
  exact Prod.ext hK.1 (Prod.ext hK.2 (pint_dec (by omega) h1))
noncomputable def headF:List Tok→Option (Int×ByteArray×ByteArray×Int×List Tok)
 | []=>none
 | t::W =>
  if t=[46,46,46,111,110] then (if typeB (ub (word W))=true then some (2,ByteArray.empty,ub (word W),-1,W.drop 1) else none)
  else if t.take 3=[46,46,46] then (if wordB (ub (t.drop 3))=true then some (3,ByteArray.empty,ub (t.drop 3),-1,W) else none)
  else if bl (fieldT (ub (fCand t).1) (ub (fCand t).2.1) (fCand t).2.2)=t∧oneB 1 (ub (fCand t).1) (ub (fCand t).2.1) (fCand t).2.2 0=true then some (1,ub (fCand t).1,ub (fCand t).2.1,(fCand t).2.2,W)
  else none
theorem headF_cons(t:Tok)(W:List Tok):headF (t::W) =
  if t=[46,46,46,111,110] then (if typeB (ub (word W))=true then some (2,ByteArray.empty,ub (word W),-1,W.drop 1) else none)
  else if t.take 3=[46,46,46] then (if wordB (ub (t.drop 3))=true then some (3,ByteArray.empty,ub (t.drop 3),-1,W) else none)
  else if bl (fieldT (ub (fCand t).1) (ub (fCand t).2.1) (fCand t).2.2)=t∧oneB 1 (ub (fCand t).1) (ub (fCand t).2.1) (fCand t).2.2 0=true then some (1,ub (fCand t).1,ub (fCand t).2.1,(fCand t).2.2,W)
  else none:=rfl
def subR(k:Int)(u:Sels)(W0 W1:List Tok)(R:List Tok→List Tok→Prop):Prop :=
 (u=.nil∧W1=W0∧k≠2∧(k=1→word W0≠[123]))∨(k≠3∧word W0=[123]∧R (W0.drop 1) W1)
def Reads:Sels→List Tok→List Tok→Prop
 | .nil,_,_=>False
 | .cons k key nm f u r,W,W'=>∃ W0 W1,headF W=some (k,key,nm,f,W0)∧subR k u W0 W1 (Reads u)∧((r=.nil∧word W1=[125]∧W'=W1.drop 1)∨(word W1≠[125]∧Reads r W1 W'))
def ReadsOne(k:Int)(key nm:ByteArray)(f:Int)(u:Sels)(W W1:List Tok):Prop:=∃ W0,headF W=some (k,key,nm,f,W0)∧subR k u W0 W1 (Reads u)
theorem reads_cons{k:Int}{key nm:ByteArray}{f:Int}{u r:Sels}{W W':List Tok}:Reads (.cons k key nm f u r) W W'↔∃ W1,ReadsOne k key nm f u W W1∧((r=.nil∧word W1=[125]∧W'=W1.drop 1)∨(word W1≠[125]∧Reads r W1 W')) :=
 ⟨fun ⟨W0,W1,h1,h2,h3⟩=>⟨W1,⟨W0,h1,h2⟩,h3⟩,fun ⟨W1,⟨W0,h1,h2⟩,h3⟩=>⟨W0,W1,h1,h2,h3⟩⟩
theorem headF_kind{W W0:List Tok}{k:Int}{key nm:ByteArray}{f:Int}(h:headF W=some (k,key,nm,f,W0)):k=1∨k=2∨k=3:=by
 cases W with
 | nil=>cases h
 | cons t W =>
  rw[headF_cons] at h
  split at h
  ·split at h
   ·cases h;exact .inr (.inl rfl)
   ·cases h
  ·split at h
   ·split at h
    ·cases h;exact .inr (.inr rfl)
    ·cases h
   ·split at h
    ·cases h;exact .inl rfl
    ·cases h
theorem sub_one{k:Int}(hk:k=1∨k=2∨k=3){u u':Sels}{W0 A B:List Tok}(ih:∀ (W A B:List Tok),Reads u W A→∀ (u':Sels),Reads u' W B→u=u'∧A=B)(h:subR k u W0 A (Reads u))(h':subR k u' W0 B (Reads u')):u=u'∧A=B:=by
 rcases h with ⟨rfl,rfl,h2,h3⟩|⟨h1,h2,h3⟩ <;> rcases h' with ⟨rfl,rfl,g2,g3⟩|⟨g1,g2,g3⟩
 ·exact⟨rfl,rfl⟩
 ·exfalso
  rcases hk with e|e|e
  ·exact h3 e g2
  ·exact h2 e
  ·exact g1 e
 ·exfalso
  rcases hk with e|e|e
  ·exact g3 e h2
  ·exact g2 e
  ·exact h1 e
 ·exact ih _ _ _ h3 _ g3
theorem reads_one:∀ {s:Sels} {W A B:List Tok},Reads s W A→∀ {s':Sels},Reads s' W B→s=s'∧A=B
 | .nil,_,_,_,h,_,_=>by cases h
 | .cons k key nm f u r,W,A,B,h,.nil,h'=>by cases h'
 | .cons k key nm f u r,W,A,B,h,.cons k' key' nm' f' u' r',h'=>by
  obtain ⟨W0,W1,a1,a2,a3⟩:=h
  obtain ⟨X0,X1,b1,b2,b3⟩:=h'
  rw[a1] at b1
  cases b1
  obtain ⟨rfl,rfl⟩:=sub_one (headF_kind a1) (fun _ _ _ h _ g=>reads_one (s:=u) h g) a2 b2
  rcases a3 with ⟨rfl,c1,rfl⟩|⟨c1,c2⟩ <;> rcases b3 with ⟨rfl,d1,rfl⟩|⟨d1,d2⟩
  ·exact⟨rfl,rfl⟩
  ·exact absurd c1 d1
  ·exact absurd d1 c1
  ·obtain ⟨rfl,rfl⟩:=reads_one (s:=r) c2 d2
   exact⟨rfl,rfl⟩
theorem reads_one_sel{k k':Int}{key nm key' nm':ByteArray}{f f':Int}{u u':Sels}{W A B:List Tok}(h:ReadsOne k key nm f u W A)(h':ReadsOne k' key' nm' f' u' W B):(k=k'∧key=key'∧nm=nm'∧f=f'∧u=u')∧A=B:=by
 obtain ⟨W0,a1,a2⟩:=h
 obtain ⟨X0,b1,b2⟩:=h'
 rw[a1] at b1
 cases b1
 obtain ⟨rfl,rfl⟩:=sub_one (headF_kind a1) (fun _ _ _ h _ g=>reads_one h g) a2 b2
 exact⟨⟨rfl,rfl,rfl,rfl,rfl⟩,rfl⟩
theorem headF_words{W W0:List Tok}{k:Int}{key nm:ByteArray}{f:Int}(h:headF W=some (k,key,nm,f,W0)) :
  (k=1∧W=bl (fieldT key nm f)::W0∧oneB 1 key nm f 0=true)∨(k=2∧key=ByteArray.empty∧f=-1∧typeB nm=true∧W=[46,46,46,111,110]::bl nm::W0)∨(k=3∧key=ByteArray.empty∧f=-1∧wordB nm=true∧W=([46,46,46]++bl nm)::W0):=by
 cases W with
 | nil=>cases h
 | cons t W =>
  rw[headF_cons] at h
  split at h
  ·rename_i ht
   split at h
   ·rename_i hty
    cases h
    refine .inr (.inl ⟨rfl,rfl,rfl,hty,?_⟩)
    rw[ht,bl_ub]
    cases W with
    | nil =>
     exfalso
     have h0:=ofB_pos hty
     simp[word,ub,ByteArray.size] at h0
    | cons x X=>rfl
   ·cases h
  ·split at h
   ·rename_i ht
    split at h
    ·rename_i hw
     cases h
     refine .inr (.inr ⟨rfl,rfl,rfl,hw,?_⟩)
     rw[bl_ub,←ht,List.take_append_drop]
    ·cases h
   ·split at h
    ·rename_i hc
     cases h
     exact .inl ⟨rfl,by rw[hc.1],hc.2⟩
    ·cases h
theorem word_ne{t:Tok}{W:List Tok}(h:word W=t)(ht:t≠[]):W=t::W.drop 1:=by
 cases W with
 | nil=>exact absurd h.symm ht
 | cons x X=>simp only[word,List.headD_cons] at h;rw[h];rfl
theorem reads_toks:∀ {s:Sels} {W W':List Tok},Reads s W W'→W=s.toks++[125]::W'
 | .nil,_,_,h=>by cases h
 | .cons k key nm f u r,W,W',h=>by
  obtain ⟨W0,W1,h1,h2,h3⟩:=h
  have hr:W1=r.toks++[125]::W':=by
   rcases h3 with ⟨rfl,c1,rfl⟩|⟨_,c2⟩
   ·exact word_ne c1 (by simp)
   ·exact reads_toks c2
  have hu:W0=(if u.len=0 then [] else [123]::(u.toks++[[125]]))++W1:=by
   rcases h2 with ⟨rfl,rfl,_⟩|⟨_,c2,c3⟩
   ·rfl
   ·have e:=reads_toks c3
    rw[if_neg (fun e=>by rw[len_zero e] at c3;exact c3),word_ne c2 (by simp),e]
    simp
  simp only[Sels.toks]
  rcases headF_words h1 with ⟨rfl,rfl,_⟩|⟨rfl,rfl,rfl,_,rfl⟩|⟨rfl,rfl,rfl,_,rfl⟩
  ·rw[if_neg (by decide),if_neg (by decide),hu,hr];simp
  ·rw[if_neg (by decide),if_pos rfl,hu,hr];simp
  ·have:u=.nil:=by
    rcases h2 with ⟨rfl,_⟩|⟨c1,_⟩
    ·rfl
    ·exact absurd rfl c1
   subst this
   rw[if_pos rfl,hu,hr];simp[Sels.len]
theorem toks_word'{s:Sels}{deep:Int}(h:selsB s deep=true)(hs:s≠.nil)(rest:List Tok):word (s.toks++[125]::rest)≠[125]:=by
 cases s with
 | nil=>exact absurd rfl hs
 | cons k key nm f u r =>
  unfold selsB at h
  simp only[Bool.and_eq_true] at h
  rcases oneB_full h.1.1.1 with ⟨rfl,h1,h2,h3,h4⟩|⟨rfl,h1,h2,h3,h4⟩|⟨rfl,h1,h2,h3,h4⟩
  ·obtain ⟨c,q,e,_,hc⟩:=field_head (f:=f) h1 h2
   simp only[Sels.toks]
   rw[if_neg (by decide),if_neg (by decide),e]
   intro e2
   simp[word] at e2
   obtain ⟨rfl,_⟩:=e2
   exact absurd hc (by decide)
  ·simp only[Sels.toks]
   rw[if_neg (by decide),if_pos trivial]
   intro e2;simp[word] at e2
  ·simp only[Sels.toks]
   rw[if_pos trivial]
   intro e2;simp[word] at e2
theorem toks_reads:∀ {s:Sels} {deep:Int},selsB s deep=true→s≠.nil→∀ (W':List Tok),Reads s (s.toks++[125]::W') W'
 | .nil,_,_,hs,_=>absurd rfl hs
 | .cons k key nm f u r,deep,h,_,W'=>by
  unfold selsB at h
  simp only[Bool.and_eq_true] at h
  obtain ⟨⟨⟨h1,_⟩,hu⟩,hr⟩:=h
  have tail:(r=.nil∧word (r.toks++[125]::W')=[125]∧W'=(r.toks++[125]::W').drop 1)∨(word (r.toks++[125]::W')≠[125]∧Reads r (r.toks++[125]::W') W'):=by
   by_cases e:r=.nil
   ·exact .inl ⟨e,by rw[e];rfl,by rw[e];rfl⟩
   ·exact .inr ⟨toks_word' hr e W',toks_reads hr e W'⟩
  have hne:=toks_word hr W'
  obtain ⟨R,hR⟩:∃ R,r.toks++[125]::W'=R:=⟨_,rfl⟩
  rw[hR] at tail hne
  have hblock:u.len≠0→Reads u (u.toks++[125]::R) R:=fun e=>toks_reads hu (fun e2=>e (by rw[e2];rfl)) R
  rcases oneB_full h1 with ⟨rfl,hk,hn,hf0,hf1⟩|⟨rfl,rfl,hn,rfl,hpos⟩|⟨rfl,rfl,hn,rfl,hz⟩
  ·have hh:∀ W0,headF (bl (fieldT key nm f)::W0)=some (1,key,nm,f,W0):=fun W0=>by
    obtain ⟨c,q,e,hc,hc2⟩:=field_head (f:=f) hk hn
    rw[headF_cons,if_neg (by rw[e];intro e2;cases e2;exact absurd hc (by decide)),if_neg (by rw[e];intro e2;simp at e2;obtain ⟨rfl,_⟩:=e2;exact absurd hc (by decide)),fCand_field hk hn hf0 hf1]
    simp only[ub_bl]
    rw[if_pos ⟨trivial,by rw[oneB_1,hk,hn,decide_eq_true hf0,decide_eq_true hf1];rfl⟩]
   simp only[Sels.toks]
   rw[if_neg (by decide),if_neg (by decide),List.append_assoc,hR]
   by_cases hl:u.len=0
   ·rw[if_pos hl,len_zero hl]
    exact⟨R,R,by simpa using hh R,.inl ⟨rfl,rfl,by decide,fun _=>hne⟩,tail⟩
   ·rw[if_neg hl]
    refine⟨[123]::(u.toks++[125]::R),R,?_,.inr ⟨by decide,rfl,hblock hl⟩,tail⟩
    have:=hh ([123]::(u.toks++[125]::R))
    simpa using this
  ·have hh:∀ W0,headF ([46,46,46,111,110]::bl nm::W0)=some (2,ByteArray.empty,nm,-1,W0):=fun W0=>by
    rw[headF_cons,if_pos rfl,if_pos (by rw[show word (bl nm::W0)=bl nm from rfl,ub_bl];exact hn)]
    rw[show word (bl nm::W0)=bl nm from rfl,ub_bl];rfl
   simp only[Sels.toks]
   rw[if_neg (by decide),if_pos trivial,if_neg (by omega),List.append_assoc,hR]
   refine⟨[123]::(u.toks++[125]::R),R,?_,.inr ⟨by decide,rfl,hblock (by omega)⟩,tail⟩
   have:=hh ([123]::(u.toks++[125]::R))
   simpa using this
  ·have hh:∀ W0,headF (([46,46,46]++bl nm)::W0)=some (3,ByteArray.empty,nm,-1,W0):=fun W0=>by
    have hno:=(wordB_of hn).2.1
    rw[headF_cons,if_neg (by intro e2;have e3:[46,46,46]++bl nm=[46,46,46]++[111,110]:=e2;exact hno (List.append_cancel_left e3)),if_pos (by simp)]
    have hd3:List.drop 3 (([46,46,46]:Tok)++bl nm)=bl nm:=by simp
    rw[hd3,ub_bl,if_pos hn]
   simp only[Sels.toks]
   rw[if_pos trivial,len_zero hz,List.append_assoc,hR]
   exact⟨R,R,by simpa using hh R,.inl ⟨rfl,rfl,by decide,fun e=>absurd e (by decide)⟩,tail⟩
def ReadsFrag(x:FragP)(W W':List Tok):Prop :=
 word W=[102,114,97,103,109,101,110,116]∧x.name=ub (word (W.drop 1))∧word ((W.drop 1).drop 1)=[111,110]∧x.on=ub (word (((W.drop 1).drop 1).drop 1))∧word ((((W.drop 1).drop 1).drop 1).drop 1)=[123]∧Reads x.sels (((((W.drop 1).drop 1).drop 1).drop 1).drop 1) W'
def ReadsFrags:List FragP→List Tok→Prop
 | [],W=>W=[]
 | x::l,W=>∃ W',ReadsFrag x W W'∧ReadsFrags l W'
def ReadsDoc(d:DocP)(W:List Tok):Prop:=∃ W',word W=[123]∧Reads d.sels (W.drop 1) W'∧ReadsFrags d.frags W'
theorem frag_one{x y:FragP}{W A B:List Tok}(h:ReadsFrag x W A)(g:ReadsFrag y W B):x=y∧A=B:=by
 obtain ⟨_,h1,_,h2,_,h3⟩:=h
 obtain ⟨_,g1,_,g2,_,g3⟩:=g
 obtain ⟨e1,e2⟩:=reads_one h3 g3
 refine⟨?_,e2⟩
 cases x;cases y
 simp only at h1 h2 g1 g2 e1
 rw[h1,h2,e1,←g1,←g2]
theorem frags_one:∀ {l m:List FragP} {W:List Tok},ReadsFrags l W→ReadsFrags m W→l=m
 | [],[],_,_,_=>rfl
 | [],y::m,W,h,⟨_,g,_⟩=>by
  have:W=[]:=h
  subst this
  cases g.1
 | x::l,[],W,⟨_,h,_⟩,g=>by
  have:W=[]:=g
  subst this
  cases h.1
 | x::l,y::m,W,⟨A,h1,h2⟩,⟨B,g1,g2⟩=>by
  obtain ⟨rfl,rfl⟩:=frag_one h1 g1
  rw[frags_one h2 g2]
theorem frags_toks:∀ {l:List FragP} {W:List Tok},ReadsFrags l W→(∀ x∈l,wordB x.name=true∧typeB x.on=true)→W=fragsToks l
 | [],W,h,_=>h
 | x::l,W,⟨W',⟨h1,h2,h3,h4,h5,h6⟩,h7⟩,hx=>by
  have ⟨n1,n2⟩:=hx x (by simp)
  have e7:=frags_toks h7 (fun y hy=>hx y (by simp[hy]))
  have e6:=reads_toks h6
  have e5:=word_ne h5 (by simp)
  have hn:word (W.drop 1)=bl x.name:=by rw[h2,bl_ub]
  have ho:word (((W.drop 1).drop 1).drop 1)=bl x.on:=by rw[h4,bl_ub]
  have e4:=word_ne ho (bl_pos (ofB_pos n2))
  have e3:=word_ne h3 (by simp)
  have e2:=word_ne hn (bl_pos (ofB_pos (wordB_of n1).1))
  have e1:=word_ne h1 (by simp)
  rw[e1,e2,e3,e4,e5,e6,e7]
  simp[fragsToks,fragToks]
theorem toks_frags:∀ {l:List FragP},(∀ x∈l,selsB x.sels 6=true∧0<x.sels.len)→ReadsFrags l (fragsToks l)
 | [],_=>rfl
 | x::l,hx=>by
  have ⟨n1,n2⟩:=hx x (by simp)
  have e:fragsToks (x::l)=[102,114,97,103,109,101,110,116]::bl x.name::[111,110]::bl x.on::[123]::(x.sels.toks++[125]::fragsToks l):=by
   simp[fragsToks,fragToks]
  rw[e]
  exact⟨fragsToks l,⟨rfl,(ub_bl _).symm,rfl,(ub_bl _).symm,rfl,toks_reads n1 (fun e=>by rw[e] at n2;simp[Sels.len] at n2) _⟩,toks_frags (fun y hy=>hx y (by simp[hy]))⟩
theorem docB_frags{d:DocP}(h:docB d=true):∀ x∈d.frags,wordB x.name=true∧typeB x.on=true∧selsB x.sels 6=true∧0<x.sels.len:=fun x hx=>by
 obtain ⟨_,_,_,_,hfr⟩:=docB_parts h
 obtain ⟨i,hi⟩:=List.mem_iff_getElem?.1 hx
 have hfb:=fragB_parts (fragsB_at hfr hi)
 exact⟨hfb.1,hfb.2.2.1,hfb.2.2.2.2,hfb.2.2.2.1⟩
theorem toks_doc{d:DocP}(h:docB d=true):ReadsDoc d (docToks d):=by
 obtain ⟨hp,_,_,hsel,_⟩:=docB_parts h
 have hf:=docB_frags h
 have e:docToks d=[123]::(d.sels.toks++[125]::fragsToks d.frags):=by simp[docToks]
 rw[e]
 exact⟨fragsToks d.frags,rfl,toks_reads hsel (fun e=>by rw[e] at hp;simp[Sels.len] at hp) _,toks_frags (fun x hx=>⟨(hf x hx).2.2.1,(hf x hx).2.2.2⟩)⟩
theorem doc_toks{d:DocP}{W:List Tok}(hr:ReadsDoc d W)(h:docB d=true):W=docToks d:=by
 obtain ⟨W',h1,h2,h3⟩:=hr
 have hf:=docB_frags h
 rw[word_ne h1 (by simp),reads_toks h2,frags_toks h3 (fun x hx=>⟨(hf x hx).1,(hf x hx).2.1⟩)]
 simp[docToks]
theorem doc_one{d e:DocP}{W:List Tok}(h:ReadsDoc d W)(g:ReadsDoc e W):d=e:=by
 obtain ⟨A,_,h2,h3⟩:=h
 obtain ⟨B,_,g2,g3⟩:=g
 obtain ⟨e1,rfl⟩:=reads_one h2 g2
 have e2:=frags_one h3 g3
 cases d;cases e
 simp only at e1 e2
 rw[e1,e2]
theorem docT_of_reads{d:DocP}{t:ByteArray}(hr:ReadsDoc d (splitL 32 (bl t)))(h:docB d=true):docT d=t:=by
 have e:=doc_toks hr h
 have key:∀ (l:Tok),Lib.join (splitL 32 l) [32]=l:=by
  intro l
  induction l with
  | nil=>simp[splitL,Lib.join_one]
  | cons x r ih =>
   unfold splitL
   split
   ·rename_i hx
    subst hx
    obtain ⟨a,b,hab⟩:∃ a b,splitL 32 r=a::b:=by
     cases hs:splitL 32 r with
     | nil=>exact absurd hs (splitL_ne _ _)
     | cons a b=>exact⟨a,b,rfl⟩
    rw[hab] at ih ⊢
    rw[Lib.join_cons] at ih ⊢
    simp only[Lib.joinTail,List.map_cons,List.flatten_cons,List.nil_append] at ih ⊢
    rw[←ih];simp
   ·obtain ⟨a,b,hab⟩:∃ a b,splitL 32 r=a::b:=by
     cases hs:splitL 32 r with
     | nil=>exact absurd hs (splitL_ne _ _)
     | cons a b=>exact⟨a,b,rfl⟩
    rw[hab] at ih ⊢
    simp only[glue]
    rw[Lib.join_cons] at ih ⊢
    rw[←ih];simp
 have e2:=key (bl t)
 rw[e] at e2
 have e3:∀ (r:List Tok) (x:Tok),Lib.join (x::r) [32]++[32]=flat (x::r):=by
  intro r
  induction r with
  | nil=>intro x;simp[Lib.join_one,flat]
  | cons y r ih =>
   intro x
   have ih:=ih y
   rw[Lib.join_cons] at ih ⊢
   rw[flat,←ih]
   simp[Lib.joinTail]
 have e4:=docT_flat h
 have h5:docToks d=[123]::(d.sels.toks++[[125]]++fragsToks d.frags):=rfl
 rw[h5] at e2 e4
 rw[←e3,e2] at e4
 exact bl_inj (List.append_cancel_right e4)
theorem reads_of_docT{d:DocP}(h:docB d=true):ReadsDoc d (splitL 32 (bl (docT d))):=by
 rw[splitL_flat (docToks_blank h) (by simp[docToks]) _ (docT_flat h)]
 exact toks_doc h
end Go.Proofs.YtmembhpoidcmlaaGreatDoor.Selss
namespace Go.Proofs.YtmembhpoidcmlaaGreatDoor.Selss
open Lib (hid)
open Go.RowKit Words Decs Splits
set_option linter.unusedVariables false
set_option maxRecDepth 100000
theorem below_drewN(w:World)(n:Nat):Below w.heap.size w (w.drewN n):=⟨rfl,rfl,rfl,Nat.le_refl _,fun _ _=>rfl⟩
theorem cutC(s sep:ByteArray)(w:World)(B:Nat)(hv:Vars B w)(hs:s.size≤8000) :
  Calls Tryz.prog 100 #[.string s,.string sep] w fun e w'=>e=.returned (.tuple #[.string (ub (Lib.cut (bl s) (bl sep)).1),.string (ub (Lib.cut (bl s) (bl sep)).2.1),.bool (Lib.cut (bl s) (bl sep)).2.2])∧Below w.heap.size w w':=by
 obtain ⟨m,hm⟩:=hv.here.max
 refine(Tryz.strings_Cut s sep m w (by omega) hm).mono ?_
 rintro e w' ⟨rfl,n,rfl⟩
 exact⟨rfl,below_drewN w n⟩
theorem pintC(s:ByteArray)(w:World)(B:Nat)(hv:Vars B w)(hs:s.size≤8000) :
  Calls Tryz.prog 121 #[.string s,.int .i64 10,.int .i64 64] w fun e w'=>(∃ x,e=.returned (.tuple #[.int .i64 (pint (bl s)),x]))∧Below w.heap.size w w':=by
 unfold pint
 rcases h:Lib.parseIntB 64 (bl s) with v|_|_
 ·refine(Tryz.strconv_ParseInt_10_at64_ok s (by omega) v h w).mono ?_
  rintro e w' ⟨rfl,rfl|⟨t,rfl⟩⟩
  ·exact⟨⟨_,rfl⟩,Below.refl _ _⟩
  ·exact⟨⟨_,rfl⟩,Lib.bytesWorld_below _ _ _⟩
 ·obtain ⟨t,x,hx⟩:=hv.here.syn
  refine(Tryz.strconv_ParseInt_10_at64_syntax s (by omega) h _ w hx (.inr ⟨t,x,rfl⟩)).mono ?_
  rintro e w' ⟨N,rfl,_,_,hb⟩
  exact⟨⟨_,rfl⟩,hb⟩
 ·obtain ⟨t,x,hx⟩:=hv.here.rng
  refine(Tryz.strconv_ParseInt_10_at64_range s (by omega) h _ w hx (.inr ⟨t,x,rfl⟩)).mono ?_
  rintro e w' ⟨N,rfl,_,_,hb⟩
  exact⟨⟨_,rfl⟩,hb⟩
theorem trimC(s p:ByteArray)(w:World)(hs:s.size≤8000) :
  Calls Tryz.prog 74 #[.string s,.string p] w fun e w'=>e=.returned (.string (ub (Lib.trimSuffix (bl s) (bl p))))∧w=w':=by
 refine(Tryz.strings_TrimSuffix s p w (by omega)).mono ?_
 rintro e w' ⟨rfl,rfl⟩
 exact⟨rfl,rfl⟩
theorem ub_size'(t:Tok):(ub t).size=t.length:=by simp[ub,ByteArray.size]
noncomputable def fSel(t:Tok):Int×ByteArray×ByteArray×Int:=if bl (fieldT (ub (fCand t).1) (ub (fCand t).2.1) (fCand t).2.2)=t then (1,ub (fCand t).1,ub (fCand t).2.1,(fCand t).2.2) else (0,ByteArray.empty,ByteArray.empty,0)
def selV(r:Int×ByteArray×ByteArray×Int):Value:=.agg #[.int .i64 r.1,.string r.2.1,.string r.2.2.1,.int .i64 r.2.2.2,.slice none 0 0]
theorem ret_v{a b:Value}(h:a=b):Ending.returned a=.returned b:=by rw[h]
set_option maxHeartbeats 4000000 in
theorem implFieldSel(t:ByteArray)(ht:t.size≤8000)(w:World)(B:Nat)(hv:Vars B w)(hB:B≤w.heap.size) :
  Calls Tryz.prog 144 #[.string t] w fun e w'=>e=.returned (selV (fSel (bl t)))∧Below w.heap.size w w':=by
 have CC:Hid (∀ (s sep:ByteArray) (w':World),s.size≤8000→Below w.heap.size w w'→Calls Tryz.prog 100 #[.string s,.string sep] w' fun e w''=>e=.returned (.tuple #[.string (ub (Lib.cut (bl s) (bl sep)).1),.string (ub (Lib.cut (bl s) (bl sep)).2.1),.bool (Lib.cut (bl s) (bl sep)).2.2])∧Below w'.heap.size w' w''):=hid fun s sep w' h1 h2=>cutC s sep w' B (hv.over hB h2) h1
 have CP:Hid (∀ (s:ByteArray) (w':World),s.size≤8000→Below w.heap.size w w'→Calls Tryz.prog 121 #[.string s,.int .i64 10,.int .i64 64] w' fun e w''=>(∃ x,e=.returned (.tuple #[.int .i64 (pint (bl s)),x]))∧Below w'.heap.size w' w''):=hid fun s w' h1 h2=>pintC s w' B (hv.over hB h2) h1
 have CF:Hid (∀ (k:Int) (key nm:ByteArray) (f:Int) (w':World),key.size≤8000→nm.size≤8000→OkI f→Below w.heap.size w w'→Calls Tryz.prog 85 #[.agg #[.int .i64 k,.string key,.string nm,.int .i64 f,.slice none 0 0]] w' fun e w''=>e=.returned (.string (fieldT key nm f))∧Below w'.heap.size w' w''):=hid fun k key nm f w' h1 h2 h3 h4=>implFieldWord w' k key nm f none 0 0 (by omega) (by omega) h3 B (hv.over hB h4).pow (Nat.le_trans hB h4.size)
 have HA:Hid (∀ o,Below w.heap.size w (w.alloc o)):=hid fun o=>(Below.refl _ _).alloc (Nat.le_refl _) o
 have hfc:Hid (fSel (bl t)=if bl (fieldT (ub (fCand (bl t)).1) (ub (fCand (bl t)).2.1) (fCand (bl t)).2.2)=bl t then (1,ub (fCand (bl t)).1,ub (fCand (bl t)).2.1,(fCand (bl t)).2.2) else (0,ByteArray.empty,ByteArray.empty,0)):=hid rfl
 have hl1:=cut_len (bl t) [40]
 have hfd:fCand (bl t)=((Lib.cut (Lib.cut (bl t) [40]).1 [58]).1,(if (Lib.cut (Lib.cut (bl t) [40]).1 [58]).2.2 then (Lib.cut (Lib.cut (bl t) [40]).1 [58]).2.1 else (Lib.cut (Lib.cut (bl t) [40]).1 [58]).1),if (Lib.cut (bl t) [40]).2.2 then pint (Lib.trimSuffix (Lib.cut (bl t) [40]).2.1 [41]) else -1):=rfl
 obtain ⟨c,hc⟩:∃ c,Lib.cut (bl t) [40]=c:=⟨_,rfl⟩
 have hc':Lib.cut (bl t) (bl ⟨#[40]⟩)=c:=hc
 rw[hc] at hl1 hfd
 have hl2:=cut_len c.1 [58]
 obtain ⟨d,hd⟩:∃ d,Lib.cut c.1 [58]=d:=⟨_,rfl⟩
 rw[hd] at hl2 hfd
 obtain ⟨c1,c2,cb⟩:=c
 obtain ⟨d1,d2,db⟩:=d
 have hd':Lib.cut (bl (ub c1)) (bl ⟨#[58]⟩)=(d1,d2,db):=by rw[bl_ub];exact hd
 dsimp only at hl1 hl2 hfd
 rw[bl_len] at hl1
 have sc1:(ub c1).size≤8000:=by rw[ub_size'];omega
 have sc2:(ub c2).size≤8000:=by rw[ub_size'];omega
 have sd1:(ub d1).size≤8000:=by rw[ub_size'];omega
 have sd2:(ub d2).size≤8000:=by rw[ub_size'];omega
 have hp0:Hid (OkI (pint (Lib.trimSuffix c2 [41]))):=hid (pint_ok _)
 have htr:Hid (bl (ub (Lib.trimSuffix (bl (ub c2)) (bl ⟨#[41]⟩)))=Lib.trimSuffix c2 [41]∧(ub (Lib.trimSuffix (bl (ub c2)) (bl ⟨#[41]⟩))).size≤8000):=hid (by
  have e1:bl (ub c2)=c2:=bl_ub c2
  have e2:bl (⟨#[41]⟩:ByteArray)=[41]:=rfl
  rw[e1,e2,bl_ub,ub_size']
  exact⟨rfl,by have:=trim_len c2 [41];omega⟩)
 have C1:=hid (fun w' h=>CC.out t ⟨#[40]⟩ w' ht h)
 have C2:=hid (fun w' h=>CC.out (ub c1) ⟨#[58]⟩ w' sc1 h)
 rw[hc'] at C1
 rw[hd'] at C2
 rw[hfd] at hfc
 clear hv hB hc hc' hd hd' hfd CC hl1 hl2
 go_enter Tryz.func144,Tryz.ntmps144
 go_wp2_with fail
 have hb0:=HA.out (.cells #[.int .i64 0,.string ⟨#[]⟩,.string ⟨#[]⟩,.int .i64 0,.slice none 0 0] 97)
 have hk0:(w.alloc (.cells #[.int .i64 0,.string ⟨#[]⟩,.string ⟨#[]⟩,.int .i64 0,.slice none 0 0] 97)).heap[w.heap.size]?=some (.cells #[.int .i64 0,.string ⟨#[]⟩,.string ⟨#[]⟩,.int .i64 0,.slice none 0 0] 97 (0,0)):=heap_alloc_new w _
 refine(C1.out _ hb0).mono ?_
 rintro e w1 ⟨rfl,hb1⟩
 have hk1:=(hb1.block w.heap.size (by simp)).trans hk0
 have HB1:=hid (hb0.trans (hb1.mono hb0.size))
 have hz1:w.heap.size<w1.heap.size:=by have:=hb1.size;simp at this;omega
 clear hb0 hb1 hk0
 go_wp2_with fail
 refine(C2.out _ HB1.out).mono ?_
 rintro e w2 ⟨rfl,hb2⟩
 have hk2:=hid ((hb2.block w.heap.size hz1).trans hk1)
 have HB2:=hid (HB1.out.trans (hb2.mono HB1.out.size))
 have hz2:w.heap.size<w2.heap.size:=Nat.lt_of_lt_of_le hz1 hb2.size
 clear hb2 hk1 hz1
 cases db
 ·cases cb
  ·have hfe:Hid (fSel (bl t)=if bl (fieldT (ub d1) (ub d1) (-1))=bl t then (1,ub d1,ub d1,-1) else (0,ByteArray.empty,ByteArray.empty,0)):=hid hfc.out
   have HB5:Hid (Below w.heap.size w (w2.alloc (.cells #[.int .i64 1,.string (ub d1),.string (ub d1),.int .i64 (-1),.slice none 0 0] 97))):=hid (HB2.out.alloc HB2.out.size _)
   have hk5:Hid ((w2.alloc (.cells #[.int .i64 1,.string (ub d1),.string (ub d1),.int .i64 (-1),.slice none 0 0] 97)).heap[w.heap.size]?=_):=hid ((Below.heap_alloc w2 _ w.heap.size hz2).trans hk2.out)
   have hg5:Hid ((w2.alloc (.cells #[.int .i64 1,.string (ub d1),.string (ub d1),.int .i64 (-1),.slice none 0 0] 97)).heap[w2.heap.size]?=some (.cells #[.int .i64 1,.string (ub d1),.string (ub d1),.int .i64 (-1),.slice none 0 0] 97 (0,0))):=hid (heap_alloc_new w2 _)
   have hl5:Hid (w.heap.size<(w2.alloc (.cells #[.int .i64 1,.string (ub d1),.string (ub d1),.int .i64 (-1),.slice none 0 0] 97)).heap.size∧w2.heap.size<(w2.alloc (.cells #[.int .i64 1,.string (ub d1),.string (ub d1),.int .i64 (-1),.slice none 0 0] 97)).heap.size):=hid (by simp;omega)
   clear hfc
   go_wp2_with fail
   refine(CF.out 1 (ub d1) (ub d1) (-1) _ sd1 sd1 (by unfold OkI;omega) HB5.out).mono ?_
   rintro e w6 ⟨rfl,hb6⟩
   have hk6:=(hb6.block w.heap.size hl5.out.1).trans hk5.out
   have hg6:=(hb6.block w2.heap.size hl5.out.2).trans hg5.out
   have HB6:=hid (HB5.out.trans (hb6.mono HB5.out.size))
   have ⟨⟨e0,e1,e2,e3,e4⟩,p0,p1,p2,p3,p4⟩:=keep5 hk6
   have ⟨⟨x0,x1,x2,x3,x4⟩,y0,y1,y2,y3,y4⟩:=keep5 hg6
   clear hb6 hk5 hg5 hl5 HB5 CF CP C1 C2 HA
   by_cases hfw:fieldT (ub d1) (ub d1) (-1)=t
   ·have hres:Hid (fSel (bl t)=(1,ub d1,ub d1,(-1))):=hid (by rw[hfe.out,if_pos (by rw[hfw])])
    have hsx:(fieldT (ub d1) (ub d1) (-1)).size≤9223372036854775807:=by rw[hfw];omega
    generalize fieldT (ub d1) (ub d1) (-1)=x at *
    subst hfw
    have HFX:=hid (set5_block hk6 (.int .i64 1) (.string (ub d1)) (.string (ub d1)) (.int .i64 (-1)) (.slice none 0 0))
    have HBF:=hid (set5_below HB6.out (g:=w.heap.size) (Nat.le_refl _) (.int .i64 1) (.string (ub d1)) (.string (ub d1)) (.int .i64 (-1)) (.slice none 0 0))
    clear hk6 hg6
    go_wp2_with fail
    change bodyPost _ _ _ _ _ (set5 w6 w.heap.size (.int .i64 1) (.string (ub d1)) (.string (ub d1)) (.int .i64 (-1)) (.slice none 0 0))
    generalize set5 w6 w.heap.size (.int .i64 1) (.string (ub d1)) (.string (ub d1)) (.int .i64 (-1)) (.slice none 0 0)=WF at *
    have ⟨⟨f0,f1,f2,f3,f4⟩,_⟩:=keep5 HFX.out
    exact bodyPost_ret (v:=.agg #[.int .i64 1,.string (ub d1),.string (ub d1),.int .i64 (-1),.slice none 0 0]) (by simp[results,Tryz.results144,go_sem,f0,f1,f2,f3,f4]) rfl ⟨ret_v (by rw[hres.out];rfl),HBF.out⟩
   ·have hres:Hid (fSel (bl t)=(0,ByteArray.empty,ByteArray.empty,0)):=hid (by rw[hfe.out,if_neg (fun e=>hfw (bl_inj e))])
    have hn1:=toList_ne hfw
    have hn2:=toList_beq hfw
    generalize fieldT (ub d1) (ub d1) (-1)=x at *
    have HFX:=hid (set5_block hk6 (.int .i64 0) (.string ⟨#[]⟩) (.string ⟨#[]⟩) (.int .i64 0) (.slice none 0 0))
    have HBF:=hid (set5_below HB6.out (g:=w.heap.size) (Nat.le_refl _) (.int .i64 0) (.string ⟨#[]⟩) (.string ⟨#[]⟩) (.int .i64 0) (.slice none 0 0))
    clear hk6 hg6
    go_wp2_with fail
    change bodyPost _ _ _ _ _ (set5 w6 w.heap.size (.int .i64 0) (.string ⟨#[]⟩) (.string ⟨#[]⟩) (.int .i64 0) (.slice none 0 0))
    generalize set5 w6 w.heap.size (.int .i64 0) (.string ⟨#[]⟩) (.string ⟨#[]⟩) (.int .i64 0) (.slice none 0 0)=WF at *
    have ⟨⟨f0,f1,f2,f3,f4⟩,_⟩:=keep5 HFX.out
    exact bodyPost_ret (v:=.agg #[.int .i64 0,.string ⟨#[]⟩,.string ⟨#[]⟩,.int .i64 0,.slice none 0 0]) (by simp[results,Tryz.results144,go_sem,f0,f1,f2,f3,f4]) rfl ⟨ret_v (by rw[hres.out];rfl),HBF.out⟩
  ·obtain ⟨pv,hpv⟩:∃ pv,pint (Lib.trimSuffix c2 [41])=pv:=⟨_,rfl⟩
   have hfe:Hid (fSel (bl t)=if bl (fieldT (ub d1) (ub d1) pv)=bl t then (1,ub d1,ub d1,pv) else (0,ByteArray.empty,ByteArray.empty,0)):=hid (by rw[←hpv];exact hfc.out)
   have hok:Hid (OkI pv):=hid (by rw[←hpv];exact hp0.out)
   have hokr:-9223372036854775808≤pv∧pv≤9223372036854775807:=hok.out
   have HB3:Hid (Below w.heap.size w (w2.alloc (.cells #[.int .i64 1,.string (ub d1),.string (ub d1),.int .i64 (-1),.slice none 0 0] 97))):=hid (HB2.out.alloc HB2.out.size _)
   have CP2:=hid (CP.out (ub (Lib.trimSuffix (bl (ub c2)) (bl ⟨#[41]⟩))) (w2.alloc (.cells #[.int .i64 1,.string (ub d1),.string (ub d1),.int .i64 (-1),.slice none 0 0] 97)) htr.out.2 HB3.out)
   rw[htr.out.1,hpv] at CP2
   clear hfc hpv
   go_wp2_with (go_at_call 74;refine(trimC (ub c2) ⟨#[41]⟩ _ sc2).mono ?_;rintro e w' ⟨rfl,rfl⟩)
   refine CP2.out.mono ?_
   rintro e w4 ⟨⟨x,rfl⟩,hb4⟩
   have hk4:=(hb4.block w.heap.size (by simp;omega)).trans ((Below.heap_alloc w2 _ w.heap.size hz2).trans hk2.out)
   have hg4:=(hb4.block w2.heap.size (by simp)).trans (heap_alloc_new w2 _)
   have HB4:=hid (HB3.out.trans (hb4.mono HB3.out.size))
   have hz4:w2.heap.size<w4.heap.size:=by have:=hb4.size;simp at this;omega
   have ⟨⟨q0,q1,q2,q3,q4⟩,s0,s1,s2,s3,s4⟩:=keep5 hg4
   have HB5:Hid (Below w.heap.size w (w4.setCell ⟨w2.heap.size,3,none⟩ (.int .i64 pv))):=hid (HB4.out.setCell (p:=⟨w2.heap.size,3,none⟩) (Nat.le_of_lt hz2) _)
   have hk5:Hid ((w4.setCell ⟨w2.heap.size,3,none⟩ (.int .i64 pv)).heap[w.heap.size]?=_):=hid ((Go.Deep.blk_setCell_other w4 ⟨w2.heap.size,3,none⟩ _ w.heap.size (Nat.ne_of_lt hz2)).trans hk4)
   have hg5:Hid ((w4.setCell ⟨w2.heap.size,3,none⟩ (.int .i64 pv)).heap[w2.heap.size]?=some (.cells #[.int .i64 1,.string (ub d1),.string (ub d1),.int .i64 pv,.slice none 0 0] 97 (0,0))):=hid ((heap_setCell_same w4 w2.heap.size 3 _ _ (.int .i64 pv) hg4).trans (by simp))
   have hl5:Hid (w.heap.size<(w4.setCell ⟨w2.heap.size,3,none⟩ (.int .i64 pv)).heap.size∧w2.heap.size<(w4.setCell ⟨w2.heap.size,3,none⟩ (.int .i64 pv)).heap.size):=hid (by simp;omega)
   clear hb4 hk4 hg4 CP2
   go_wp2_with fail
   clear q0 q1 q2 q3 q4 s0 s1 s2 s3 s4
   refine(CF.out 1 (ub d1) (ub d1) pv _ sd1 sd1 hok.out HB5.out).mono ?_
   rintro e w6 ⟨rfl,hb6⟩
   have hk6:=(hb6.block w.heap.size hl5.out.1).trans hk5.out
   have hg6:=(hb6.block w2.heap.size hl5.out.2).trans hg5.out
   have HB6:=hid (HB5.out.trans (hb6.mono HB5.out.size))
   have ⟨⟨e0,e1,e2,e3,e4⟩,p0,p1,p2,p3,p4⟩:=keep5 hk6
   have ⟨⟨x0,x1,x2,x3,x4⟩,y0,y1,y2,y3,y4⟩:=keep5 hg6
   clear hb6 hk5 hg5 hl5 HB5 CF CP C1 C2 HA
   by_cases hfw:fieldT (ub d1) (ub d1) pv=t
   ·have hres:Hid (fSel (bl t)=(1,ub d1,ub d1,pv)):=hid (by rw[hfe.out,if_pos (by rw[hfw])])
    have hsx:(fieldT (ub d1) (ub d1) pv).size≤9223372036854775807:=by rw[hfw];omega
    generalize fieldT (ub d1) (ub d1) pv=x at *
    subst hfw
    have HFX:=hid (set5_block hk6 (.int .i64 1) (.string (ub d1)) (.string (ub d1)) (.int .i64 pv) (.slice none 0 0))
    have HBF:=hid (set5_below HB6.out (g:=w.heap.size) (Nat.le_refl _) (.int .i64 1) (.string (ub d1)) (.string (ub d1)) (.int .i64 pv) (.slice none 0 0))
    clear hk6 hg6
    go_wp2_with fail
    change bodyPost _ _ _ _ _ (set5 w6 w.heap.size (.int .i64 1) (.string (ub d1)) (.string (ub d1)) (.int .i64 pv) (.slice none 0 0))
    generalize set5 w6 w.heap.size (.int .i64 1) (.string (ub d1)) (.string (ub d1)) (.int .i64 pv) (.slice none 0 0)=WF at *
    have ⟨⟨f0,f1,f2,f3,f4⟩,_⟩:=keep5 HFX.out
    exact bodyPost_ret (v:=.agg #[.int .i64 1,.string (ub d1),.string (ub d1),.int .i64 pv,.slice none 0 0]) (by simp[results,Tryz.results144,go_sem,f0,f1,f2,f3,f4]) rfl ⟨ret_v (by rw[hres.out];rfl),HBF.out⟩
   ·have hres:Hid (fSel (bl t)=(0,ByteArray.empty,ByteArray.empty,0)):=hid (by rw[hfe.out,if_neg (fun e=>hfw (bl_inj e))])
    have hn1:=toList_ne hfw
    have hn2:=toList_beq hfw
    generalize fieldT (ub d1) (ub d1) pv=x at *
    have HFX:=hid (set5_block hk6 (.int .i64 0) (.string ⟨#[]⟩) (.string ⟨#[]⟩) (.int .i64 0) (.slice none 0 0))
    have HBF:=hid (set5_below HB6.out (g:=w.heap.size) (Nat.le_refl _) (.int .i64 0) (.string ⟨#[]⟩) (.string ⟨#[]⟩) (.int .i64 0) (.slice none 0 0))
    clear hk6 hg6
    go_wp2_with fail
    change bodyPost _ _ _ _ _ (set5 w6 w.heap.size (.int .i64 0) (.string ⟨#[]⟩) (.string ⟨#[]⟩) (.int .i64 0) (.slice none 0 0))
    generalize set5 w6 w.heap.size (.int .i64 0) (.string ⟨#[]⟩) (.string ⟨#[]⟩) (.int .i64 0) (.slice none 0 0)=WF at *
    have ⟨⟨f0,f1,f2,f3,f4⟩,_⟩:=keep5 HFX.out
    exact bodyPost_ret (v:=.agg #[.int .i64 0,.string ⟨#[]⟩,.string ⟨#[]⟩,.int .i64 0,.slice none 0 0]) (by simp[results,Tryz.results144,go_sem,f0,f1,f2,f3,f4]) rfl ⟨ret_v (by rw[hres.out];rfl),HBF.out⟩
 ·cases cb
  ·have hfe:Hid (fSel (bl t)=if bl (fieldT (ub d1) (ub d2) (-1))=bl t then (1,ub d1,ub d2,-1) else (0,ByteArray.empty,ByteArray.empty,0)):=hid hfc.out
   have HB5:Hid (Below w.heap.size w (w2.alloc (.cells #[.int .i64 1,.string (ub d1),.string (ub d2),.int .i64 (-1),.slice none 0 0] 97))):=hid (HB2.out.alloc HB2.out.size _)
   have hk5:Hid ((w2.alloc (.cells #[.int .i64 1,.string (ub d1),.string (ub d2),.int .i64 (-1),.slice none 0 0] 97)).heap[w.heap.size]?=_):=hid ((Below.heap_alloc w2 _ w.heap.size hz2).trans hk2.out)
   have hg5:Hid ((w2.alloc (.cells #[.int .i64 1,.string (ub d1),.string (ub d2),.int .i64 (-1),.slice none 0 0] 97)).heap[w2.heap.size]?=some (.cells #[.int .i64 1,.string (ub d1),.string (ub d2),.int .i64 (-1),.slice none 0 0] 97 (0,0))):=hid (heap_alloc_new w2 _)
   have hl5:Hid (w.heap.size<(w2.alloc (.cells #[.int .i64 1,.string (ub d1),.string (ub d2),.int .i64 (-1),.slice none 0 0] 97)).heap.size∧w2.heap.size<(w2.alloc (.cells #[.int .i64 1,.string (ub d1),.string (ub d2),.int .i64 (-1),.slice none 0 0] 97)).heap.size):=hid (by simp;omega)
   clear hfc
   go_wp2_with fail
   refine(CF.out 1 (ub d1) (ub d2) (-1) _ sd1 sd2 (by unfold OkI;omega) HB5.out).mono ?_
   rintro e w6 ⟨rfl,hb6⟩
   have hk6:=(hb6.block w.heap.size hl5.out.1).trans hk5.out
   have hg6:=(hb6.block w2.heap.size hl5.out.2).trans hg5.out
   have HB6:=hid (HB5.out.trans (hb6.mono HB5.out.size))
   have ⟨⟨e0,e1,e2,e3,e4⟩,p0,p1,p2,p3,p4⟩:=keep5 hk6
   have ⟨⟨x0,x1,x2,x3,x4⟩,y0,y1,y2,y3,y4⟩:=keep5 hg6
   clear hb6 hk5 hg5 hl5 HB5 CF CP C1 C2 HA
   by_cases hfw:fieldT (ub d1) (ub d2) (-1)=t
   ·have hres:Hid (fSel (bl t)=(1,ub d1,ub d2,(-1))):=hid (by rw[hfe.out,if_pos (by rw[hfw])])
    have hsx:(fieldT (ub d1) (ub d2) (-1)).size≤9223372036854775807:=by rw[hfw];omega
    generalize fieldT (ub d1) (ub d2) (-1)=x at *
    subst hfw
    have HFX:=hid (set5_block hk6 (.int .i64 1) (.string (ub d1)) (.string (ub d2)) (.int .i64 (-1)) (.slice none 0 0))
    have HBF:=hid (set5_below HB6.out (g:=w.heap.size) (Nat.le_refl _) (.int .i64 1) (.string (ub d1)) (.string (ub d2)) (.int .i64 (-1)) (.slice none 0 0))
    clear hk6 hg6
    go_wp2_with fail
    change bodyPost _ _ _ _ _ (set5 w6 w.heap.size (.int .i64 1) (.string (ub d1)) (.string (ub d2)) (.int .i64 (-1)) (.slice none 0 0))
    generalize set5 w6 w.heap.size (.int .i64 1) (.string (ub d1)) (.string (ub d2)) (.int .i64 (-1)) (.slice none 0 0)=WF at *
    have ⟨⟨f0,f1,f2,f3,f4⟩,_⟩:=keep5 HFX.out
    exact bodyPost_ret (v:=.agg #[.int .i64 1,.string (ub d1),.string (ub d2),.int .i64 (-1),.slice none 0 0]) (by simp[results,Tryz.results144,go_sem,f0,f1,f2,f3,f4]) rfl ⟨ret_v (by rw[hres.out];rfl),HBF.out⟩
   ·have hres:Hid (fSel (bl t)=(0,ByteArray.empty,ByteArray.empty,0)):=hid (by rw[hfe.out,if_neg (fun e=>hfw (bl_inj e))])
    have hn1:=toList_ne hfw
    have hn2:=toList_beq hfw
    generalize fieldT (ub d1) (ub d2) (-1)=x at *
    have HFX:=hid (set5_block hk6 (.int .i64 0) (.string ⟨#[]⟩) (.string ⟨#[]⟩) (.int .i64 0) (.slice none 0 0))
    have HBF:=hid (set5_below HB6.out (g:=w.heap.size) (Nat.le_refl _) (.int .i64 0) (.string ⟨#[]⟩) (.string ⟨#[]⟩) (.int .i64 0) (.slice none 0 0))
    clear hk6 hg6
    go_wp2_with fail
    change bodyPost _ _ _ _ _ (set5 w6 w.heap.size (.int .i64 0) (.string ⟨#[]⟩) (.string ⟨#[]⟩) (.int .i64 0) (.slice none 0 0))
    generalize set5 w6 w.heap.size (.int .i64 0) (.string ⟨#[]⟩) (.string ⟨#[]⟩) (.int .i64 0) (.slice none 0 0)=WF at *
    have ⟨⟨f0,f1,f2,f3,f4⟩,_⟩:=keep5 HFX.out
    exact bodyPost_ret (v:=.agg #[.int .i64 0,.string ⟨#[]⟩,.string ⟨#[]⟩,.int .i64 0,.slice none 0 0]) (by simp[results,Tryz.results144,go_sem,f0,f1,f2,f3,f4]) rfl ⟨ret_v (by rw[hres.out];rfl),HBF.out⟩
  ·obtain ⟨pv,hpv⟩:∃ pv,pint (Lib.trimSuffix c2 [41])=pv:=⟨_,rfl⟩
   have hfe:Hid (fSel (bl t)=if bl (fieldT (ub d1) (ub d2) pv)=bl t then (1,ub d1,ub d2,pv) else (0,ByteArray.empty,ByteArray.empty,0)):=hid (by rw[←hpv];exact hfc.out)
   have hok:Hid (OkI pv):=hid (by rw[←hpv];exact hp0.out)
   have hokr:-9223372036854775808≤pv∧pv≤9223372036854775807:=hok.out
   have HB3:Hid (Below w.heap.size w (w2.alloc (.cells #[.int .i64 1,.string (ub d1),.string (ub d2),.int .i64 (-1),.slice none 0 0] 97))):=hid (HB2.out.alloc HB2.out.size _)
   have CP2:=hid (CP.out (ub (Lib.trimSuffix (bl (ub c2)) (bl ⟨#[41]⟩))) (w2.alloc (.cells #[.int .i64 1,.string (ub d1),.string (ub d2),.int .i64 (-1),.slice none 0 0] 97)) htr.out.2 HB3.out)
   rw[htr.out.1,hpv] at CP2
   clear hfc hpv
   go_wp2_with (go_at_call 74;refine(trimC (ub c2) ⟨#[41]⟩ _ sc2).mono ?_;rintro e w' ⟨rfl,rfl⟩)
   refine CP2.out.mono ?_
   rintro e w4 ⟨⟨x,rfl⟩,hb4⟩
   have hk4:=(hb4.block w.heap.size (by simp;omega)).trans ((Below.heap_alloc w2 _ w.heap.size hz2).trans hk2.out)
   have hg4:=(hb4.block w2.heap.size (by simp)).trans (heap_alloc_new w2 _)
   have HB4:=hid (HB3.out.trans (hb4.mono HB3.out.size))
   have hz4:w2.heap.size<w4.heap.size:=by have:=hb4.size;simp at this;omega
   have ⟨⟨q0,q1,q2,q3,q4⟩,s0,s1,s2,s3,s4⟩:=keep5 hg4
   have HB5:Hid (Below w.heap.size w (w4.setCell ⟨w2.heap.size,3,none⟩ (.int .i64 pv))):=hid (HB4.out.setCell (p:=⟨w2.heap.size,3,none⟩) (Nat.le_of_lt hz2) _)
   have hk5:Hid ((w4.setCell ⟨w2.heap.size,3,none⟩ (.int .i64 pv)).heap[w.heap.size]?=_):=hid ((Go.Deep.blk_setCell_other w4 ⟨w2.heap.size,3,none⟩ _ w.heap.size (Nat.ne_of_lt hz2)).trans hk4)
   have hg5:Hid ((w4.setCell ⟨w2.heap.size,3,none⟩ (.int .i64 pv)).heap[w2.heap.size]?=some (.cells #[.int .i64 1,.string (ub d1),.string (ub d2),.int .i64 pv,.slice none 0 0] 97 (0,0))):=hid ((heap_setCell_same w4 w2.heap.size 3 _ _ (.int .i64 pv) hg4).trans (by simp))
   have hl5:Hid (w.heap.size<(w4.setCell ⟨w2.heap.size,3,none⟩ (.int .i64 pv)).heap.size∧w2.heap.size<(w4.setCell ⟨w2.heap.size,3,none⟩ (.int .i64 pv)).heap.size):=hid (by simp;omega)
   clear hb4 hk4 hg4 CP2
   go_wp2_with fail
   clear q0 q1 q2 q3 q4 s0 s1 s2 s3 s4
   refine(CF.out 1 (ub d1) (ub d2) pv _ sd1 sd2 hok.out HB5.out).mono ?_
   rintro e w6 ⟨rfl,hb6⟩
   have hk6:=(hb6.block w.heap.size hl5.out.1).trans hk5.out
   have hg6:=(hb6.block w2.heap.size hl5.out.2).trans hg5.out
   have HB6:=hid (HB5.out.trans (hb6.mono HB5.out.size))
   have ⟨⟨e0,e1,e2,e3,e4⟩,p0,p1,p2,p3,p4⟩:=keep5 hk6
   have ⟨⟨x0,x1,x2,x3,x4⟩,y0,y1,y2,y3,y4⟩:=keep5 hg6
   clear hb6 hk5 hg5 hl5 HB5 CF CP C1 C2 HA
   by_cases hfw:fieldT (ub d1) (ub d2) pv=t
   ·have hres:Hid (fSel (bl t)=(1,ub d1,ub d2,pv)):=hid (by rw[hfe.out,if_pos (by rw[hfw])])
    have hsx:(fieldT (ub d1) (ub d2) pv).size≤9223372036854775807:=by rw[hfw];omega
    generalize fieldT (ub d1) (ub d2) pv=x at *
    subst hfw
    have HFX:=hid (set5_block hk6 (.int .i64 1) (.string (ub d1)) (.string (ub d2)) (.int .i64 pv) (.slice none 0 0))
    have HBF:=hid (set5_below HB6.out (g:=w.heap.size) (Nat.le_refl _) (.int .i64 1) (.string (ub d1)) (.string (ub d2)) (.int .i64 pv) (.slice none 0 0))
    clear hk6 hg6
    go_wp2_with fail
    change bodyPost _ _ _ _ _ (set5 w6 w.heap.size (.int .i64 1) (.string (ub d1)) (.string (ub d2)) (.int .i64 pv) (.slice none 0 0))
    generalize set5 w6 w.heap.size (.int .i64 1) (.string (ub d1)) (.string (ub d2)) (.int .i64 pv) (.slice none 0 0)=WF at *
    have ⟨⟨f0,f1,f2,f3,f4⟩,_⟩:=keep5 HFX.out
    exact bodyPost_ret (v:=.agg #[.int .i64 1,.string (ub d1),.string (ub d2),.int .i64 pv,.slice none 0 0]) (by simp[results,Tryz.results144,go_sem,f0,f1,f2,f3,f4]) rfl ⟨ret_v (by rw[hres.out];rfl),HBF.out⟩
   ·have hres:Hid (fSel (bl t)=(0,ByteArray.empty,ByteArray.empty,0)):=hid (by rw[hfe.out,if_neg (fun e=>hfw (bl_inj e))])
    have hn1:=toList_ne hfw
    have hn2:=toList_beq hfw
    generalize fieldT (ub d1) (ub d2) pv=x at *
    have HFX:=hid (set5_block hk6 (.int .i64 0) (.string ⟨#[]⟩) (.string ⟨#[]⟩) (.int .i64 0) (.slice none 0 0))
    have HBF:=hid (set5_below HB6.out (g:=w.heap.size) (Nat.le_refl _) (.int .i64 0) (.string ⟨#[]⟩) (.string ⟨#[]⟩) (.int .i64 0) (.slice none 0 0))
    clear hk6 hg6
    go_wp2_with fail
    change bodyPost _ _ _ _ _ (set5 w6 w.heap.size (.int .i64 0) (.string ⟨#[]⟩) (.string ⟨#[]⟩) (.int .i64 0) (.slice none 0 0))
    generalize set5 w6 w.heap.size (.int .i64 0) (.string ⟨#[]⟩) (.string ⟨#[]⟩) (.int .i64 0) (.slice none 0 0)=WF at *
    have ⟨⟨f0,f1,f2,f3,f4⟩,_⟩:=keep5 HFX.out
    exact bodyPost_ret (v:=.agg #[.int .i64 0,.string ⟨#[]⟩,.string ⟨#[]⟩,.int .i64 0,.slice none 0 0]) (by simp[results,Tryz.results144,go_sem,f0,f1,f2,f3,f4]) rfl ⟨ret_v (by rw[hres.out];rfl),HBF.out⟩
abbrev RdI (w:World) (p:Nat) (a:Option Addr) (cap:Nat) (W:List Tok) (k:Nat):Prop:=Rd 113 w p a cap W k
theorem ret_s{a b:ByteArray}(h:a=b):Ending.returned (.string a)=.returned (.string b):=by rw[h]
theorem rpPeek(w:World)(p cap k:Nat)(a:Option Addr)(W:List Tok)(h:RdI w p a cap W k)(hk:k≤W.length) :
  Calls Tryz.prog 129 #[.pointer (some ⟨p,0,none⟩)] w fun e w'=>e=.returned (.string (ub (word (W.drop k))))∧Below w.heap.size w w':=by
 have c0:w.cell? ⟨p,0,none⟩=some (.slice a W.length cap):=cell_of h.hd rfl
 have c1:w.cell? ⟨p,1,none⟩=some (.int .i64 k):=cell_of h.hd rfl
 have hsm:=h.small
 by_cases hlt:k<W.length
 ·have hx:W[k]?=some W[k]:=List.getElem?_eq_getElem hlt
  obtain ⟨b,off,rfl,hb,hc⟩:=h.row k _ hx
  have hf:=hid (show ub W[k]=ub (word (W.drop k)) by rw[word_drop,List.getD_eq_getElem?_getD,hx];rfl)
  have hli:(k:Int)<(W.length:Int):=by omega
  have hne:(k:Int)≠(W.length:Int):=by omega
  have hneb:((k:Int) == (W.length:Int))=false:=by rw[beq_eq_false_iff_ne];omega
  generalize W[k]=x at hx hc hf
  generalize W.length=n at *
  clear h hx hlt
  go_enter Tryz.func129,Tryz.ntmps129
  go_wp2_with fail
  go_region
  go_wp2_with fail
  go_region
  go_wp2_with fail
  go_ret
  exact⟨ret_s hf.out,(Below.refl _ _).drew.drew⟩
 ·have hf:=hid (show ByteArray.empty=ub (word (W.drop k)) by rw[List.drop_eq_nil_of_le (by omega)];rfl)
  have hli:(k:Int)=(W.length:Int):=by omega
  have hneb:((k:Int) == (W.length:Int))=true:=by rw[hli];exact beq_self_eq_true _
  generalize W.length=n at *
  clear h hlt
  go_enter Tryz.func129,Tryz.ntmps129
  go_wp2_with fail
  go_region
  go_wp2_with fail
  go_ret
  exact⟨ret_s hf.out,(Below.refl _ _).drew⟩
theorem rpNext(w:World)(p cap k:Nat)(a:Option Addr)(W:List Tok)(h:RdI w p a cap W k)(hk:k≤W.length) :
  Calls Tryz.prog 115 #[.pointer (some ⟨p,0,none⟩)] w fun e w'=>e=.returned (.string (ub (word (W.drop k))))∧(∃ k',k≤k'∧k'≤W.length∧(k<W.length→k'=k+1)∧W.drop k'=(W.drop k).drop 1∧RdI w' p a cap W k')∧OnlyP p w w':=by
 have CW:=hid (rpPeek w p cap k a W h hk)
 have HR:=hid h
 have hplt:=h.lt
 have hsm:=h.small
 clear h
 go_enter Tryz.func115,Tryz.ntmps115
 go_wp2_with fail
 refine CW.out.mono ?_
 rintro e w1 ⟨rfl,hb1⟩
 have h1:=HR.out.below hplt hb1
 have c0:w1.drew.cell? ⟨p,0,none⟩=some (.slice a W.length cap):=cell_of h1.hd rfl
 have c1:w1.drew.cell? ⟨p,1,none⟩=some (.int .i64 k):=cell_of h1.hd rfl
 have d0:w1.cell? ⟨p,0,none⟩=some (.slice a W.length cap):=cell_of h1.hd rfl
 have d1:w1.cell? ⟨p,1,none⟩=some (.int .i64 k):=cell_of h1.hd rfl
 have f1:=frozen_of_row w1 p 1 _ _ h1.hd
 by_cases hlt:k<W.length
 ·have hend:RdI (w1.drew.setCell ⟨p,1,none⟩ (.int .i64 ((k:Int)+1))) p a cap W (k+1):=by
   refine⟨heap_setCell_same w1.drew p 1 _ _ _ h1.hd,fun i x hx=>?_,h1.small,h1.sizes⟩
   obtain ⟨b,off,ha,hb,hc⟩:=h1.row i x hx
   have hne:b≠p:=by omega
   exact⟨b,off,ha,hb,(World.cell?_setCell_other _ _ _ _ (by simp)).trans hc⟩
  have HE:=hid hend
  have HO:Hid (OnlyP p w (w1.drew.setCell ⟨p,1,none⟩ (.int .i64 ((k:Int)+1)))):=hid (((OnlyP.refl p w).below (Nat.le_refl _) hb1.drew).trans ⟨rfl,rfl,rfl,by simp,fun q _ hq=>Go.Deep.blk_setCell_other _ _ _ _ hq⟩)
  have hdr:=hid (show W.drop (k+1)=(W.drop k).drop 1 by rw[List.drop_drop])
  have hki:=hid hlt
  have hli:(k:Int)<(W.length:Int):=by omega
  generalize hn:W.length=n at c0 d0 hli hsm
  clear h1 hend hb1 hlt
  go_wp2_with fail
  go_region
  go_wp2_with fail
  go_ret
  exact⟨rfl,⟨k+1,by omega,hki.out,fun _=>rfl,hdr.out,HE.out⟩,HO.out⟩
 ·have HE:=hid (show RdI w1.drew p a cap W k from ⟨h1.hd,h1.row,h1.small,h1.sizes⟩)
  have HO:=hid ((OnlyP.refl p w).below (Nat.le_refl _) hb1.drew)
  have hdr:=hid (show W.drop k=(W.drop k).drop 1 by rw[List.drop_drop,List.drop_eq_nil_of_le (by omega),List.drop_eq_nil_of_le (by omega)])
  have hki:=hid hlt
  have hkj:=hid hk
  have hli:¬ (k:Int)<(W.length:Int):=by omega
  have hle:(W.length:Int)≤(k:Int):=by omega
  generalize hn:W.length=n at c0 d0 hli hle hsm
  clear h1 hb1 hlt hk
  go_wp2_with fail
  go_region
  go_wp2_with fail
  go_ret
  exact⟨rfl,⟨k,Nat.le_refl _,hkj.out,fun h=>absurd h hki.out,hdr.out,HE.out⟩,HO.out⟩
theorem rpTook(w:World)(p cap k:Nat)(a:Option Addr)(W:List Tok)(t:ByteArray)(ht:t≠ByteArray.empty)(hts:t.size≤100)(h:RdI w p a cap W k)(hk:k≤W.length) :
  Calls Tryz.prog 113 #[.pointer (some ⟨p,0,none⟩),.string t] w fun e w'=>∃ b:Bool,e=.returned (.bool b)∧OnlyP p w w'∧(b=true→word (W.drop k)=bl t∧∃ k',k+1=k'∧k'≤W.length∧W.drop k'=(W.drop k).drop 1∧RdI w' p a cap W k')∧(b=false→word (W.drop k)≠bl t∧RdI w' p a cap W k):=by
 have CW:=hid (rpPeek w p cap k a W h hk)
 have hplt:=h.lt
 by_cases he:ub (word (W.drop k))=t
 ·have hwd:=hid (show word (W.drop k)=bl t by rw[←he,bl_ub])
  have hlt:=hid (show k<W.length by
   rcases Nat.lt_or_ge k W.length with g|g
   ·exact g
   ·exfalso;rw[List.drop_eq_nil_of_le g] at he;exact ht he.symm)
  have CN:Hid (∀ w',Below w.heap.size w w'→Calls Tryz.prog 115 #[.pointer (some ⟨p,0,none⟩)] w' fun e w''=>e=.returned (.string (ub (word (W.drop k))))∧(∃ k',k≤k'∧k'≤W.length∧(k<W.length→k'=k+1)∧W.drop k'=(W.drop k).drop 1∧RdI w'' p a cap W k')∧OnlyP p w' w''):=hid fun w' hb=>rpNext w' p cap k a W (h.below hplt hb) hk
  clear h
  rw[he] at CW CN
  go_enter Tryz.func113,Tryz.ntmps113
  go_wp2_with fail
  refine CW.out.mono ?_
  rintro e w1 ⟨rfl,hb1⟩
  have HB1:=hid hb1
  clear hb1
  go_wp2_with fail
  refine(CN.out _ HB1.out).mono ?_
  rintro e w2 ⟨rfl,⟨k',h1,h2,h3,h4,h5⟩,ho⟩
  have HO:=hid (((OnlyP.refl p w).below (Nat.le_refl _) HB1.out).trans ho)
  have HR:=hid h5
  have HK:=hid (And.intro (h3 hlt.out).symm (And.intro h2 h4))
  clear h5 ho h1 h2 h3 h4
  go_wp2_with fail
  go_ret
  exact⟨true,rfl,HO.out,fun _=>⟨hwd.out,k',HK.out.1,HK.out.2.1,HK.out.2.2,HR.out⟩,fun h=>(by cases h)⟩
 ·have hwd:=hid (show word (W.drop k)≠bl t from fun e=>he (by rw[e,ub_bl]))
  have HR:Hid (∀ w',Below w.heap.size w w'→RdI w' p a cap W k):=hid fun w' hb=>h.below hplt hb
  have hn1:=toList_ne he
  have hn2:=toList_beq he
  generalize ub (word (W.drop k))=x at *
  clear h
  go_enter Tryz.func113,Tryz.ntmps113
  go_wp2_with fail
  refine CW.out.mono ?_
  rintro e w1 ⟨rfl,hb1⟩
  have HB1:=hid hb1
  clear hb1
  go_wp2_with fail
  go_ret
  exact⟨false,rfl,(OnlyP.refl p w).below (Nat.le_refl _) HB1.out,fun h=>(by cases h),fun _=>⟨hwd.out,HR.out _ HB1.out⟩⟩
noncomputable def selOfP(t:Tok):Int×ByteArray×ByteArray×Int :=
 if t.take 3=[46,46,46] then (if t.drop 3=[111,110] then (2,ByteArray.empty,ByteArray.empty,-1) else (3,ByteArray.empty,ub (t.drop 3),-1)) else fSel t
theorem prefix3(t:Tok):Lib.hasPrefix t [46,46,46]=decide (t.take 3=[46,46,46]):=by
 unfold Lib.hasPrefix
 by_cases h:t.take 3=[46,46,46]
 ·rw[decide_eq_true h,List.isPrefixOf_iff_prefix,←h];exact List.take_prefix 3 t
 ·rw[decide_eq_false h]
  cases hp:List.isPrefixOf [46,46,46] t with
  | false=>rfl
  | true =>
   exfalso
   obtain ⟨r,rfl⟩:=List.isPrefixOf_iff_prefix.1 hp
   exact h (by simp)
set_option maxHeartbeats 2000000 in
theorem implSelOf(t:ByteArray)(ht:t.size≤8000)(w:World)(B:Nat)(hv:Vars B w)(hB:B≤w.heap.size) :
  Calls Tryz.prog 130 #[.string t] w fun e w'=>e=.returned (selV (selOfP (bl t)))∧Below w.heap.size w w':=by
 have CP:Hid (∀ w':World,Calls Tryz.prog 134 #[.string t,.string ⟨#[46,46,46]⟩] w' fun e w''=>e=.returned (.tuple #[.string (ub (Lib.trimPrefix (bl t) [46,46,46])),.bool (decide ((bl t).take 3=[46,46,46]))])∧w'=w''):=hid fun w'=>by
  refine(Tryz.strings_CutPrefix t ⟨#[46,46,46]⟩ w').mono ?_
  rintro e w'' ⟨rfl,rfl⟩
  exact⟨by rw[←prefix3];rfl,rfl⟩
 have CF:Hid (∀ w':World,Below w.heap.size w w'→Calls Tryz.prog 144 #[.string t] w' fun e w''=>e=.returned (selV (fSel (bl t)))∧Below w'.heap.size w' w''):=hid fun w' h=>implFieldSel t ht w' B (hv.over hB h) (Nat.le_trans hB h.size)
 have HA:Hid (∀ o,Below w.heap.size w (w.alloc o)):=hid fun o=>(Below.refl _ _).alloc (Nat.le_refl _) o
 have hk0:Hid ((w.alloc (.cells #[.int .i64 0,.string ⟨#[]⟩,.string ⟨#[]⟩,.int .i64 0,.slice none 0 0] 97)).heap[w.heap.size]?=some (.cells #[.int .i64 0,.string ⟨#[]⟩,.string ⟨#[]⟩,.int .i64 0,.slice none 0 0] 97 (0,0))):=hid (heap_alloc_new w _)
 clear hv hB
 by_cases h3:(bl t).take 3=[46,46,46]
 ·rw[decide_eq_true h3] at CP
  have htp:Lib.trimPrefix (bl t) [46,46,46]=(bl t).drop 3:=by unfold Lib.trimPrefix;rw[prefix3,decide_eq_true h3];rfl
  rw[htp] at CP
  by_cases hon:(bl t).drop 3=[111,110]
  ·have hres:Hid (selOfP (bl t)=(2,ByteArray.empty,ByteArray.empty,-1)):=hid (by unfold selOfP;rw[if_pos h3,if_pos hon])
   rw[hon] at CP
   have e1:(ub [111,110]).toList=[111,110]:=by rw[Lib.toList_data];rfl
   clear h3 htp hon
   go_enter Tryz.func130,Tryz.ntmps130
   go_wp2_with (go_at_call 134;refine(CP.out _).mono ?_;rintro e w' ⟨rfl,rfl⟩)
   exact bodyPost_ret (v:=.agg #[.int .i64 2,.string ⟨#[]⟩,.string ⟨#[]⟩,.int .i64 (-1),.slice none 0 0]) (by simp[results,Tryz.results130,go_sem]) rfl ⟨ret_v (by rw[hres.out];rfl),HA.out _⟩
  ·have hres:Hid (selOfP (bl t)=(3,ByteArray.empty,ub ((bl t).drop 3),-1)):=hid (by unfold selOfP;rw[if_pos h3,if_neg hon])
   have e1:(ub ((bl t).drop 3)).toList≠[111,110]:=by rw[Lib.toList_data];intro e;exact hon (by rw[←bl_ub ((bl t).drop 3)];exact e)
   have e2:((ub ((bl t).drop 3)).toList == [111,110])=false:=beq_eq_false_iff_ne.2 e1
   generalize ub ((bl t).drop 3)=nm at *
   clear h3 htp hon
   go_enter Tryz.func130,Tryz.ntmps130
   go_wp2_with (go_at_call 134;refine(CP.out _).mono ?_;rintro e w' ⟨rfl,rfl⟩)
   exact bodyPost_ret (v:=.agg #[.int .i64 3,.string ⟨#[]⟩,.string nm,.int .i64 (-1),.slice none 0 0]) (by simp[results,Tryz.results130,go_sem]) rfl ⟨ret_v (by rw[hres.out];rfl),HA.out _⟩
 ·rw[decide_eq_false h3] at CP
  have hres:Hid (selOfP (bl t)=fSel (bl t)):=hid (by unfold selOfP;rw[if_neg h3])
  generalize fSel (bl t)=r at *
  obtain ⟨k,key,nm,f⟩:=r
  simp only[selV] at CF
  clear h3
  go_enter Tryz.func130,Tryz.ntmps130
  go_wp2_with (go_at_call 134;refine(CP.out _).mono ?_;rintro e w' ⟨rfl,rfl⟩)
  refine(CF.out _ (HA.out _)).mono ?_
  rintro e w1 ⟨rfl,hb1⟩
  have hk1:=(hb1.block w.heap.size (by simp)).trans hk0.out
  have HB1:=hid ((HA.out _).trans (hb1.mono (HA.out _).size))
  have ⟨⟨e0,e1,e2,e3,e4⟩,p0,p1,p2,p3,p4⟩:=keep5 hk1
  have HFX:=hid (set5_block hk1 (.int .i64 k) (.string key) (.string nm) (.int .i64 f) (.slice none 0 0))
  have HBF:=hid (set5_below HB1.out (g:=w.heap.size) (Nat.le_refl _) (.int .i64 k) (.string key) (.string nm) (.int .i64 f) (.slice none 0 0))
  clear hb1 hk1
  go_wp2_with fail
  change bodyPost _ _ _ _ _ (set5 w1 w.heap.size (.int .i64 k) (.string key) (.string nm) (.int .i64 f) (.slice none 0 0))
  generalize set5 w1 w.heap.size (.int .i64 k) (.string key) (.string nm) (.int .i64 f) (.slice none 0 0)=WF at *
  have ⟨⟨f0,f1,f2,f3,f4⟩,_⟩:=keep5 HFX.out
  exact bodyPost_ret (v:=.agg #[.int .i64 k,.string key,.string nm,.int .i64 f,.slice none 0 0]) (by simp[results,Tryz.results130,go_sem,f0,f1,f2,f3,f4]) rfl ⟨ret_v (by rw[hres.out];rfl),HBF.out⟩
end Go.Proofs.YtmembhpoidcmlaaGreatDoor.Selss
namespace Go.Proofs.YtmembhpoidcmlaaGreatDoor.Selss
open Go.RowKit Words Decs Splits
set_option linter.unusedVariables false
set_option maxRecDepth 100000
def BlockOk(n:Nat):Prop:=∀ (w:World) (p cap k:Nat) (a:Option Addr) (W:List Tok),W.length - k<n→RdI w p a cap W k→k≤W.length→Vars p w →
 Calls Tryz.prog 93 #[.pointer (some ⟨p,0,none⟩)] w fun e w'=>∃ v err k',e=.returned (.tuple #[v,err])∧OnlyP p w w'∧k≤k'∧k'≤W.length∧RdI w' p a cap W k' ∧
  ((err=.nilIface∧∃ s a' cap',v=.slice a' s.len cap'∧SelsX w' w.heap.size w'.heap.size a' s.len s∧word (W.drop k)=[123]∧Reads s ((W.drop k).drop 1) (W.drop k')∧k<k') ∨
  (err=(.iface 116 (.agg #[.int .i64 3]))∧v=.slice none 0 0∧¬ ∃ s W',word (W.drop k)=[123]∧Reads s ((W.drop k).drop 1) W'))
def SelOk(n:Nat):Prop:=∀ (w:World) (p cap k:Nat) (a:Option Addr) (W:List Tok),W.length - k<n→RdI w p a cap W k→k≤W.length→Vars p w →
 Calls Tryz.prog 114 #[.pointer (some ⟨p,0,none⟩)] w fun e w'=>∃ kd key nm f a' cap' u err k',e=.returned (.tuple #[.agg #[.int .i64 kd,.string key,.string nm,.int .i64 f,.slice a' u.len cap'],err])∧OnlyP p w w'∧k≤k'∧k'≤W.length∧RdI w' p a cap W k' ∧
  ((err=.nilIface∧SelsX w' w.heap.size w'.heap.size a' u.len u∧(OkI kd∧OkS key∧OkS nm∧OkI f)∧ReadsOne kd key nm f u (W.drop k) (W.drop k')∧k<k') ∨
  (err=(.iface 116 (.agg #[.int .i64 3]))∧¬ ∃ kd key nm f u W1,ReadsOne kd key nm f u (W.drop k) W1))
theorem noOne_head{X:List Tok}(h:headF X=none):¬ ∃ kd key nm f u W1,ReadsOne kd key nm f u X W1:=by
 rintro⟨kd,key,nm,f,u,W1,W0,h1,_⟩
 rw[h] at h1;cases h1
theorem noOne_block{X W0:List Tok}{kd:Int}{key nm:ByteArray}{f:Int}(h:headF X=some (kd,key,nm,f,W0))(hk:kd≠3)(hw:word W0=[123])(hn:¬ ∃ s W',word W0=[123]∧Reads s (W0.drop 1) W'):¬ ∃ kd key nm f u W1,ReadsOne kd key nm f u X W1:=by
 rintro⟨kd',key',nm',f',u,W1,V0,h1,h2⟩
 rw[h] at h1;cases h1
 rcases h2 with ⟨_,_,g2,g3⟩|⟨_,g2,g3⟩
 ·rcases headF_kind h with e|e|e
  ·exact g3 e hw
  ·exact g2 e
  ·exact hk e
 ·exact hn ⟨u,W1,g2,g3⟩
theorem noOne_on{X W0:List Tok}{key nm:ByteArray}{f:Int}(h:headF X=some (2,key,nm,f,W0))(hw:word W0≠[123]):¬ ∃ kd key nm f u W1,ReadsOne kd key nm f u X W1:=by
 rintro⟨kd',key',nm',f',u,W1,V0,h1,h2⟩
 rw[h] at h1;cases h1
 rcases h2 with ⟨_,_,g2,_⟩|⟨_,g2,_⟩
 ·exact g2 rfl
 ·exact hw g2
theorem Rd.set5{T:TypeId}{w:World}{p cap k g:Nat}{a:Option Addr}{W:List Tok}(h:Rd T w p a cap W k)(hg:p<g)(v0 v1 v2 v3 v4:Value):Rd T (set5 w g v0 v1 v2 v3 v4) p a cap W k :=
 h.below (B:=p+1) (Nat.lt_succ_self _) (set5_below (Below.refl _ _) hg v0 v1 v2 v3 v4)
theorem OnlyP.set5{p g:Nat}{w w':World}(h:OnlyP p w w')(hg:w.heap.size≤g)(v0 v1 v2 v3 v4:Value):OnlyP p w (set5 w' g v0 v1 v2 v3 v4) :=
 h.below (Nat.le_refl _) (set5_below (Below.refl _ _) hg v0 v1 v2 v3 v4)
theorem OnlyP.put{p g j:Nat}{w w':World}(h:OnlyP p w w')(hg:w.heap.size≤g)(v:Value):OnlyP p w (w'.setCell ⟨g,j,none⟩ v) :=
 h.below (Nat.le_refl _) ((Below.refl _ _).setCell (p:=⟨g,j,none⟩) hg v)
theorem Rd.put{T:TypeId}{w:World}{p cap k g j:Nat}{a:Option Addr}{W:List Tok}(h:Rd T w p a cap W k)(hg:p<g)(v:Value):Rd T (w.setCell ⟨g,j,none⟩ v) p a cap W k :=
 h.below (B:=p+1) (Nat.lt_succ_self _) ((Below.refl _ _).setCell (p:=⟨g,j,none⟩) hg v)
theorem SelsX.set5{w:World}{A B len g:Nat}{a:Option Addr}{s:Sels}(h:SelsX w A B a len s)(hg:g<A)(v0 v1 v2 v3 v4:Value):SelsX (set5 w g v0 v1 v2 v3 v4) A B a len s :=
 h.block fun c c1 _=>by
  have:=(set5_below (Below.refl g w) (Nat.le_refl g) v0 v1 v2 v3 v4)
  unfold Selss.set5
  repeat rw[Go.Deep.blk_setCell_other _ ⟨g,_,none⟩ _ c (by show c≠g;omega)]
theorem sel_cases(X:List Tok) :
  (∃ Y,X=[46,46,46,111,110]::Y∧selOfP (word X)=(2,ByteArray.empty,ByteArray.empty,-1)) ∨
  (∃ nm,selOfP (word X)=(3,ByteArray.empty,nm,-1)∧X≠[]∧headF X=if wordB nm=true then some (3,ByteArray.empty,nm,-1,X.drop 1) else none) ∨
  (∃ key nm f,selOfP (word X)=(1,key,nm,f)∧OkI f∧key.size≤8000+(word X).length∧nm.size≤8000+(word X).length∧(oneB 1 key nm f 0=true→X≠[]∧headF X=some (1,key,nm,f,X.drop 1))∧(oneB 1 key nm f 0=false→headF X=none)) ∨
  (selOfP (word X)=(0,ByteArray.empty,ByteArray.empty,0)∧headF X=none):=by
 by_cases h3:(word X).take 3=[46,46,46]
 ·have hne:X≠[]:=fun e=>by rw[e] at h3;cases h3
  obtain ⟨t,Y,rfl⟩:∃ t Y,X=t::Y:=by cases X with
   | nil=>exact absurd rfl hne
   | cons t Y=>exact⟨t,Y,rfl⟩
  have h3':t.take 3=[46,46,46]:=h3
  by_cases hon:t.drop 3=[111,110]
  ·refine .inl ⟨Y,?_,by unfold selOfP;rw[if_pos h3,if_pos (show (word (t::Y)).drop 3=[111,110] from hon)]⟩
   have:=List.take_append_drop 3 t
   rw[h3',hon] at this
   rw[←this];rfl
  ·refine .inr (.inl ⟨ub (t.drop 3),by unfold selOfP;rw[if_pos h3,if_neg (show ¬ (word (t::Y)).drop 3=[111,110] from hon)];rfl,hne,?_⟩)
   rw[headF_cons,if_neg (fun e=>hon (by rw[e];rfl)),if_pos h3'];rfl
 ·have hs:selOfP (word X)=fSel (word X):=by unfold selOfP;rw[if_neg h3]
  rw[hs]
  unfold fSel
  by_cases hf:bl (fieldT (ub (fCand (word X)).1) (ub (fCand (word X)).2.1) (fCand (word X)).2.2)=word X
  ·rw[if_pos hf]
   have hl:=fCand_len (word X)
   refine .inr (.inr (.inl ⟨_,_,_,rfl,fCand_int _,by rw[ub_size'];omega,by rw[ub_size'];omega,fun h1=>?_,fun h1=>?_⟩))
   ·cases X with
    | nil =>
     exfalso
     have:wordB (ub (fCand (word [])).1)=true:=by rw[oneB_1] at h1;simp only[Bool.and_eq_true] at h1;exact h1.1
     have:=ofB_pos (wordB_of this).1
     rw[ub_size'] at this
     simp only[word,List.headD_nil,List.length_nil] at hl this;omega
    | cons t Y =>
     refine⟨by simp,?_⟩
     rw[headF_cons,if_neg (fun e=>h3 (by show t.take 3=_;rw[e];rfl)),if_neg (show ¬ t.take 3=[46,46,46] from h3),if_pos ⟨hf,h1⟩];rfl
   ·cases X with
    | nil=>rfl
    | cons t Y=>rw[headF_cons,if_neg (fun e=>h3 (by show t.take 3=_;rw[e];rfl)),if_neg (show ¬ t.take 3=[46,46,46] from h3),if_neg (fun e=>by rw[show fCand (word (t::Y))=fCand t from rfl] at h1;rw[h1] at e;cases e.2)]
  ·rw[if_neg hf]
   refine .inr (.inr (.inr ⟨rfl,?_⟩))
   cases X with
   | nil=>rfl
   | cons t Y=>rw[headF_cons,if_neg (fun e=>h3 (by show t.take 3=_;rw[e];rfl)),if_neg (show ¬ t.take 3=[46,46,46] from h3),if_neg (fun e=>hf e.1)]
theorem oneB_len1(key nm:ByteArray)(f:Int)(n:Nat):oneB 1 key nm f n=oneB 1 key nm f 0:=by rw[oneB_1,oneB_1]
end Go.Proofs.YtmembhpoidcmlaaGreatDoor.Selss
namespace Go.Proofs.YtmembhpoidcmlaaGreatDoor.Selss
open Lib (hid)
open Go.RowKit Words Decs Splits
set_option linter.unusedVariables false
set_option maxRecDepth 100000
theorem word_len{W:List Tok}(h:∀ x∈W,x.length≤8000)(k:Nat):(word (W.drop k)).length≤8000:=by
 rw[word_drop,List.getD_eq_getElem?_getD]
 cases hx:W[k]? with
 | none=>simp
 | some x=>exact h x (List.mem_of_getElem? hx)
theorem okS_ub{t:Tok}(h:t.length≤8000):OkS (ub t):=by unfold OkS;rw[ub_size'];omega
theorem OnlyP.vars{p:Nat}{w w':World}(h:OnlyP p w w')(hp:p<w.heap.size)(hv:Vars p w):Vars p w':=hv.on (h.toBelow (Nat.le_refl p) (by omega))
theorem lt_of_get{w:World}{g:Nat}{o:Obj}(h:w.heap[g]?=some o):g<w.heap.size:=by
 rcases Nat.lt_or_ge g w.heap.size with x|x
 ·exact x
 ·rw[Array.getElem?_eq_none x] at h;cases h
set_option maxHeartbeats 2000000 in
theorem selRd_flat(w:World)(p cap k:Nat)(a:Option Addr)(W:List Tok)(hR:RdI w p a cap W k)(hk:k≤W.length)(hv:Vars p w)
  (kd:Int) (key nm:ByteArray) (f:Int) (hok:OkI kd∧OkS key∧OkS nm∧OkI f) (hk1:kd≠1) (hk2:kd≠2) (r:Bool) (hr:oneB kd key nm f 0=r)
  (hs:selOfP (word (W.drop k))=(kd,key,nm,f)) :
  Calls Tryz.prog 114 #[.pointer (some ⟨p,0,none⟩)] w fun e w'=>∃ k' err,e=.returned (.tuple #[.agg #[.int .i64 kd,.string key,.string nm,.int .i64 f,.slice none 0 0],err])∧Hid ((r=true→err=.nilIface)∧(r=false→err=.iface 116 (.agg #[.int .i64 3])))∧OnlyP p w w'∧k≤k'∧k'≤W.length∧RdI w' p a cap W k'∧Hid ((k<W.length→k'=k+1)∧W.drop k'=(W.drop k).drop 1):=by
 have hplt:=hR.lt
 have CN:=hid (show ∀ w',Below w.heap.size w w'→_ from fun w' hb=>rpNext w' p cap k a W (hR.below hplt hb) hk)
 have CS:Hid (∀ w',OnlyP p w w'→Calls Tryz.prog 130 #[.string (ub (word (W.drop k)))] w' fun e w''=>e=.returned (selV (kd,key,nm,f))∧Below w'.heap.size w' w''):=hid fun w' hb=>by
  have:=implSelOf (ub (word (W.drop k))) (by rw[ub_size'];exact word_len hR.sizes k) w' p (hb.vars hplt hv) (by have:=hb.size;omega)
  rw[bl_ub,hs] at this;exact this
 have CR:Hid (∀ w',Calls Tryz.prog 123 #[.agg #[.int .i64 kd,.string key,.string nm,.int .i64 f,.slice none 0 0]] w' fun e w''=>e=.returned (.bool r)∧Below w'.heap.size w' w''):=hid fun w' => by
  have:=implSelRight w' kd key nm f none 0 0 hok (by omega)
  rw[hr] at this;exact this
 have HA:Hid (∀ o,Below w.heap.size w (w.alloc o)):=hid fun o=>(Below.refl _ _).alloc (Nat.le_refl _) o
 have hk0:Hid ((w.alloc (.cells #[.int .i64 0,.string ⟨#[]⟩,.string ⟨#[]⟩,.int .i64 0,.slice none 0 0] 97)).heap[w.heap.size]?=some (.cells #[.int .i64 0,.string ⟨#[]⟩,.string ⟨#[]⟩,.int .i64 0,.slice none 0 0] 97 (0,0))):=hid (heap_alloc_new w _)
 have b1:(kd == 1)=false:=beq_eq_false_iff_ne.2 hk1
 have b2:(kd == 2)=false:=beq_eq_false_iff_ne.2 hk2
 clear hv hR hr hok hs
 simp only[selV] at CS
 generalize ub (word (W.drop k))=x at *
 go_enter Tryz.func114,Tryz.ntmps114
 go_wp2_with fail
 refine(CN.out _ (HA.out _)).mono ?_
 rintro e w1 ⟨rfl,⟨k',h1,h2,h3,h4,h5⟩,ho⟩
 have hk1:=(ho.block w.heap.size (by simp) (by omega)).trans hk0.out
 have HO1:=hid (((OnlyP.refl p w).below (Nat.le_refl _) (HA.out _)).trans ho)
 have HR1:=hid h5
 have HK:=hid (And.intro h1 (And.intro h2 (And.intro h3 h4)))
 have hz1:=HO1.out.size
 clear h1 h2 h3 h4 h5 ho
 go_wp2_with fail
 refine(CS.out _ HO1.out).mono ?_
 rintro e w2 ⟨rfl,hb2⟩
 have hk2:=(hb2.block w.heap.size (lt_of_get hk1)).trans hk1
 have HO2:=hid (HO1.out.below hz1 hb2)
 have HR2:=hid (HR1.out.below HR1.out.lt hb2)
 have hz2:=HO2.out.size
 have ⟨⟨e0,e1,e2,e3,e4⟩,p0,p1,p2,p3,p4⟩:=keep5 hk2
 clear hb2 hk1
 go_wp2_with fail
 have HA2:Hid (∀ o,Below w2.heap.size w2 (w2.alloc o)):=hid fun o=>(Below.refl _ _).alloc (Nat.le_refl _) o
 have hr2:(w2.alloc (.cells #[.int .i64 kd,.string key,.string nm,.int .i64 f,.slice none 0 0] 97)).heap[w.heap.size]?=_:=((HA2.out _).block w.heap.size (lt_of_get hk2)).trans hk2
 have hs2:=heap_alloc_new w2 (.cells #[.int .i64 kd,.string key,.string nm,.int .i64 f,.slice none 0 0] 97)
 refine(CR.out _).mono ?_
 rintro e w3 ⟨rfl,hb3⟩
 have hr3:=(hb3.block w.heap.size (lt_of_get hr2)).trans hr2
 have hs3:=(hb3.block w2.heap.size (lt_of_get hs2)).trans hs2
 have hb23:=(HA2.out _).trans (hb3.mono (HA2.out _).size)
 have HO3:=hid (HO2.out.below hz2 hb23)
 have HR3:=hid (HR2.out.below HR2.out.lt hb23)
 have hz3:=HO3.out.size
 have hne:w2.heap.size≠w.heap.size:=by have:=lt_of_get hk2;omega
 clear e0 e1 e2 e3 e4 p0 p1 p2 p3 p4 hk2 hr2 hs2
 have ⟨⟨e0,e1,e2,e3,e4⟩,p0,p1,p2,p3,p4⟩:=keep5 hr3
 have ⟨⟨s0,s1,s2,s3,s4⟩,q0,q1,q2,q3,q4⟩:=keep5 hs3
 have HFX:=hid (set5_block hr3 (.int .i64 kd) (.string key) (.string nm) (.int .i64 f) (.slice none 0 0))
 have HOF:=hid (HO3.out.set5 (g:=w.heap.size) (Nat.le_refl _) (.int .i64 kd) (.string key) (.string nm) (.int .i64 f) (.slice none 0 0))
 have HRF:=hid (Rd.set5 HR3.out (g:=w.heap.size) hplt (.int .i64 kd) (.string key) (.string nm) (.int .i64 f) (.slice none 0 0))
 clear hr3 hs3 hb3 hb23
 cases r
 ·go_wp2_with fail
  change bodyPost _ _ _ _ _ (set5 w3 w.heap.size (.int .i64 kd) (.string key) (.string nm) (.int .i64 f) (.slice none 0 0))
  generalize set5 w3 w.heap.size (.int .i64 kd) (.string key) (.string nm) (.int .i64 f) (.slice none 0 0)=WF at *
  have ⟨⟨f0,f1,f2,f3,f4⟩,_⟩:=keep5 HFX.out
  exact bodyPost_ret (v:=.tuple #[.agg #[.int .i64 kd,.string key,.string nm,.int .i64 f,.slice none 0 0],.iface 116 (.agg #[.int .i64 3])]) (by simp[results,Tryz.results114,go_sem,f0,f1,f2,f3,f4]) rfl ⟨k',_,rfl,hid (by simp),HOF.out,HK.out.1,HK.out.2.1,HRF.out,hid (by have:=HK.out.2.2;simpa using this)⟩
 ·go_wp2_with fail
  change bodyPost _ _ _ _ _ (set5 w3 w.heap.size (.int .i64 kd) (.string key) (.string nm) (.int .i64 f) (.slice none 0 0))
  generalize set5 w3 w.heap.size (.int .i64 kd) (.string key) (.string nm) (.int .i64 f) (.slice none 0 0)=WF at *
  have ⟨⟨f0,f1,f2,f3,f4⟩,_⟩:=keep5 HFX.out
  exact bodyPost_ret (v:=.tuple #[.agg #[.int .i64 kd,.string key,.string nm,.int .i64 f,.slice none 0 0],.nilIface]) (by simp[results,Tryz.results114,go_sem,f0,f1,f2,f3,f4]) rfl ⟨k',_,rfl,hid (by simp),HOF.out,HK.out.1,HK.out.2.1,HRF.out,hid (by have:=HK.out.2.2;simpa using this)⟩
theorem sels_nil(w:World)(B:Nat):SelsX w B B none Sels.nil.len .nil:=⟨rfl,Nat.zero_le _,Nat.le_refl _,.inl rfl⟩
theorem rd_size{W:List Tok}{k:Nat}(h:W.drop k≠[]):k<W.length:=by
 rcases Nat.lt_or_ge k W.length with g|g
 ·exact g
 ·exact absurd (List.drop_eq_nil_of_le g) h
end Go.Proofs.YtmembhpoidcmlaaGreatDoor.Selss
