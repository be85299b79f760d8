/-
  Contracts: the model's reader of selections reads what pSels says; of what was there its own place alone is changed. Conditions: as each theorem says.
-/
import Derived.Test.YtmembhpoidcmlaaGreatDoorRows
import Derived.Test.YtmembhpoidcmlaaGreatDoorToks
import Derived.Test.YtmembhpoidcmlaaGreatDoorSplit
import Derived.Deep.RegionHeld3
import Derived.IntWalk
import Derived.Deep.RegionWith
import Derived.Test.YtmembhpoidcmlaaGreatDoorOwnSel
import Derived.RegionTactic
import Derived.BigRegion
namespace Go.Proofs.YtmembhpoidcmlaaGreatDoor.Selss
open Go.RowKit Words Decs Splits
set_option linter.unusedVariables false
def ub(t:Tok):ByteArray:=⟨t.toArray⟩
theorem ub_bl(b:ByteArray):ub (bl b)=b:=by simp[ub,bl]
theorem bl_ub(t:Tok):bl (ub t)=t:=by simp[ub,bl]
def word(W:List Tok):Tok:=W.headD []
def numP(t:Tok):Int :=
 if t.length<1∨9<t.length∨(1<t.length∧t.headD 0=48) then -1
 else if t.all (fun c=>decide (48≤c.toNat) && decide (c.toNat≤57)) then t.foldl (fun n c=>10 * n+((c.toNat:Int) - 48)) 0 else -1
def fieldP(t:Tok):Tok×Tok×Int :=
 let p:=splitL 40 t
 let k:=splitL 58 (p.headD [])
 (k.headD [],k.getLastD [],if p.length=2∧1<(p.getD 1 []).length then numP (p.getD 1 []).dropLast else -1)
def headP(t:Tok)(W:List Tok):Int×Tok×Tok×Int×List Tok :=
 if t=[46,46,46,111,110] then (2,[],word W,-1,W.drop 1)
 else if 3<t.length∧t.take 3=[46,46,46] then (3,[],t.drop 3,-1,W)
 else (1,(fieldP t).1,(fieldP t).2.1,(fieldP t).2.2,W)
def pLoop(sub:List Tok→Sels×List Tok):Nat→List Tok→Sels×List Tok
 | 0,W=>(.nil,W)
 | _+1,[]=>(.nil,[])
 | m+1,t::W =>
  if t=[125] then (.nil,t::W)
  else
   let h:=headP t W
   if h.1≠3∧word h.2.2.2.2=[123] then
    let u:=sub h.2.2.2.2
    let r:=pLoop sub m u.2
    (.cons h.1 (ub h.2.1) (ub h.2.2.1) h.2.2.2.1 u.1 r.1,r.2)
   else
    let r:=pLoop sub m h.2.2.2.2
    (.cons h.1 (ub h.2.1) (ub h.2.2.1) h.2.2.2.1 .nil r.1,r.2)
def pSels:Nat→List Tok→Sels×List Tok
 | 0,W=>(.nil,W.drop 1)
 | d+1,W=>if word W=[123] then ((pLoop (pSels d) 61 (W.drop 1)).1,(pLoop (pSels d) 61 (W.drop 1)).2.drop 1) else (.nil,W.drop 1)
theorem mem_bl{s:ByteArray}{x:UInt8}(h:x∈bl s):∃ k,∃ hk:k<s.size,s[k]=x:=by
 obtain ⟨k,hk,e⟩:=List.mem_iff_getElem.1 h
 exact⟨k,by simpa [bl] using hk,by rw[←e];rfl⟩
theorem ofB_mem{s:ByteArray}{lo hi:Int}(h:ofB s lo hi=true){x:UInt8}(hx:x∈bl s):lo≤(x.toNat:Int)∧(x.toNat:Int)≤hi:=by
 obtain ⟨k,hk,rfl⟩:=mem_bl hx
 by_cases ho:OfOk s lo hi
 ·have:=ho.each k hk
  rw[←bt_at hk] at this;exact this
 ·rw[ofB_no ho] at h;cases h
theorem ofB_pos{s:ByteArray}{lo hi:Int}(h:ofB s lo hi=true):1≤s.size:=by
 by_cases ho:OfOk s lo hi
 ·exact ho.some
 ·rw[ofB_no ho] at h;cases h
theorem wordB_of{s:ByteArray}(h:wordB s=true):ofB s 97 122=true∧bl s≠[111,110]∧bl s≠[102,114,97,103,109,101,110,116]:=by
 unfold wordB at h
 simp only[Bool.and_eq_true,Bool.not_eq_true',beq_eq_false_iff_ne] at h
 refine⟨h.1,?_,?_⟩
 ·have:=h.2.1;rw[Lib.toList_data] at this;exact this
 ·have:=h.2.2;rw[Lib.toList_data] at this;exact this
theorem bl_pos{s:ByteArray}(h:1≤s.size):bl s≠[]:=by
 intro e
 have h1:(bl s).length=s.size:=by unfold bl;rw[Array.length_toList];rfl
 rw[e] at h1;simp only[List.length_nil] at h1;omega
theorem not_mem_word{s:ByteArray}(h:wordB s=true){c:UInt8}(hc:c.toNat<97):c∉bl s:=fun hm=>by
 have:=(ofB_mem (wordB_of h).1 hm).1;omega
theorem not_mem_type{s:ByteArray}(h:typeB s=true){c:UInt8}(hc:c.toNat<65):c∉bl s:=fun hm=>by
 have:=(ofB_mem h hm).1;omega
theorem decL_small'{n:Nat}(h:n≤100):∀ x∈decL n,48≤x.toNat∧x.toNat≤57:=by
 intro x hx
 have one:∀ m:Nat,m<10→48≤(UInt8.ofNat (48+m)).toNat∧(UInt8.ofNat (48+m)).toNat≤57:=fun m hm=>by
  simp;omega
 by_cases h1:n<10
 ·rw[decL_small h1,List.mem_singleton] at hx;subst hx;exact one n h1
 ·rw[decL_big (by omega)] at hx
  by_cases h2:n / 10<10
  ·rw[decL_small h2] at hx
   simp only[List.mem_append,List.mem_singleton] at hx
   rcases hx with rfl|rfl
   ·exact one _ h2
   ·exact one _ (Nat.mod_lt _ (by omega))
  ·have hn:n=100:=by omega
   subst hn
   rw[decL_big (by omega),decL_small (by omega)] at hx
   simp at hx
   rcases hx with rfl|rfl|rfl <;> decide
theorem bl_dec{f:Int}(h:0≤f):bl (decB f)=decL f.toNat:=by
 unfold decB bl
 rw[if_neg (by omega)]
 have:f.natAbs=f.toNat:=by omega
 simp[this]
theorem num_dec{f:Int}(h0:0≤f)(h1:f≤100):numP (bl (decB f))=f:=by
 rw[bl_dec h0]
 obtain ⟨n,rfl⟩:=Int.eq_ofNat_of_zero_le h0
 rw[Int.toNat_natCast]
 have hn:n≤100:=by omega
 have val:∀ m:Nat,m<10→((UInt8.ofNat (48+m)).toNat:Int) - 48=m:=fun m hm=>by simp;omega
 have one:∀ m:Nat,m<10→(decide (48≤(UInt8.ofNat (48+m)).toNat) && decide ((UInt8.ofNat (48+m)).toNat≤57))=true:=fun m hm=>by simp;omega
 by_cases h1:n<10
 ·rw[decL_small h1]
  unfold numP
  rw[if_neg (by rintro(h|h|⟨h,_⟩) <;> simp only[List.length_cons,List.length_nil] at h <;> omega),if_pos (by simp only[List.all_cons,List.all_nil,one n h1];rfl)]
  simp only[List.foldl_cons,List.foldl_nil,val n h1];omega
 ·by_cases h2:n / 10<10
  ·rw[decL_big (by omega),decL_small h2]
   have hm:n % 10<10:=Nat.mod_lt _ (by omega)
   have hne:UInt8.ofNat (48+n / 10)≠48:=fun e=>by
    have:=congrArg UInt8.toNat e;simp at this;omega
   unfold numP
   rw[if_neg (by rintro(h|h|⟨_,h⟩);(simp only[List.singleton_append,List.length_cons,List.length_nil] at h;omega);(simp only[List.singleton_append,List.length_cons,List.length_nil] at h;omega);exact hne h),if_pos (by simp only[List.singleton_append,List.all_cons,List.all_nil,one _ h2,one _ hm];rfl)]
   simp only[List.singleton_append,List.foldl_cons,List.foldl_nil,val _ h2,val _ hm];omega
  ·have hn:n=100:=by omega
   subst hn
   rw[decL_big (by omega),decL_big (by omega),decL_small (by omega)]
   decide
theorem bl_cons{s:ByteArray}(h:1≤s.size):∃ c r,bl s=c::r:=by
 cases hb:bl s with
 | nil=>exact absurd hb (bl_pos h)
 | cons c r=>exact⟨c,r,rfl⟩
theorem word_cons{s:ByteArray}(h:wordB s=true):∃ c r,bl s=c::r∧97≤c.toNat:=by
 obtain ⟨c,r,e⟩:=bl_cons (ofB_pos (wordB_of h).1)
 exact⟨c,r,e,by have:=(ofB_mem (wordB_of h).1 (x:=c) (by rw[e];simp)).1;omega⟩
theorem field_bl(key nm:ByteArray)(f:Int):bl (fieldT key nm f)=((if key=nm then [] else bl key++[58])++bl nm)++(if f=-1 then [] else (40:UInt8)::(bl (decB f)++[41])):=by
 unfold fieldT
 by_cases h1:key=nm <;> by_cases h2:f=-1 <;> simp[h1,h2,bl_append,bl_sB]
theorem not_dec{f:Int}(h0:0≤f)(h1:f≤100){c:UInt8}(hc:c.toNat<48):c∉bl (decB f):=fun hm=>by
 rw[bl_dec h0] at hm
 have:=(decL_small' (by omega) c hm).1;omega
theorem dec_ne(f:Int)(h:0≤f):bl (decB f)≠[]:=by
 rw[bl_dec h]
 intro e
 by_cases h10:f.toNat<10
 ·rw[decL_small h10] at e;cases e
 ·rw[decL_big (by omega)] at e;simp at e
theorem field_head{key nm:ByteArray}{f:Int}(hk:wordB key=true)(hn:wordB nm=true):∃ c r,bl (fieldT key nm f)=c::r∧97≤c.toNat∧c.toNat≤122:=by
 rw[field_bl]
 have top:∀ {s:ByteArray} {c:UInt8} {r:List UInt8},wordB s=true→bl s=c::r→97≤c.toNat∧c.toNat≤122:=fun hw e=>by
  have:=ofB_mem (wordB_of hw).1 (x:=_) (by rw[e];exact List.mem_cons_self ..)
  omega
 by_cases h1:key=nm
 ·obtain ⟨c,r,e,_⟩:=word_cons hn
  rw[if_pos h1,e]
  exact⟨c,_,by simp only[List.nil_append,List.cons_append];rfl,top hn e⟩
 ·obtain ⟨c,r,e,_⟩:=word_cons hk
  rw[if_neg h1,e]
  exact⟨c,_,by simp only[List.nil_append,List.cons_append,List.append_assoc];rfl,top hk e⟩
theorem field_blank{key nm:ByteArray}{f:Int}(hk:wordB key=true)(hn:wordB nm=true)(h0:-1≤f)(h1:f≤100):(32:UInt8)∉bl (fieldT key nm f):=by
 rw[field_bl]
 have a:=not_mem_word hk (c:=32) (by decide)
 have b:=not_mem_word hn (c:=32) (by decide)
 by_cases e1:key=nm <;> by_cases e2:f=-1
 ·simp[e1,e2,b]
 ·have d:=not_dec (f:=f) (by omega) h1 (c:=32) (by decide)
  simp[e1,e2,b,d]
 ·simp[e1,e2,a,b]
 ·have d:=not_dec (f:=f) (by omega) h1 (c:=32) (by decide)
  simp[e1,e2,a,b,d]
theorem field_read{key nm:ByteArray}{f:Int}(hk:wordB key=true)(hn:wordB nm=true)(h0:-1≤f)(h1:f≤100):fieldP (bl (fieldT key nm f))=(bl key,bl nm,f):=by
 rw[field_bl]
 have ka:=not_mem_word hk (c:=40) (by decide)
 have kb:=not_mem_word hk (c:=58) (by decide)
 have na:=not_mem_word hn (c:=40) (by decide)
 have nb:=not_mem_word hn (c:=58) (by decide)
 have hA:(40:UInt8)∉((if key=nm then [] else bl key++[58])++bl nm):=by
  by_cases e1:key=nm
  ·simp[e1,na]
  ·simp[e1,ka,na]
 have hS:splitL 58 ((if key=nm then [] else bl key++[58])++bl nm)=(if key=nm then [bl nm] else [bl key,bl nm]):=by
  by_cases e1:key=nm
  ·rw[if_pos e1,if_pos e1,List.nil_append,splitL_last nb]
  ·rw[if_neg e1,if_neg e1,List.append_assoc,List.singleton_append,splitL_word kb,splitL_last nb]
 have hK:((if key=nm then [bl nm] else [bl key,bl nm]):List Tok).headD []=bl key∧((if key=nm then [bl nm] else [bl key,bl nm]):List Tok).getLastD []=bl nm:=by
  by_cases e1:key=nm
  ·rw[if_pos e1,e1];exact⟨rfl,rfl⟩
  ·rw[if_neg e1];exact⟨rfl,rfl⟩
 generalize ((if key=nm then [] else bl key++[58])++bl nm)=A at hA hS
 by_cases e2:f=-1
 ·rw[if_pos e2,List.append_nil]
  unfold fieldP
  rw[splitL_last hA]
  simp only[List.headD_cons,hS,hK.1,hK.2,e2]
  rfl
 ·have hf0:0≤f:=by omega
  have hd:(40:UInt8)∉bl (decB f)++[41]:=by
   have:=not_dec hf0 h1 (c:=40) (by decide)
   simp[this]
  rw[if_neg e2]
  unfold fieldP
  rw[splitL_word hA,splitL_last hd]
  simp only[List.headD_cons,hS,hK.1,hK.2]
  have hne:=dec_ne f hf0
  have hlen:1<(bl (decB f)++[41]).length:=by
   rw[List.length_append]
   have:=List.length_pos_iff.2 hne
   simp;omega
  simp only[List.getD_cons_succ,List.getD_cons_zero,List.length_cons,List.length_nil]
  rw[if_pos ⟨trivial,hlen⟩,List.dropLast_concat,num_dec hf0 h1]
theorem selsB_mono:∀{s:Sels}{a b:Int},a≤b→selsB s a=true→selsB s b=true
 | .nil,_,_,_,_=>rfl
 | .cons k key nm f u r,a,b,hab,h=>by
  unfold selsB at h ⊢
  simp only[Bool.and_eq_true,decide_eq_true_eq] at h ⊢
  exact⟨⟨⟨h.1.1.1,by omega⟩,selsB_mono (by omega) h.1.2⟩,selsB_mono hab h.2⟩
theorem oneB_full{k:Int}{key nm:ByteArray}{f:Int}{n:Nat}(h:oneB k key nm f n=true) :
  (k=1∧wordB key=true∧wordB nm=true∧-1≤f∧f≤100)∨(k=2∧key=ByteArray.empty∧typeB nm=true∧f=-1∧0<n)∨(k=3∧key=ByteArray.empty∧wordB nm=true∧f=-1∧n=0):=by
 unfold oneB at h
 simp only[Bool.or_eq_true,Bool.and_eq_true,beq_iff_eq,decide_eq_true_eq] at h
 have em:∀ {b:ByteArray},b.toList=[]→b=ByteArray.empty:=fun e=>bl_inj (by unfold bl;rw[←Lib.toList_data,e];rfl)
 rcases h with (⟨h1,h2,h3,h4,h5⟩|⟨h1,h2,h3,h4,h5⟩) | ⟨h1,h2,h3,h4,h5⟩
 ·exact .inl ⟨h1,h2,h3,h4,h5⟩
 ·exact .inr (.inl ⟨h1,em h2,h3,h4,h5⟩)
 ·exact .inr (.inr ⟨h1,em h2,h3,h4,h5⟩)
theorem len_zero{s:Sels}(h:s.len=0):s=.nil:=by cases s with
 | nil=>rfl
 | cons=>simp[Sels.len] at h
theorem ub_nil:ub []=ByteArray.empty:=rfl
theorem pLoop_stop(sub:List Tok→Sels×List Tok)(m:Nat)(W:List Tok):pLoop sub (m+1) ([125]::W)=(.nil,[125]::W):=by
 rw[pLoop,if_pos rfl]
theorem pLoop_more{sub:List Tok→Sels×List Tok}{m:Nat}{t:Tok}{W W2 W3 W4:List Tok}{k:Int}{key nm:Tok}{f:Int}{u r:Sels}(ht:t≠[125])(hh:headP t W=(k,key,nm,f,W2))(hk:k≠3)(hw:word W2=[123])(hu:sub W2=(u,W3))(hr:pLoop sub m W3=(r,W4)) :
  pLoop sub (m+1) (t::W)=(.cons k (ub key) (ub nm) f u r,W4):=by
 rw[pLoop,if_neg ht]
 simp only[hh]
 rw[if_pos ⟨hk,hw⟩]
 simp only[hu,hr]
theorem pLoop_flat{sub:List Tok→Sels×List Tok}{m:Nat}{t:Tok}{W W2 W4:List Tok}{k:Int}{key nm:Tok}{f:Int}{r:Sels}(ht:t≠[125])(hh:headP t W=(k,key,nm,f,W2))(hk:k=3∨word W2≠[123])(hr:pLoop sub m W2=(r,W4)) :
  pLoop sub (m+1) (t::W)=(.cons k (ub key) (ub nm) f .nil r,W4):=by
 rw[pLoop,if_neg ht]
 simp only[hh]
 rw[if_neg (by rintro⟨a,b⟩;rcases hk with h|h;exact a h;exact h b)]
 simp only[hr]
theorem toks_word{s:Sels}{deep:Int}(h:selsB s deep=true)(rest:List Tok):word (s.toks++[125]::rest)≠[123]:=by
 cases s with
 | nil=>intro e;cases e
 | cons k key nm f u r =>
  unfold selsB at h
  simp only[Bool.and_eq_true] at h
  rcases oneB_full h.1.1.1 with ⟨rfl,h1,h2,h3,h4⟩|⟨rfl,h1,h2,h3,h4⟩|⟨rfl,h1,h2,h3,h4⟩
  ·obtain ⟨c,q,e,_,hc⟩:=field_head (f:=f) h1 h2
   simp only[Sels.toks]
   rw[if_neg (by decide),if_neg (by decide),e]
   intro e2
   simp[word] at e2
   obtain ⟨rfl,_⟩:=e2
   exact absurd hc (by decide)
  ·simp only[Sels.toks]
   rw[if_neg (by decide),if_pos trivial]
   intro e2;simp[word] at e2
  ·simp only[Sels.toks]
   rw[if_pos trivial]
   intro e2;simp[word] at e2
theorem pLoop_toks:∀(s:Sels)(d:Nat),selsB s ((d:Int)+1)=true→s.all≤60→∀ (m:Nat) (rest:List Tok),s.len≤m→pLoop (pSels d) (m+1) (s.toks++[125]::rest)=(s,[125]::rest)
 | .nil,d,_,_,m,rest,_=>pLoop_stop _ _ _
 | .cons k key nm f u r,d,h,hall,m,rest,hm=>by
  unfold selsB at h
  simp only[Bool.and_eq_true,decide_eq_true_eq] at h
  obtain ⟨⟨⟨h1,_⟩,hu⟩,hr⟩:=h
  have e0:(d:Int)+1 - 1=d:=by omega
  rw[e0] at hu
  simp only[Sels.all] at hall
  simp only[Sels.len] at hm
  obtain ⟨m',rfl⟩:∃ m',m=m'+1:=⟨m - 1,by omega⟩
  have ihr:=pLoop_toks r d hr (by omega) m' rest (by omega)
  have hsub:u.len≠0→∀ R,pSels d ([123]::(u.toks++[125]::R))=(u,R):=fun hne R=>by
   cases hd:d with
   | zero =>
    rw[hd] at hu
    cases hx:u with
    | nil=>rw[hx] at hne;exact absurd rfl hne
    | cons a b c e g i =>
     rw[hx] at hu
     unfold selsB at hu
     simp only[Bool.and_eq_true,decide_eq_true_eq] at hu
     exact absurd hu.1.1.2 (by omega)
   | succ d' =>
    rw[hd] at hu
    have ihu:=pLoop_toks u d' (by have e:((d'+1:Nat):Int)=(d':Int)+1:=(by omega);rw[e] at hu;exact hu) (by omega) 60 R (by have:=Sels.len_le_all u;omega)
    unfold pSels
    rw[if_pos (show word ([123]::(u.toks++[125]::R))=[123] from rfl)]
    simp only[List.drop_one,List.tail_cons,ihu]
  rcases oneB_full h1 with ⟨rfl,hk,hn,hf0,hf1⟩|⟨rfl,rfl,hn,rfl,hpos⟩|⟨rfl,rfl,hn,rfl,hz⟩
  ·obtain ⟨c,q,e,hc,hc2⟩:=field_head (f:=f) hk hn
   have hrd:=field_read hk hn hf0 hf1
   have t1:bl (fieldT key nm f)≠[125]:=by
    rw[e];intro e2
    cases e2
    exact absurd hc2 (by decide)
   have hh:∀ W,headP (bl (fieldT key nm f)) W=(1,bl key,bl nm,f,W):=fun W=>by
    unfold headP
    rw[if_neg (by rw[e];intro e2;cases e2;exact absurd hc (by decide)),if_neg (by rw[e];rintro⟨_,e2⟩;simp at e2;obtain ⟨rfl,_⟩:=e2;exact absurd hc (by decide)),hrd]
   simp only[Sels.toks]
   rw[if_neg (by decide),if_neg (by decide)]
   by_cases hl:u.len=0
   ·rw[if_pos hl,len_zero hl]
    have:=pLoop_flat (sub:=pSels d) (m:=m'+1) t1 (hh (r.toks++[125]::rest)) (.inr (toks_word hr rest)) ihr
    simpa [ub_bl] using this
   ·rw[if_neg hl]
    have:=pLoop_more (sub:=pSels d) (m:=m'+1) t1 (hh ([123]::(u.toks++[125]::(r.toks++[125]::rest)))) (by decide) rfl (hsub hl _) ihr
    simpa [ub_bl] using this
  ·have hh:∀ W,headP [46,46,46,111,110] (bl nm::W)=(2,[],bl nm,-1,W):=fun W=>by
    unfold headP;rw[if_pos rfl];rfl
   simp only[Sels.toks]
   rw[if_neg (by decide),if_pos trivial,if_neg (by omega)]
   have:=pLoop_more (sub:=pSels d) (m:=m'+1) (t:=[46,46,46,111,110]) (by decide) (hh ([123]::(u.toks++[125]::(r.toks++[125]::rest)))) (by decide) rfl (hsub (by omega) _) ihr
   simpa [ub_bl,ub_nil] using this
  ·obtain ⟨c,q,e,hc⟩:=word_cons hn
   have hno:=(wordB_of hn).2.1
   have t1:[46,46,46]++bl nm≠[125]:=by rw[e];intro e2;cases e2
   have hh:∀ W,headP ([46,46,46]++bl nm) W=(3,[],bl nm,-1,W):=fun W=>by
    unfold headP
    rw[if_neg (by intro e2;have e3:[46,46,46]++bl nm=[46,46,46]++[111,110]:=e2;exact hno (List.append_cancel_left e3)),if_pos (by rw[e];exact⟨by simp,by simp⟩)]
    simp
   simp only[Sels.toks]
   rw[if_pos trivial,len_zero hz]
   have:=pLoop_flat (sub:=pSels d) (m:=m'+1) t1 (hh (r.toks++[125]::rest)) (.inl rfl) ihr
   simpa [ub_bl,ub_nil] using this
def pFrags:Nat→List Tok→List FragP×List Tok
 | 0,W=>([],W)
 | m+1,W =>
  if word W=[102,114,97,103,109,101,110,116] then
   let W1:=W.drop 1
   let W3:=(W1.drop 1).drop 1
   let s:=pSels 7 (W3.drop 1)
   let r:=pFrags m s.2
   (⟨ub (word W1),ub (word W3),s.1⟩::r.1,r.2)
  else ([],W)
def pDoc(W:List Tok):DocP:=⟨(pSels 7 W).1,(pFrags 6 (pSels 7 W).2).1⟩
theorem pSels_toks{s:Sels}(h:selsB s 6=true)(hall:s.all≤60)(R:List Tok):pSels 7 ([123]::(s.toks++[125]::R))=(s,R):=by
 have ih:=pLoop_toks s 6 (selsB_mono (by omega) h) hall 60 R (by have:=Sels.len_le_all s;omega)
 unfold pSels
 rw[if_pos (show word ([123]::(s.toks++[125]::R))=[123] from rfl)]
 simp only[List.drop_one,List.tail_cons,ih]
theorem pFrags_toks:∀(l:List FragP)(m:Nat),l.length≤m→(∀ x∈l,selsB x.sels 6=true∧x.sels.all≤60)→(pFrags m (fragsToks l)).1=l
 | [],0,_,_=>rfl
 | [],m+1,_,_=>by
  unfold pFrags
  rw[if_neg (by intro e;cases e)]
 | x::l,0,h,_=>by simp at h
 | x::l,m+1,h,hx=>by
  have h1:=hx x (by simp)
  have ih:=pFrags_toks l m (by simpa using h) (fun y hy=>hx y (by simp[hy]))
  have e:fragsToks (x::l)=[102,114,97,103,109,101,110,116]::bl x.name::[111,110]::bl x.on::[123]::(x.sels.toks++[125]::fragsToks l):=by
   simp[fragsToks,fragToks]
  rw[e]
  unfold pFrags
  rw[if_pos (show word ([102,114,97,103,109,101,110,116]::bl x.name::[111,110]::bl x.on::[123]::(x.sels.toks++[125]::fragsToks l))=[102,114,97,103,109,101,110,116] from rfl)]
  simp only[List.drop_one,List.tail_cons,pSels_toks h1.1 h1.2,ih]
  simp[word,ub_bl]
theorem pDoc_toks{d:DocP}(h:docB d=true):pDoc (docToks d)=d:=by
 obtain ⟨_,hfl,hall,hsel,hfr⟩:=docB_parts h
 have e:docToks d=[123]::(d.sels.toks++[125]::fragsToks d.frags):=by simp[docToks]
 have hs:=pSels_toks hsel (by unfold DocP.all at hall;omega) (fragsToks d.frags)
 have hf:=pFrags_toks d.frags 6 (by omega) (fun x hx=>by
  obtain ⟨i,hi⟩:=List.mem_iff_getElem?.1 hx
  have hfb:=fragB_parts (fragsB_at hfr hi)
  have:=fragAll_mem hi
  exact⟨hfb.2.2.2.2,by unfold DocP.all at hall;omega⟩)
 unfold pDoc
 rw[e,hs]
 simp only[hf]
theorem toks_blank:∀{s:Sels}{deep:Int},selsB s deep=true→∀ t∈s.toks,(32:UInt8)∉t
 | .nil,_,_,t,ht=>by cases ht
 | .cons k key nm f u r,deep,h,t,ht=>by
  unfold selsB at h
  simp only[Bool.and_eq_true] at h
  obtain ⟨⟨⟨h1,_⟩,hu⟩,hr⟩:=h
  have ihu:∀ t∈u.toks,(32:UInt8)∉t:=toks_blank hu
  have ihr:∀ t∈r.toks,(32:UInt8)∉t:=toks_blank hr
  have hin:∀ t∈(if u.len=0 then ([]:List Tok) else [123]::(u.toks++[[125]])),(32:UInt8)∉t:=fun t ht=>by
   by_cases hl:u.len=0
   ·rw[if_pos hl] at ht;cases ht
   ·rw[if_neg hl] at ht
    simp only[List.mem_cons,List.mem_append,List.not_mem_nil,or_false] at ht
    rcases ht with rfl|ht|rfl
    ·decide
    ·exact ihu t ht
    ·decide
  simp only[Sels.toks,List.mem_append] at ht
  rcases ht with ht|ht
  ·rcases oneB_full h1 with ⟨rfl,hk,hn,hf0,hf1⟩|⟨rfl,rfl,hn,rfl,hpos⟩|⟨rfl,rfl,hn,rfl,hz⟩
   ·rw[if_neg (by decide),if_neg (by decide),List.mem_append,List.mem_singleton] at ht
    rcases ht with rfl|ht
    ·exact field_blank hk hn hf0 hf1
    ·exact hin t ht
   ·rw[if_neg (by decide),if_pos rfl,List.mem_append] at ht
    rcases ht with ht|ht
    ·simp only[List.mem_cons,List.not_mem_nil,or_false] at ht
     rcases ht with rfl|rfl
     ·decide
     ·exact not_mem_type hn (by decide)
    ·exact hin t ht
   ·rw[if_pos rfl,List.mem_singleton] at ht
    subst ht
    have:=not_mem_word hn (c:=32) (by decide)
    simp[this]
  ·exact ihr t ht
theorem docToks_blank{d:DocP}(h:docB d=true):∀ t∈docToks d,(32:UInt8)∉t:=by
 obtain ⟨_,hfl,hall,hsel,hfr⟩:=docB_parts h
 intro t ht
 unfold docToks at ht
 simp only[List.cons_append,List.mem_cons,List.mem_append,List.not_mem_nil,or_false] at ht
 rcases ht with rfl | (ht|rfl) | ht
 ·decide
 ·exact toks_blank hsel t ht
 ·decide
 ·have key:∀ l:List FragP,(∀ x∈l,wordB x.name=true∧typeB x.on=true∧selsB x.sels 6=true)→∀ t∈fragsToks l,(32:UInt8)∉t:=by
   intro l
   induction l with
   | nil=>intro _ t ht;cases ht
   | cons x l ih =>
    intro hl t ht
    obtain ⟨h1,h2,h3⟩:=hl x (by simp)
    simp only[fragsToks,fragToks,List.mem_append,List.mem_cons,List.not_mem_nil,or_false] at ht
    rcases ht with ((rfl|rfl|rfl|rfl) | rfl|ht|rfl) | ht
    ·decide
    ·exact not_mem_word h1 (by decide)
    ·decide
    ·exact not_mem_type h2 (by decide)
    ·decide
    ·exact toks_blank h3 t ht
    ·decide
    ·exact ih (fun y hy=>hl y (by simp[hy])) t ht
  exact key d.frags (fun x hx=>by
   obtain ⟨i,hi⟩:=List.mem_iff_getElem?.1 hx
   have hfb:=fragB_parts (fragsB_at hfr hi)
   exact⟨hfb.1,hfb.2.2.1,hfb.2.2.2.2⟩) t ht
def docOf(t:ByteArray):DocP:=pDoc (splitL 32 (bl t))
theorem docOf_text{d:DocP}(h:docB d=true):docOf (docT d)=d:=by
 unfold docOf
 rw[splitL_flat (docToks_blank h) (by simp[docToks]) _ (docT_flat h),pDoc_toks h]
theorem docT_inj{d e:DocP}(hd:docB d=true)(he:docB e=true)(h:docT d=docT e):d=e:=by
 rw[←docOf_text hd,←docOf_text he,h]
end Go.Proofs.YtmembhpoidcmlaaGreatDoor.Selss
namespace Go.Proofs.YtmembhpoidcmlaaGreatDoor.Selss
open Lib (hid)
open Go.RowKit Words Decs Splits
set_option linter.unusedVariables false
def valP(t:Tok):Int:=t.foldl (fun n c=>10 * n+((c.toNat:Int) - 48)) 0
theorem valP_snoc(t:Tok)(c:UInt8):valP (t++[c])=10 * valP t+((c.toNat:Int) - 48):=by unfold valP;rw[List.foldl_append];rfl
def digP(c:UInt8):Bool:=decide (48≤c.toNat) && decide (c.toNat≤57)
theorem valP_range:∀(k:Nat)(t:Tok),t.length=k→t.all digP=true→0≤valP t∧valP t<10 ^ k
 | 0,t,h,_=>by
  obtain rfl:=List.eq_nil_of_length_eq_zero h
  exact⟨Int.le_refl _,by decide⟩
 | k+1,t,h,ha=>by
  rcases List.eq_nil_or_concat t with rfl|⟨q,c,rfl⟩
  ·simp at h
  ·rw[List.concat_eq_append] at h ha ⊢
   rw[List.length_append] at h
   rw[List.all_append] at ha
   simp only[Bool.and_eq_true,List.all_cons,List.all_nil,digP,decide_eq_true_eq] at ha
   have ih:=valP_range k q (by simpa using h) ha.1
   rw[valP_snoc,Int.pow_succ]
   omega
theorem numP_of{t:Tok}(h1:¬ (t.length<1∨9<t.length∨(1<t.length∧t.headD 0=48)))(h2:t.all digP=true):numP t=valP t:=by
 unfold numP
 rw[if_neg h1]
 have:(t.all fun c=>decide (48≤c.toNat) && decide (c.toNat≤57))=true:=h2
 rw[if_pos this];rfl
theorem numP_no{t:Tok}(h:t.length<1∨9<t.length∨(1<t.length∧t.headD 0=48)):numP t=-1:=by unfold numP;rw[if_pos h]
theorem numP_bad{t:Tok}{c:UInt8}(hc:c∈t)(hd:digP c=false):numP t=-1:=by
 unfold numP
 split
 ·rfl
 ·rw[if_neg]
  intro h
  have:=List.all_eq_true.1 h c hc
  unfold digP at hd
  rw[hd] at this;cases this
theorem bl_len(s:ByteArray):(bl s).length=s.size:=by unfold bl;rw[Array.length_toList];rfl
theorem bl_take_succ{s:ByteArray}{k:Nat}(h:k<s.size):(bl s).take (k+1)=(bl s).take k++[s[k]]:=by
 have hl:k<(bl s).length:=by rw[bl_len];exact h
 rw[List.take_succ_eq_append_getElem hl];rfl
theorem bl_head{s:ByteArray}(h:0<s.size):(bl s).headD 0=s[0]:=by
 have hl:0<(bl s).length:=by rw[bl_len];exact h
 show (bl s).headD 0=(bl s)[0]
 generalize bl s=q at hl
 cases q with
 | nil=>simp at hl
 | cons c r=>rfl
theorem pow9:∀ k:Nat,k≤9→(10:Int) ^ k≤1000000000:=by
 intro k hk
 have:∀ k:Fin 10,(10:Int) ^ (k:Nat)≤1000000000:=by decide
 exact this ⟨k,by omega⟩
set_option maxHeartbeats 1000000 in
theorem specNum(s:ByteArray)(hs:s.size≤140737488351232)(w:World) :
  Calls Tryz.prog 48 #[.string s] w fun e w'=>e=.returned (.int .i64 (numP (bl s)))∧w=w':=by
 have ret_i:∀ {a b:Int},a=b→Ending.returned (.int .i64 a)=.returned (.int .i64 b):=fun h=>by rw[h]
 by_cases h1:s.size<1
 ·have hf:=hid (numP_no (t:=bl s) (.inl (by rw[bl_len];exact h1)))
  have h1i:(s.size:Int)<1:=by omega
  go_enter Tryz.func48,Tryz.ntmps48
  go_wp2_with fail
  go_ret
  exact⟨ret_i hf.out.symm,rfl⟩
 have h1i:(1:Int)≤(s.size:Int):=by omega
 by_cases h2:9<s.size
 ·have hf:=hid (numP_no (t:=bl s) (.inr (.inl (by rw[bl_len];exact h2))))
  have h2i:(9:Int)<(s.size:Int):=by omega
  clear h1
  go_enter Tryz.func48,Tryz.ntmps48
  go_wp2_with fail
  go_ret
  exact⟨ret_i hf.out.symm,rfl⟩
 have h2i:(s.size:Int)≤9:=by omega
 have hpos:0<s.size:=by omega
 have hb0:(0:Int)≤(s[0].toNat:Int)∧(s[0].toNat:Int)≤255:=by have:=s[0].toNat_lt;omega
 by_cases h3:1<s.size∧s[0]=48
 ·have hf:=hid (numP_no (t:=bl s) (.inr (.inr ⟨by rw[bl_len];exact h3.1,by rw[bl_head hpos];exact h3.2⟩)))
  have h3i:(1:Int)<(s.size:Int):=by omega
  have h3j:(s[0].toNat:Int)=48:=by rw[h3.2];rfl
  clear h1 h2 h3
  go_enter Tryz.func48,Tryz.ntmps48
  go_wp2_with fail
  go_ret
  exact⟨ret_i hf.out.symm,rfl⟩
 have hno:Hid (¬ ((bl s).length<1∨9<(bl s).length∨(1<(bl s).length∧(bl s).headD 0=48))):=hid (by
  rw[bl_len,bl_head hpos];rintro(h|h|h)
  ·exact h1 h
  ·exact h2 h
  ·exact h3 h)
 have hcase:(s.size:Int)≤1∨((1:Int)<(s.size:Int)∧(s[0].toNat:Int)≠48):=by
  by_cases h:1<s.size
  ·right
   refine⟨by omega,fun e=>h3 ⟨h,UInt8.toNat_inj.1 (by show s[0].toNat=48;omega)⟩⟩
  ·left;omega
 clear h1 h2 h3
 rcases hcase with hc|⟨hc,hc2⟩
 ·go_enter Tryz.func48,Tryz.ntmps48
  go_wp2_with fail
  go_loopw [3,4] (fun n i wr=>∃ k:Nat,k≤s.size∧n=.int .i64 (valP ((bl s).take k))∧i=.int .i64 k∧Hid (((bl s).take k).all digP=true)∧w=wr) (fun _ i _=>s.size - (intOf i).toNat)
  case atStart=>exact⟨0,by omega,rfl,rfl,hid rfl,rfl⟩
  case round =>
   obtain ⟨k,hk,rfl,rfl,hall,rfl⟩:=hrel
   by_cases hlt:k<s.size
   ·have hli:(k:Int)<(s.size:Int):=by omega
    have hb:=s[k].toNat_lt
    by_cases hd:digP s[k]=true
    ·have hd2:48≤s[k].toNat∧s[k].toNat≤57:=by simpa [digP] using hd
     have hd3:(48:Int)≤(s[k].toNat:Int)∧(s[k].toNat:Int)≤57:=by omega
     have hr:=valP_range k ((bl s).take k) (by rw[List.length_take,bl_len];omega) hall.out
     have hp:=pow9 k (by omega)
     have hnext:Hid (10 * valP ((bl s).take k)+((s[k].toNat:Int) - 48)=valP ((bl s).take (k+1))):=hid (by rw[bl_take_succ hlt,valP_snoc])
     have hall2:Hid (((bl s).take (k+1)).all digP=true):=hid (by rw[bl_take_succ hlt,List.all_append,hall.out];simp[hd])
     have hv0:=hr.1
     have hv1:valP ((bl s).take k)≤1000000000:=by omega
     clear hr hp hall hd hd2
     generalize valP ((bl s).take k)=q at *
     go_wp2_with fail
     go_roundw
     case rel=>exact⟨k+1,by omega,by rw[←hnext.out],by go_num,hall2,by trivial⟩
     case measure=>simp[intOf];omega
    ·have hf:=hid (numP_bad (t:=bl s) (c:=s[k]) (by
      have hl:k<(bl s).length:=by rw[bl_len];exact hlt
      exact List.getElem_mem hl) (by simpa using hd))
     have hd2:s[k].toNat<48∨57<s[k].toNat:=by
      simp only[digP,Bool.and_eq_true,decide_eq_true_eq] at hd;omega
     rcases hd2 with hd3|hd3
     ·have hd4:(s[k].toNat:Int)<48:=by omega
      clear hall
      go_wp2_with fail
      go_ret
      exact⟨ret_i hf.out.symm,rfl⟩
     ·have hd4:(57:Int)<(s[k].toNat:Int):=by omega
      have hd5:(48:Int)≤(s[k].toNat:Int):=by omega
      clear hall
      go_wp2_with fail
      go_ret
      exact⟨ret_i hf.out.symm,rfl⟩
   ·obtain rfl:k=s.size:=by omega
    have hf:Hid (valP ((bl s).take s.size)=numP (bl s)):=hid (by
     have e:(bl s).take s.size=bl s:=by rw[←bl_len,List.take_length]
     rw[e,numP_of hno.out (by have:=hall.out;rw[e] at this;exact this)])
    clear hlt hall
    go_wp2_with fail
    go_ret
    exact⟨ret_i hf.out,rfl⟩
 ·have hc3:((s[0].toNat:Int) == 48)=false:=by rw[beq_eq_false_iff_ne];exact hc2
  go_enter Tryz.func48,Tryz.ntmps48
  go_wp2_with fail
  go_loopw [3,4] (fun n i wr=>∃ k:Nat,k≤s.size∧n=.int .i64 (valP ((bl s).take k))∧i=.int .i64 k∧Hid (((bl s).take k).all digP=true)∧w=wr) (fun _ i _=>s.size - (intOf i).toNat)
  case atStart=>exact⟨0,by omega,rfl,rfl,hid rfl,rfl⟩
  case round =>
   obtain ⟨k,hk,rfl,rfl,hall,rfl⟩:=hrel
   by_cases hlt:k<s.size
   ·have hli:(k:Int)<(s.size:Int):=by omega
    have hb:=s[k].toNat_lt
    by_cases hd:digP s[k]=true
    ·have hd2:48≤s[k].toNat∧s[k].toNat≤57:=by simpa [digP] using hd
     have hd3:(48:Int)≤(s[k].toNat:Int)∧(s[k].toNat:Int)≤57:=by omega
     have hr:=valP_range k ((bl s).take k) (by rw[List.length_take,bl_len];omega) hall.out
     have hp:=pow9 k (by omega)
     have hnext:Hid (10 * valP ((bl s).take k)+((s[k].toNat:Int) - 48)=valP ((bl s).take (k+1))):=hid (by rw[bl_take_succ hlt,valP_snoc])
     have hall2:Hid (((bl s).take (k+1)).all digP=true):=hid (by rw[bl_take_succ hlt,List.all_append,hall.out];simp[hd])
     have hv0:=hr.1
     have hv1:valP ((bl s).take k)≤1000000000:=by omega
     clear hr hp hall hd hd2
     generalize valP ((bl s).take k)=q at *
     go_wp2_with fail
     go_roundw
     case rel=>exact⟨k+1,by omega,by rw[←hnext.out],by go_num,hall2,by trivial⟩
     case measure=>simp[intOf];omega
    ·have hf:=hid (numP_bad (t:=bl s) (c:=s[k]) (by
      have hl:k<(bl s).length:=by rw[bl_len];exact hlt
      exact List.getElem_mem hl) (by simpa using hd))
     have hd2:s[k].toNat<48∨57<s[k].toNat:=by
      simp only[digP,Bool.and_eq_true,decide_eq_true_eq] at hd;omega
     rcases hd2 with hd3|hd3
     ·have hd4:(s[k].toNat:Int)<48:=by omega
      clear hall
      go_wp2_with fail
      go_ret
      exact⟨ret_i hf.out.symm,rfl⟩
     ·have hd4:(57:Int)<(s[k].toNat:Int):=by omega
      have hd5:(48:Int)≤(s[k].toNat:Int):=by omega
      clear hall
      go_wp2_with fail
      go_ret
      exact⟨ret_i hf.out.symm,rfl⟩
   ·obtain rfl:k=s.size:=by omega
    have hf:Hid (valP ((bl s).take s.size)=numP (bl s)):=hid (by
     have e:(bl s).take s.size=bl s:=by rw[←bl_len,List.take_length]
     rw[e,numP_of hno.out (by have:=hall.out;rw[e] at this;exact this)])
    clear hlt hall
    go_wp2_with fail
    go_ret
    exact⟨ret_i hf.out,rfl⟩
theorem splitL_sizes(c:UInt8):∀ (l:List UInt8) (x:Tok),x∈splitL c l→x.length≤l.length
 | [],x,h=>by simp[splitL] at h;subst h;simp
 | y::r,x,h=>by
  unfold splitL at h
  by_cases e:y=c
  ·rw[if_pos e] at h
   rcases List.mem_cons.1 h with rfl|h
   ·simp
   ·have:=splitL_sizes c r x h;simp;omega
  ·rw[if_neg e] at h
   cases hs:splitL c r with
   | nil=>exact absurd hs (splitL_ne c r)
   | cons a b =>
    rw[hs] at h
    simp only[glue] at h
    have key:∀ z∈splitL c r,z.length≤r.length:=fun z hz=>splitL_sizes c r z hz
    rw[hs] at key
    rcases List.mem_cons.1 h with rfl|h
    ·have:=key a (by simp);simp;omega
    ·have:=key x (by simp[h]);simp;omega
theorem splitL_len(c:UInt8):∀ l:List UInt8,(splitL c l).length≤l.length+1
 | []=>by simp[splitL]
 | y::r=>by
  have ih:=splitL_len c r
  unfold splitL
  split
  ·simp;omega
  ·cases hs:splitL c r with
   | nil=>simp[glue]
   | cons a b=>rw[hs] at ih;simp[glue] at ih ⊢;omega
theorem strs_get{w:World}{A B len:Nat}{a:Option Addr}{l:List Tok}(h:StrsAt w A B a len l){i:Nat}{x:Tok}(hx:l[i]?=some x):∃ b off,a=some ⟨b,off,none⟩∧b<B∧w.cell? ⟨b,off+i,none⟩=some (.string ⟨x.toArray⟩):=by
 rcases h.2 with rfl|⟨b,off,ha,hA,hb,hl⟩
 ·simp at hx
 ·exact⟨b,off,ha,hb,hl i x hx⟩
theorem kept2{w w1:World}{o1 o2:Obj}(hb:Below ((w.alloc o1).alloc o2).heap.size ((w.alloc o1).alloc o2) w1):w1.heap[w.heap.size]?=some o1∧w1.heap[w.heap.size+1]?=some o2:=by
 have e1:(w.alloc o1).heap.size=w.heap.size+1:=by simp
 constructor
 ·rw[hb.block _ (by simp;omega),Go.Deep.blk_alloc_lt _ _ _ (by rw[e1];omega)];exact Go.Deep.blk_alloc_new _ _
 ·rw[hb.block _ (by simp),←e1];exact Go.Deep.blk_alloc_new _ _
theorem list_two{P:List Tok}(h:P.length=2):∃ a b,P=[a,b]:=by
 match P,h with
 | [a,b],_=>exact⟨a,b,rfl⟩
theorem cons_of_ne{P:List Tok}(h:P≠[]):∃ a r,P=a::r:=by
 cases P with
 | nil=>exact absurd rfl h
 | cons a r=>exact⟨a,r,rfl⟩
theorem ub_size(t:Tok):(ub t).size=t.length:=by simp[ub,ByteArray.size]
theorem ub_cut(t:Tok):(ub t).extract 0 (t.length - 1)=ub t.dropLast:=by
 apply bl_inj
 unfold bl
 rw[Lib.extract_data]
 simp[ub,List.dropLast_eq_take]
theorem last_at{K:List Tok}(h:K≠[]):K[K.length - 1]?=some (K.getLastD []):=by
 cases hk:K with
 | nil=>exact absurd hk h
 | cons a r=>simp[List.getLastD_eq_getLast?,List.getLast?_eq_getElem?]
set_option maxHeartbeats 1000000 in
theorem specField(t:ByteArray)(ht:t.size≤8000)(w:World) :
  Calls Tryz.prog 72 #[.string t] w fun e w'=>e=.returned (.agg #[.int .i64 1,.string (ub (fieldP (bl t)).1),.string (ub (fieldP (bl t)).2.1),.int .i64 (fieldP (bl t)).2.2,.slice none 0 0])∧Below w.heap.size w w':=by
 have hP:=splitL_ne 40 (bl t)
 have hPs:=splitL_sizes 40 (bl t)
 have hPl:=splitL_len 40 (bl t)
 have hfd:Hid (fieldP (bl t)=((splitL 58 ((splitL 40 (bl t)).headD [])).headD [],(splitL 58 ((splitL 40 (bl t)).headD [])).getLastD [],if (splitL 40 (bl t)).length=2∧1<((splitL 40 (bl t)).getD 1 []).length then numP ((splitL 40 (bl t)).getD 1 []).dropLast else -1)):=hid rfl
 have C1:Hid (∀ w,Calls Tryz.prog 41 #[.string t,.int .u8 40] w fun e w'=>(∃ a cap,e=.returned (.slice a (splitL 40 (bl t)).length cap)∧StrsAt w' w.heap.size w'.heap.size a (splitL 40 (bl t)).length (splitL 40 (bl t)))∧Below w.heap.size w w'):=hid fun w=>specSplit t (by omega) 40 w
 rw[bl_len] at hPs hPl
 generalize splitL 40 (bl t)=P at *
 obtain ⟨P0,PR,rfl⟩:=cons_of_ne hP
 have h0s:P0.length≤8000:=by have:=hPs P0 (by simp);omega
 have hK:=splitL_ne 58 P0
 have hKl:=splitL_len 58 P0
 have C2:Hid (∀ w,Calls Tryz.prog 41 #[.string (ub P0),.int .u8 58] w fun e w'=>(∃ a cap,e=.returned (.slice a (splitL 58 P0).length cap)∧StrsAt w' w.heap.size w'.heap.size a (splitL 58 P0).length (splitL 58 P0))∧Below w.heap.size w w'):=hid fun w=>by
  have:=specSplit (ub P0) (by rw[ub_size];omega) 58 w
  have e:(ub P0).data.toList=P0:=by simp[ub]
  rw[e] at this;exact this
 simp only[List.headD_cons] at hfd
 generalize splitL 58 P0=K at *
 obtain ⟨K0,KR,rfl⟩:=cons_of_ne hK
 have hlast:=last_at hK
 simp only[List.headD_cons] at hfd
 generalize (K0::KR).getLastD []=KL at hfd hlast
 have HA:∀ o1 o2,Below w.heap.size w ((w.alloc o1).alloc o2):=fun o1 o2=>((Below.refl _ _).alloc (Nat.le_refl _) o1).alloc (by simp) o2
 go_enter Tryz.func72,Tryz.ntmps72
 go_wp2_with fail
 refine(C1.out _).mono ?_
 rintro e w1 ⟨⟨a1,cap1,rfl,hs1⟩,hb1⟩
 have ⟨hk0,hk1⟩:=kept2 hb1
 have HB1:=hid ((HA _ _).trans (hb1.mono (HA _ _).size))
 have hz1:w.heap.size+1+1≤w1.heap.size:=by have:=hb1.size;simp at this;omega
 obtain ⟨b1,o1,rfl,hbl1,hc0⟩:=strs_get hs1 (i:=0) (x:=P0) rfl
 rw[Nat.add_zero] at hc0
 have hlo1:w.heap.size+1+1≤b1:=by
  rcases hs1.2 with h|⟨b,o,h1,h2,_⟩
  ·cases h
  ·cases h1;simp at h2;omega
 have HS1:=hid hs1
 have hPl2:(P0::PR).length≤8001:=by omega
 clear hb1 hs1 C1 hP hPl
 by_cases hc:(P0::PR).length=2∧1<((P0::PR).getD 1 []).length
 ·obtain ⟨q0,P1,hq⟩:=list_two hc.1
  cases hq
  simp only[List.getD_cons_succ,List.getD_cons_zero] at hc hfd
  have hfv:Hid (fieldP (bl t)=(K0,KL,numP P1.dropLast)):=hid (by rw[hfd.out,if_pos hc])
  obtain ⟨b1',o1',e1',_,hc1⟩:=strs_get HS1.out (i:=1) (x:=P1) rfl
  cases e1'
  have h1s:P1.length≤8000:=by have:=hPs P1 (by simp);omega
  have hcut:=ub_cut P1
  have hls:=ub_size P1
  have hli:(1:Int)<(P1.length:Int):=by have:=hc.2;omega
  have CN:Hid (∀ w,Calls Tryz.prog 48 #[.string (ub P1.dropLast)] w fun e w'=>e=.returned (.int .i64 (numP P1.dropLast))∧w=w'):=hid fun w=>by
   have:=specNum (ub P1.dropLast) (by rw[ub_size,List.length_dropLast];omega) w
   rw[bl_ub] at this;exact this
  have ⟨⟨e0,e1,e2,e3,e4⟩,p0,p1,p2,p3,p4⟩:=keep5 hk1
  have hc1':w1.cell? ⟨b1,o1+1,none⟩=some (.string (ub P1)):=hc1
  have hc0':w1.cell? ⟨b1,o1,none⟩=some (.string (ub P0)):=hc0
  generalize numP P1.dropLast=fv at CN hfv
  generalize ub P1.dropLast=us at CN hcut
  generalize ub P1=u1 at hc1' hls hcut
  have hm0:(0:Int)≤(u1.size:Int) - 1:=by omega
  have hm1:(u1.size:Int) - 1≤(u1.size:Int):=by omega
  have hm2:u1.size - 1=P1.length - 1:=by omega
  have hm3:(1:Int)<(u1.size:Int):=by omega
  have hm4:(u1.size:Int)≤8000:=by omega
  have hm5:(1:Int)≤(u1.size:Int):=by omega
  have hm6:1≤u1.size:=by omega
  have hm7:(0:Int)<(u1.size:Int):=by omega
  have hm8:0<u1.size:=by omega
  have hne1:b1≠w.heap.size+1:=by omega
  have hne2:w.heap.size+1≠b1:=by omega
  have hne3:¬ (b1=w.heap.size+1):=by omega
  have hw1:IntKind.i64.wrap ((u1.size:Int) - 1)=(u1.size:Int) - 1:=IntWalk.i64_in _ (by omega)
  have hm9:(0:Int)≤(u1.size:Int) - 1∧(u1.size:Int) - 1≤(u1.size:Int):=by omega
  rw[←hm2] at hcut
  clear hm2 hls h1s hli
  clear hc hfd hc1 hc0 hPs
  have hk0A:((w1.setCell ⟨w.heap.size+1,3,none⟩ (.int .i64 fv)).drew).heap[w.heap.size]?=_:=(Go.Deep.blk_setCell_other w1 ⟨w.heap.size+1,3,none⟩ (.int .i64 fv) w.heap.size (by simp)).trans hk0
  have hk1A:((w1.setCell ⟨w.heap.size+1,3,none⟩ (.int .i64 fv)).drew).heap[w.heap.size+1]?=some (.cells #[.int .i64 1,.string ⟨#[]⟩,.string ⟨#[]⟩,.int .i64 fv,.slice none 0 0] 97 (0,0)):=(heap_setCell_same w1 (w.heap.size+1) 3 _ _ (.int .i64 fv) hk1).trans (by simp)
  have hc0A:((w1.setCell ⟨w.heap.size+1,3,none⟩ (.int .i64 fv)).drew).cell? ⟨b1,o1,none⟩=some (.string (ub P0)):=by
   show (w1.setCell ⟨w.heap.size+1,3,none⟩ (.int .i64 fv)).cell? _=_
   rw[World.cell?_setCell_other _ _ _ _ (by simp)];exact hc0'
  have HBA:=hid (HB1.out.setCell (p:=⟨w.heap.size+1,3,none⟩) (by simp) (.int .i64 fv)).drew
  have hzA:w.heap.size+1+1≤((w1.setCell ⟨w.heap.size+1,3,none⟩ (.int .i64 fv)).drew).heap.size:=by show _≤(w1.setCell _ _).heap.size;simp;exact hz1
  go_wp2_with fail
  go_region_held3 (fun w'=>w'.cell? ⟨b1,o1+1,none⟩=some (.string u1)) (go_keep)
   (first | (go_at_call 48;refine(CN.out _).mono ?_;rintro e w2 ⟨rfl,rfl⟩))
  all_goals
   generalize (w1.setCell ⟨w.heap.size+1,3,none⟩ (.int .i64 fv)).drew=W at *
   clear e0 e1 e2 e3 e4 p0 p1 p2 p3 p4 hc1' hc0' hk0 hk1 HS1
   go_wp2_with fail
   have HH0:=hid hk0A
   have HH1:=hid hk1A
   have ⟨⟨e0,e1,e2,e3,e4⟩,p0,p1,p2,p3,p4⟩:=keep5 hk1A
   refine(C2.out _).mono ?_
   rintro e w3 ⟨⟨a3,cap3,rfl,hs3⟩,hb3⟩
   have hx0:=(hb3.block w.heap.size (by omega)).trans HH0.out
   have hx1:=(hb3.block (w.heap.size+1) (by omega)).trans HH1.out
   have ⟨⟨r0,r1,r2,r3,r4⟩,s0,s1,s2,s3,s4⟩:=keep5 hx0
   have ⟨⟨x0,x1,x2,x3,x4⟩,y0,y1,y2,y3,y4⟩:=keep5 hx1
   have HB3:=HBA.out.trans (hb3.mono HBA.out.size)
   obtain ⟨b3,o3,rfl,hbl3,hd0⟩:=strs_get hs3 (i:=0) (x:=K0) rfl
   rw[Nat.add_zero] at hd0
   obtain ⟨b3',o3',e3',hbl3',hdl⟩:=strs_get hs3 hlast
   cases e3'
   have hlo3:b3≠w.heap.size+1:=by
    rcases hs3.2 with h|⟨b,o,h1,h2,_⟩
    ·cases h
    ·cases h1;omega
   have hkl:1≤(K0::KR).length:=by simp
   have hki:(0:Int)<((K0::KR).length:Int):=by omega
   have hkm:(K0::KR).length≤8001:=by omega
   have hs5:((w3.setCell ⟨w.heap.size+1,1,none⟩ (.string (ub K0))).setCell ⟨w.heap.size+1,2,none⟩ (.string (ub KL))).heap[w.heap.size]?=_:=(Go.Deep.blk_setCell_other _ _ _ _ (by simp)).trans ((Go.Deep.blk_setCell_other _ _ _ _ (by simp)).trans hx0)
   have HFX:=hid (set5_block hs5 (.int .i64 1) (.string (ub K0)) (.string (ub KL)) (.int .i64 fv) (.slice none 0 0))
   have HBF:=hid (set5_below ((HB3.setCell (p:=⟨w.heap.size+1,1,none⟩) (by simp) (.string (ub K0))).setCell (p:=⟨w.heap.size+1,2,none⟩) (by simp) (.string (ub KL))) (g:=w.heap.size) (Nat.le_refl _) (.int .i64 1) (.string (ub K0)) (.string (ub KL)) (.int .i64 fv) (.slice none 0 0))
   clear hs5 HB3
   generalize hn:(K0::KR).length=n at *
   obtain ⟨m,rfl⟩:∃ m,n=m+1:=⟨n - 1,by omega⟩
   simp only[Nat.add_sub_cancel] at hdl
   clear hb3 hs3 hx0 hx1 e0 e1 e2 e3 e4 p0 p1 p2 p3 p4 hc0A
   go_wp2_with fail
   change bodyPost _ _ _ _ _ (set5 ((w3.setCell ⟨w.heap.size+1,1,none⟩ (.string (ub K0))).setCell ⟨w.heap.size+1,2,none⟩ (.string (ub KL))) w.heap.size (.int .i64 1) (.string (ub K0)) (.string (ub KL)) (.int .i64 fv) (.slice none 0 0))
   generalize set5 ((w3.setCell ⟨w.heap.size+1,1,none⟩ (.string (ub K0))).setCell ⟨w.heap.size+1,2,none⟩ (.string (ub KL))) w.heap.size (.int .i64 1) (.string (ub K0)) (.string (ub KL)) (.int .i64 fv) (.slice none 0 0)=WF at *
   have ⟨⟨f0,f1,f2,f3,f4⟩,_⟩:=keep5 HFX.out
   exact bodyPost_ret (v:=.agg #[.int .i64 1,.string (ub K0),.string (ub KL),.int .i64 fv,.slice none 0 0]) (by simp[results,Tryz.results72,go_sem,f0,f1,f2,f3,f4]) rfl ⟨by rw[hfv.out],HBF.out⟩
 ·have hfv:Hid (fieldP (bl t)=(K0,KL,-1)):=hid (by rw[hfd.out,if_neg hc])
  clear hfd
  have hcase:((P0::PR).length≠2)∨((P0::PR).length=2∧((P0::PR).getD 1 []).length≤1):=by
   by_cases h:(P0::PR).length=2
   ·right;exact⟨h,by have h2:¬ (1<((P0::PR).getD 1 []).length):=fun h2=>hc ⟨h,h2⟩;omega⟩
   ·left;exact h
  clear hc
  rcases hcase with hne|⟨heq,hle⟩
  ·generalize hN:(P0::PR).length=N at *
   have hni:(N:Int)≠2:=by omega
   have hnb:((N:Int) == 2)=false:=by rw[beq_eq_false_iff_ne];exact hni
   have hN1:1≤N:=by rw[←hN];simp
   have hN1i:(0:Int)<(N:Int):=by omega
   clear HS1 hPs
   go_wp2_with fail
   have HH0:=hid hk0
   have HH1:=hid hk1
   have ⟨⟨e0,e1,e2,e3,e4⟩,p0,p1,p2,p3,p4⟩:=keep5 hk1
   refine(C2.out _).mono ?_
   rintro e w3 ⟨⟨a3,cap3,rfl,hs3⟩,hb3⟩
   have hx0:=(hb3.block w.heap.size (by omega)).trans HH0.out
   have hx1:=(hb3.block (w.heap.size+1) (by omega)).trans HH1.out
   have ⟨⟨r0,r1,r2,r3,r4⟩,s0,s1,s2,s3,s4⟩:=keep5 hx0
   have ⟨⟨x0,x1,x2,x3,x4⟩,y0,y1,y2,y3,y4⟩:=keep5 hx1
   have HB3:=HB1.out.trans (hb3.mono HB1.out.size)
   obtain ⟨b3,o3,rfl,hbl3,hd0⟩:=strs_get hs3 (i:=0) (x:=K0) rfl
   rw[Nat.add_zero] at hd0
   obtain ⟨b3',o3',e3',hbl3',hdl⟩:=strs_get hs3 hlast
   cases e3'
   have hlo3:b3≠w.heap.size+1:=by
    rcases hs3.2 with h|⟨b,o,h1,h2,_⟩
    ·cases h
    ·cases h1;omega
   have hkl:1≤(K0::KR).length:=by simp
   have hki:(0:Int)<((K0::KR).length:Int):=by omega
   have hkm:(K0::KR).length≤8001:=by omega
   have hs5:((w3.setCell ⟨w.heap.size+1,1,none⟩ (.string (ub K0))).setCell ⟨w.heap.size+1,2,none⟩ (.string (ub KL))).heap[w.heap.size]?=_:=(Go.Deep.blk_setCell_other _ _ _ _ (by simp)).trans ((Go.Deep.blk_setCell_other _ _ _ _ (by simp)).trans hx0)
   have HFX:=hid (set5_block hs5 (.int .i64 1) (.string (ub K0)) (.string (ub KL)) (.int .i64 (-1)) (.slice none 0 0))
   have HBF:=hid (set5_below ((HB3.setCell (p:=⟨w.heap.size+1,1,none⟩) (by simp) (.string (ub K0))).setCell (p:=⟨w.heap.size+1,2,none⟩) (by simp) (.string (ub KL))) (g:=w.heap.size) (Nat.le_refl _) (.int .i64 1) (.string (ub K0)) (.string (ub KL)) (.int .i64 (-1)) (.slice none 0 0))
   clear hs5 HB3
   generalize hn:(K0::KR).length=n at *
   obtain ⟨m,rfl⟩:∃ m,n=m+1:=⟨n - 1,by omega⟩
   simp only[Nat.add_sub_cancel] at hdl
   clear hb3 hs3 hx0 hx1 e0 e1 e2 e3 e4 p0 p1 p2 p3 p4 hc0
   go_wp2_with fail
   change bodyPost _ _ _ _ _ (set5 ((w3.setCell ⟨w.heap.size+1,1,none⟩ (.string (ub K0))).setCell ⟨w.heap.size+1,2,none⟩ (.string (ub KL))) w.heap.size (.int .i64 1) (.string (ub K0)) (.string (ub KL)) (.int .i64 (-1)) (.slice none 0 0))
   generalize set5 ((w3.setCell ⟨w.heap.size+1,1,none⟩ (.string (ub K0))).setCell ⟨w.heap.size+1,2,none⟩ (.string (ub KL))) w.heap.size (.int .i64 1) (.string (ub K0)) (.string (ub KL)) (.int .i64 (-1)) (.slice none 0 0)=WF at *
   have ⟨⟨f0,f1,f2,f3,f4⟩,_⟩:=keep5 HFX.out
   exact bodyPost_ret (v:=.agg #[.int .i64 1,.string (ub K0),.string (ub KL),.int .i64 (-1),.slice none 0 0]) (by simp[results,Tryz.results72,go_sem,f0,f1,f2,f3,f4]) rfl ⟨by rw[hfv.out],HBF.out⟩
  ·obtain ⟨q0,P1,hq⟩:=list_two heq
   cases hq
   simp only[List.getD_cons_succ,List.getD_cons_zero] at hle
   obtain ⟨b1',o1',e1',_,hc1⟩:=strs_get HS1.out (i:=1) (x:=P1) rfl
   cases e1'
   have hc1':w1.cell? ⟨b1,o1+1,none⟩=some (.string (ub P1)):=hc1
   have hls:=ub_size P1
   generalize ub P1=u1 at hc1' hls
   have hl1:(u1.size:Int)≤1:=by omega
   clear HS1 hPs hls hc1
   go_wp2_with fail
   have HH0:=hid hk0
   have HH1:=hid hk1
   have ⟨⟨e0,e1,e2,e3,e4⟩,p0,p1,p2,p3,p4⟩:=keep5 hk1
   refine(C2.out _).mono ?_
   rintro e w3 ⟨⟨a3,cap3,rfl,hs3⟩,hb3⟩
   have hx0:=(hb3.block w.heap.size (by omega)).trans HH0.out
   have hx1:=(hb3.block (w.heap.size+1) (by omega)).trans HH1.out
   have ⟨⟨r0,r1,r2,r3,r4⟩,s0,s1,s2,s3,s4⟩:=keep5 hx0
   have ⟨⟨x0,x1,x2,x3,x4⟩,y0,y1,y2,y3,y4⟩:=keep5 hx1
   have HB3:=HB1.out.trans (hb3.mono HB1.out.size)
   obtain ⟨b3,o3,rfl,hbl3,hd0⟩:=strs_get hs3 (i:=0) (x:=K0) rfl
   rw[Nat.add_zero] at hd0
   obtain ⟨b3',o3',e3',hbl3',hdl⟩:=strs_get hs3 hlast
   cases e3'
   have hlo3:b3≠w.heap.size+1:=by
    rcases hs3.2 with h|⟨b,o,h1,h2,_⟩
    ·cases h
    ·cases h1;omega
   have hkl:1≤(K0::KR).length:=by simp
   have hki:(0:Int)<((K0::KR).length:Int):=by omega
   have hkm:(K0::KR).length≤8001:=by omega
   have hs5:((w3.setCell ⟨w.heap.size+1,1,none⟩ (.string (ub K0))).setCell ⟨w.heap.size+1,2,none⟩ (.string (ub KL))).heap[w.heap.size]?=_:=(Go.Deep.blk_setCell_other _ _ _ _ (by simp)).trans ((Go.Deep.blk_setCell_other _ _ _ _ (by simp)).trans hx0)
   have HFX:=hid (set5_block hs5 (.int .i64 1) (.string (ub K0)) (.string (ub KL)) (.int .i64 (-1)) (.slice none 0 0))
   have HBF:=hid (set5_below ((HB3.setCell (p:=⟨w.heap.size+1,1,none⟩) (by simp) (.string (ub K0))).setCell (p:=⟨w.heap.size+1,2,none⟩) (by simp) (.string (ub KL))) (g:=w.heap.size) (Nat.le_refl _) (.int .i64 1) (.string (ub K0)) (.string (ub KL)) (.int .i64 (-1)) (.slice none 0 0))
   clear hs5 HB3
   generalize hn:(K0::KR).length=n at *
   obtain ⟨m,rfl⟩:∃ m,n=m+1:=⟨n - 1,by omega⟩
   simp only[Nat.add_sub_cancel] at hdl
   clear hb3 hs3 hx0 hx1 e0 e1 e2 e3 e4 p0 p1 p2 p3 p4 hc0
   go_wp2_with fail
   change bodyPost _ _ _ _ _ (set5 ((w3.setCell ⟨w.heap.size+1,1,none⟩ (.string (ub K0))).setCell ⟨w.heap.size+1,2,none⟩ (.string (ub KL))) w.heap.size (.int .i64 1) (.string (ub K0)) (.string (ub KL)) (.int .i64 (-1)) (.slice none 0 0))
   generalize set5 ((w3.setCell ⟨w.heap.size+1,1,none⟩ (.string (ub K0))).setCell ⟨w.heap.size+1,2,none⟩ (.string (ub KL))) w.heap.size (.int .i64 1) (.string (ub K0)) (.string (ub KL)) (.int .i64 (-1)) (.slice none 0 0)=WF at *
   have ⟨⟨f0,f1,f2,f3,f4⟩,_⟩:=keep5 HFX.out
   exact bodyPost_ret (v:=.agg #[.int .i64 1,.string (ub K0),.string (ub KL),.int .i64 (-1),.slice none 0 0]) (by simp[results,Tryz.results72,go_sem,f0,f1,f2,f3,f4]) rfl ⟨by rw[hfv.out],HBF.out⟩
structure OnlyP(p:Nat)(w w':World):Prop where
 os:w'.os=w.os
 tape:w'.tape=w.tape
 output:w'.output=w.output
 size:w.heap.size≤w'.heap.size
 block:∀ k,k<w.heap.size→k≠p→w'.heap[k]?=w.heap[k]?
theorem OnlyP.refl(p:Nat)(w:World):OnlyP p w w:=⟨rfl,rfl,rfl,Nat.le_refl _,fun _ _ _=>rfl⟩
theorem OnlyP.trans{p:Nat}{a b c:World}(h:OnlyP p a b)(g:OnlyP p b c):OnlyP p a c :=
 ⟨g.os.trans h.os,g.tape.trans h.tape,g.output.trans h.output,Nat.le_trans h.size g.size,fun k hk hp=>(g.block k (Nat.lt_of_lt_of_le hk h.size) hp).trans (h.block k hk hp)⟩
theorem OnlyP.below{p B:Nat}{a b c:World}(h:OnlyP p a b)(hB:a.heap.size≤B)(g:Below B b c):OnlyP p a c :=
 ⟨g.os.trans h.os,g.tape.trans h.tape,g.output.trans h.output,Nat.le_trans h.size g.size,fun k hk hp=>(g.block k (Nat.lt_of_lt_of_le hk hB)).trans (h.block k hk hp)⟩
theorem OnlyP.toBelow{p B:Nat}{a b:World}(h:OnlyP p a b)(hp:B≤p)(hB:B≤a.heap.size):Below B a b :=
 ⟨h.os,h.tape,h.output,h.size,fun k hk=>h.block k (by omega) (by omega)⟩
structure Rd(T:TypeId)(w:World)(p:Nat)(a:Option Addr)(cap:Nat)(W:List Tok)(k:Nat):Prop where
 hd:w.heap[p]?=some (.cells #[.slice a W.length cap,.int .i64 k] T (0,0))
 row:∀ i x,W[i]?=some x→∃ b off,a=some ⟨b,off,none⟩∧b<p∧w.cell? ⟨b,off+i,none⟩=some (.string ⟨x.toArray⟩)
 small:W.length≤8001
 sizes:∀ x∈W,x.length≤8000
theorem Rd.lt{T:TypeId}{w:World}{p cap k:Nat}{a:Option Addr}{W:List Tok}(h:Rd T w p a cap W k):p<w.heap.size:=by
 rcases Nat.lt_or_ge p w.heap.size with g|g
 ·exact g
 ·have:=h.hd;rw[Array.getElem?_eq_none g] at this;cases this
theorem Rd.below{T:TypeId}{w w':World}{p cap k B:Nat}{a:Option Addr}{W:List Tok}(h:Rd T w p a cap W k)(hB:p<B)(g:Below B w w'):Rd T w' p a cap W k :=
 ⟨(g.block p hB).trans h.hd,fun i x hx=>by
  obtain ⟨b,off,ha,hb,hc⟩:=h.row i x hx
  exact⟨b,off,ha,hb,(g.cell (p:=⟨b,off+i,none⟩) (by show b<B;omega)).trans hc⟩,h.small,h.sizes⟩
theorem word_drop(W:List Tok)(k:Nat):word (W.drop k)=W.getD k []:=by
 unfold word
 rw[List.headD_eq_head?_getD,List.head?_drop];rfl
theorem rdWord(w:World)(p cap k:Nat)(a:Option Addr)(W:List Tok)(h:Rd 68 w p a cap W k)(hk:k≤1000000) :
  Calls Tryz.prog 43 #[.pointer (some ⟨p,0,none⟩)] w fun e w'=>e=.returned (.string (ub (word (W.drop k))))∧Below w.heap.size w w':=by
 have ret_s:∀ {a b:ByteArray},a=b→Ending.returned (.string a)=.returned (.string b):=fun h=>by rw[h]
 have c0:w.cell? ⟨p,0,none⟩=some (.slice a W.length cap):=cell_of h.hd rfl
 have c1:w.cell? ⟨p,1,none⟩=some (.int .i64 k):=cell_of h.hd rfl
 have hsm:=h.small
 by_cases hlt:k<W.length
 ·have hx:W[k]?=some W[k]:=List.getElem?_eq_getElem hlt
  obtain ⟨b,off,rfl,hb,hc⟩:=h.row k _ hx
  have hf:=hid (show ub W[k]=ub (word (W.drop k)) by rw[word_drop,List.getD_eq_getElem?_getD,hx];rfl)
  have hli:(k:Int)<(W.length:Int):=by omega
  generalize W[k]=x at hx hc hf
  generalize W.length=n at *
  clear h hx hlt
  go_enter Tryz.func43,Tryz.ntmps43
  go_wp2_with fail
  go_region
  go_wp2_with fail
  go_region
  go_wp2_with fail
  go_ret
  exact⟨ret_s hf.out,(Below.refl _ _).drew.drew⟩
 ·have hf:=hid (show ByteArray.empty=ub (word (W.drop k)) by rw[List.drop_eq_nil_of_le (by omega)];rfl)
  have hli:(W.length:Int)≤(k:Int):=by omega
  have hlj:¬ ((k:Int)<(W.length:Int)):=by omega
  generalize W.length=n at *
  clear h hlt
  go_enter Tryz.func43,Tryz.ntmps43
  go_wp2_with fail
  go_region
  go_wp2_with fail
  go_ret
  exact⟨ret_s hf.out,(Below.refl _ _).drew⟩
theorem rdNext(w:World)(p cap k:Nat)(a:Option Addr)(W:List Tok)(h:Rd 68 w p a cap W k)(hk:k≤1000000) :
  Calls Tryz.prog 44 #[.pointer (some ⟨p,0,none⟩)] w fun e w'=>e=.returned (.string (ub (word (W.drop k))))∧Rd 68 w' p a cap W (k+1)∧OnlyP p w w':=by
 have CW:=hid (rdWord w p cap k a W h hk)
 have HR:=hid h
 have hplt:=h.lt
 clear h
 go_enter Tryz.func44,Tryz.ntmps44
 go_wp2_with fail
 refine CW.out.mono ?_
 rintro e w1 ⟨rfl,hb1⟩
 have h1:=HR.out.below hplt hb1
 have c1:w1.cell? ⟨p,1,none⟩=some (.int .i64 k):=cell_of h1.hd rfl
 have f1:=frozen_of_row w1 p 1 _ _ h1.hd
 have hend:Rd 68 (w1.setCell ⟨p,1,none⟩ (.int .i64 ((k:Int)+1))) p a cap W (k+1):=by
  refine⟨heap_setCell_same w1 p 1 _ _ _ h1.hd,fun i x hx=>?_,h1.small,h1.sizes⟩
  obtain ⟨b,off,ha,hb,hc⟩:=h1.row i x hx
  have hne:b≠p:=by omega
  exact⟨b,off,ha,hb,(World.cell?_setCell_other _ _ _ _ (by simp)).trans hc⟩
 have HE:=hid hend
 have HO:Hid (OnlyP p w (w1.setCell ⟨p,1,none⟩ (.int .i64 ((k:Int)+1)))):=hid (((OnlyP.refl p w).below (Nat.le_refl _) hb1).trans ⟨rfl,rfl,rfl,by simp,fun q _ hq=>Go.Deep.blk_setCell_other _ _ _ _ hq⟩)
 clear h1 hend hb1
 go_wp2_with fail
 go_ret
 exact⟨rfl,HE.out,HO.out⟩
end Go.Proofs.YtmembhpoidcmlaaGreatDoor.Selss
namespace Go.Proofs.YtmembhpoidcmlaaGreatDoor.Selss
open Go.RowKit Words Decs Splits
set_option linter.unusedVariables false
def consRows(L:List RowS)(X:Sels):Sels:=L.foldr (fun r X=>.cons r.k r.key r.nm r.f r.u X) X
theorem consRows_nil:∀ L:List RowS,consRows L .nil=rowsSels L
 | []=>rfl
 | r::L=>by show Sels.cons _ _ _ _ _ (consRows L .nil)=_;rw[consRows_nil L];rfl
theorem consRows_snoc(L:List RowS)(r:RowS)(X:Sels):consRows (L++[r]) X=consRows L (.cons r.k r.key r.nm r.f r.u X):=by
 unfold consRows;rw[List.foldr_append];rfl
theorem toList_ub(t:Tok):(ub t).toList=t:=by rw[Lib.toList_data];simp[ub]
def Come(sub:List Tok→Sels×List Tok)(W0:List Tok)(L:List RowS)(V:List Tok):Prop :=
 (pLoop sub 61 W0).1=consRows L (pLoop sub (61 - L.length) V).1∧(pLoop sub 61 W0).2=(pLoop sub (61 - L.length) V).2
theorem come_start(sub:List Tok→Sels×List Tok)(W0:List Tok):Come sub W0 [] W0:=⟨rfl,rfl⟩
theorem come_more{sub:List Tok→Sels×List Tok}{W0 V V':List Tok}{L:List RowS}{r:RowS}{m:Nat}(h:Come sub W0 L V)(hm:61 - L.length=m+1)
  (hs:pLoop sub (m+1) V=(.cons r.k r.key r.nm r.f r.u (pLoop sub m V').1,(pLoop sub m V').2)):Come sub W0 (L++[r]) V':=by
 have e:61 - (L++[r]).length=m:=by rw[List.length_append];simp;omega
 unfold Come at h ⊢
 rw[hm,hs] at h
 rw[e,consRows_snoc]
 exact h
theorem come_end{sub:List Tok→Sels×List Tok}{W0 V:List Tok}{L:List RowS}(h:Come sub W0 L V)(hv:V=[]∨L.length=61∨word V=[125])(hL:L.length≤61):(pLoop sub 61 W0).1=rowsSels L∧(pLoop sub 61 W0).2=V:=by
 have e:pLoop sub (61 - L.length) V=(.nil,V):=by
  cases hm:61 - L.length with
  | zero=>cases V <;> rfl
  | succ m =>
   cases V with
   | nil=>rfl
   | cons t V1 =>
    have ht:t=[125]:=by
     rcases hv with h|h|h
     ·cases h
     ·omega
     ·exact h
    rw[ht];exact pLoop_stop sub m V1
 unfold Come at h
 rw[e] at h
 exact⟨h.1.trans (consRows_nil L),h.2⟩
def lenOf:Value→Nat
 | .slice _ n _=>n
 | _=>0
theorem OwnSel.len{w:World}{base:Nat}{v:Value}{L:List RowS}(h:OwnSel w base v L):lenOf v=L.length∧∃ a cap,v=.slice a L.length cap:=by
 rcases h.own.2 with ⟨rfl,hn⟩|⟨g,cap,cur,rfl,_⟩
 ·exact⟨hn.symm,none,0,by rw[hn]⟩
 ·exact⟨rfl,_,_,rfl⟩
theorem drop_word{W:List Tok}{k:Nat}(h:k<W.length):W.drop k=word (W.drop k)::W.drop (k+1):=by
 rw[List.drop_eq_getElem_cons h];rfl
end Go.Proofs.YtmembhpoidcmlaaGreatDoor.Selss
