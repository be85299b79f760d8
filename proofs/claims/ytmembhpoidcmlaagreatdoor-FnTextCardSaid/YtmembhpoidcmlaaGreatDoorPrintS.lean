/-
  What is printed is read back, plainly: a line, a schema; no program. Conditions: a right schema.
-/
import Derived.Test.YtmembhpoidcmlaaGreatDoorRows
import Derived.Test.YtmembhpoidcmlaaGreatDoorReadP
import Derived.Test.YtmembhpoidcmlaaGreatDoorSchTC
namespace Go.Proofs.YtmembhpoidcmlaaGreatDoor.Rw
open Go.RowKit Words Decs Splits
set_option linter.unusedVariables false
set_option maxRecDepth 100000
theorem splitR_word{c:UInt8}:∀ {t:List UInt8},c∉t→∀ rest,splitL c (t++c::rest)=t::splitL c rest
 | [],_,rest=>by simp[splitL]
 | x::t,h,rest=>by
  simp only[List.mem_cons,not_or] at h
  rw[List.cons_append,splitL,if_neg (fun e=>h.1 e.symm),splitR_word h.2 rest]
  rfl
theorem splitR_last{c:UInt8}:∀ {t:List UInt8},c∉t→splitL c t=[t]
 | [],_=>rfl
 | x::t,h=>by
  simp only[List.mem_cons,not_or] at h
  rw[splitL,if_neg (fun e=>h.1 e.symm),splitR_last h.2]
  rfl
theorem ubR_bL(b:ByteArray):ubR (bL b)=b:=ub_bL b
theorem bL_cB(l:List UInt8):bL (cB l)=l:=by simp[bL,cB]
theorem of_bytes{s:ByteArray}{a b:Nat}(h:ofB s a b=true):∀ x∈bL s,a≤x.toNat∧x.toNat≤b:=by
 unfold ofB at h
 have h2:=@of_decide_eq_true _ (Classical.propDecidable _) h
 intro x hx
 obtain ⟨i,hi⟩:=List.mem_iff_getElem?.1 hx
 obtain ⟨hl,rfl⟩:=List.getElem?_eq_some_iff.1 hi
 rw[bL_len] at hl
 have:=h2.each i hl
 have e:bt s i=((s[i]).toNat:Int):=by unfold bt;simp[hl]
 rw[e] at this
 show a≤(s[i]).toNat∧(s[i]).toNat≤b
 omega
theorem word_bytes{s:ByteArray}(h:wordB s=true):∀ x∈bL s,97≤x.toNat∧x.toNat≤122:=by
 unfold wordB at h
 rw[Bool.and_eq_true] at h
 exact of_bytes h.1
theorem type_bytes{s:ByteArray}(h:typeB s=true):∀ x∈bL s,65≤x.toNat∧x.toNat≤90:=of_bytes h
theorem not_in{l:List UInt8}{a b:Nat}(h:∀ x∈l,a≤x.toNat∧x.toNat≤b){c:UInt8}(hc:c.toNat<a∨b<c.toNat):c∉l:=fun hm=>by
 have:=h c hm;omega
theorem dec_bytes{f:Int}(h0:0≤f)(h1:f≤100):∀ x∈bL (decB f),48≤x.toNat∧x.toNat≤57:=by
 rw[bL_dec h0]
 exact decLsm (by omega)
theorem dec_some{f:Int}(h0:0≤f)(h1:f≤100):1≤(bL (decB f)).length:=by
 rw[bL_dec h0]
 by_cases h:f.toNat<10
 ·rw[decL_small h];simp
 ·rw[decL_big (by omega)];simp
def coreT(f:FieldP):List UInt8 :=
 if f.list=true then (if f.cap=0 then 91::(bL (decB f.size)++[93]) else 91::60::(bL (decB f.cap)++[93])) else []
theorem tail_core{f:FieldP}(h:sizedB f=true):bL (tailT f)=coreT f++(if f.must=true then [33] else []):=by
 unfold tailT coreT
 have hm:bL (if f.must=true then cB [33] else ByteArray.empty)=if f.must=true then [33] else []:=by split <;> simp[bL_cB,bL_empty]
 rw[bL_append,hm]
 congr 1
 rcases sized_cases h with ⟨h1,h2,h3⟩|⟨h1,h2,h3,h4⟩|⟨h1,h2,h3,h4⟩
 ·rw[if_neg (by rw[h1];simp),if_neg (by rw[h1];simp),if_neg (by rw[h1];simp)];rfl
 ·rw[if_pos ⟨h1,h2⟩,if_neg (by omega),if_pos h1,if_pos h2]
  simp[bL_append,bL_cB]
 ·rw[if_neg (by omega),if_pos ⟨h1,by omega⟩,if_pos h1,if_neg (by omega)]
  simp[bL_append,bL_cB]
theorem rest2_core{f:FieldP}{T:List UInt8}(h:sizedB f=true)(hT:∀ x∈T,65≤x.toNat∧x.toNat≤90)(nm:ByteArray):rest2 nm f.must (T++coreT f)=⟨nm,ubR T,f.list,f.must,f.size,f.cap⟩:=by
 have h91:(91:UInt8)∉T:=not_in hT (.inr (by decide))
 unfold coreT
 rcases sized_cases h with ⟨h1,h2,h3⟩|⟨h1,h2,h3,h4⟩|⟨h1,h2,h3,h4⟩
 ·rw[if_neg (by rw[h1];simp),List.append_nil]
  unfold rest2
  rw[splitR_last h91]
  simp[h1,h2,h3]
 ·rw[if_pos h1,if_pos h2]
  have hd:=dec_bytes h3 h4
  have hl:=dec_some h3 h4
  have hn:=num_dec h3 h4
  generalize bL (decB f.size)=D at *
  have h91d:(91:UInt8)∉D++[93]:=by
   intro e
   rcases List.mem_append.1 e with e|e
   ·exact not_in hd (c:=91) (.inr (by decide)) e
   ·simp at e
  unfold rest2
  rw[splitR_word h91,splitR_last h91d]
  obtain ⟨c,r,rfl⟩:∃ c r,D=c::r:=by cases D with
   | nil=>simp at hl
   | cons c r=>exact⟨c,r,rfl⟩
  have hc:c≠60:=fun e=>by
   have:=hd c (by simp);rw[e] at this;exact absurd this (by decide)
  have hdl:(c::(r++[93])).dropLast=c::r:=by rw[←List.cons_append,List.dropLast_concat]
  simp[h1,h2,hdl,hc,hn]
 ·rw[if_pos h1,if_neg (by omega)]
  have h0:(0:Int)≤f.cap:=by omega
  have hd:=dec_bytes h0 h4
  have hn:=num_dec h0 h4
  generalize bL (decB f.cap)=D at *
  have h91d:(91:UInt8)∉60::(D++[93]):=by
   intro e
   rcases List.mem_cons.1 e with e|e
   ·exact absurd e (by decide)
   rcases List.mem_append.1 e with e|e
   ·exact not_in hd (c:=91) (.inr (by decide)) e
   ·simp at e
  unfold rest2
  rw[splitR_word h91,splitR_last h91d]
  have hdl:(60::(D++[93])).dropLast=60::D:=by rw[←List.cons_append,List.dropLast_concat]
  simp[h1,h2,hdl,hn]
def wordT(f:FieldP):List UInt8:=bL f.name++58::(bL f.typ++bL (tailT f))
theorem core_bytes{f:FieldP}(h:sizedB f=true):∀ x∈coreT f,x=91∨x=93∨x=60∨(48≤x.toNat∧x.toNat≤57):=by
 intro x hx
 unfold coreT at hx
 rcases sized_cases h with ⟨h1,h2,h3⟩|⟨h1,h2,h3,h4⟩|⟨h1,h2,h3,h4⟩
 ·rw[if_neg (by rw[h1];simp)] at hx;cases hx
 ·rw[if_pos h1,if_pos h2] at hx
  rcases List.mem_cons.1 hx with e|hx
  ·exact .inl e
  rcases List.mem_append.1 hx with e|hx
  ·exact .inr (.inr (.inr (dec_bytes h3 h4 x e)))
  ·exact .inr (.inl (by simpa using hx))
 ·rw[if_pos h1,if_neg (by omega)] at hx
  rcases List.mem_cons.1 hx with e|hx
  ·exact .inl e
  rcases List.mem_cons.1 hx with e|hx
  ·exact .inr (.inr (.inl e))
  rcases List.mem_append.1 hx with e|hx
  ·exact .inr (.inr (.inr (dec_bytes (by omega) h4 x e)))
  ·exact .inr (.inl (by simpa using hx))
theorem core_no{f:FieldP}(h:sizedB f=true){c:UInt8}(h1:c≠91)(h2:c≠93)(h3:c≠60)(h4:c.toNat<48∨57<c.toNat):c∉coreT f:=fun e=>by
 rcases core_bytes h c e with e|e|e|e
 ·exact h1 e
 ·exact h2 e
 ·exact h3 e
 ·omega
theorem read_field{s:List TypeP}{f:FieldP}(h:FieldOk s f):partP2 (wordT f)=f:=by
 have hN:=word_bytes h.word
 have hT:=type_bytes h.typ
 have hZ:=h.sized
 have body:part2 f.must (bL f.name++58::(bL f.typ++coreT f))=f:=by
  unfold part2
  have h58:(58:UInt8)∉bL f.typ++coreT f:=fun e=>by
   rcases List.mem_append.1 e with e|e
   ·exact not_in hT (c:=58) (.inl (by decide)) e
   ·exact core_no hZ (by decide) (by decide) (by decide) (.inr (by decide)) e
  rw[splitR_word (not_in hN (.inl (by decide))),splitR_last h58]
  show (if (2:Nat)=2 then rest2 (ubR (bL f.name)) f.must (bL f.typ++coreT f) else _)=f
  rw[if_pos rfl,rest2_core hZ hT,ubR_bL,ubR_bL]
 unfold wordT
 rw[tail_core hZ]
 cases hm:f.must with
 | true =>
  rw[hm] at body
  rw[if_pos rfl,←List.append_assoc (bL f.typ),←List.cons_append,←List.append_assoc]
  unfold partP2
  rw[List.getLast?_concat,if_pos rfl,List.dropLast_concat];exact body
 | false =>
  rw[hm] at body
  rw[if_neg (by simp),List.append_nil]
  unfold partP2
  rw[if_neg ?_]
  ·exact body
  ·intro e
   have hmem:=List.mem_of_getLast? e
   rcases List.mem_append.1 hmem with e|e
   ·exact not_in hN (c:=33) (.inl (by decide)) e
   rcases List.mem_cons.1 e with e|e
   ·exact absurd e (by decide)
   rcases List.mem_append.1 e with e|e
   ·exact not_in hT (c:=33) (.inl (by decide)) e
   ·exact core_no hZ (by decide) (by decide) (by decide) (.inl (by decide)) e
theorem word_clean{s:List TypeP}{f:FieldP}(h:FieldOk s f){c:UInt8}(hc:c=32∨c=10):c∉wordT f:=fun e=>by
 unfold wordT at e
 rw[tail_core h.sized] at e
 have h33:c.toNat=32∨c.toNat=10:=by rcases hc with rfl|rfl <;> decide
 rcases List.mem_append.1 e with e|e
 ·exact not_in (word_bytes h.word) (c:=c) (.inl (by omega)) e
 rcases List.mem_cons.1 e with e|e
 ·rw[e] at h33;exact absurd h33 (by decide)
 rcases List.mem_append.1 e with e|e
 ·exact not_in (type_bytes h.typ) (c:=c) (.inl (by omega)) e
 rcases List.mem_append.1 e with e|e
 ·refine core_no h.sized ?_ ?_ ?_ (.inl (by omega)) e <;> (rintro rfl;exact absurd h33 (by decide))
 ·split at e
  ·rw[List.mem_singleton] at e;rw[e] at h33;exact absurd h33 (by decide)
  ·cases e
def blanks(ws:List (List UInt8)):List UInt8:=ws.flatMap (fun w=>32::w)
theorem split_blanks:∀{ws:List (List UInt8)}{w:List UInt8},(32:UInt8)∉w→(∀ v∈ws,(32:UInt8)∉v)→splitL 32 (w++blanks ws)=w::ws
 | [],w,h,_=>by unfold blanks;rw[List.flatMap_nil,List.append_nil];exact splitR_last h
 | v::ws,w,h,hs=>by
  have ih:=split_blanks (ws:=ws) (w:=v) (hs v (by simp)) fun u hu=>hs u (by simp[hu])
  have e:w++blanks (v::ws)=w++32::(v++blanks ws):=by unfold blanks;rw[List.flatMap_cons,List.cons_append]
  rw[e,splitR_word h,ih]
theorem fields_blanks:∀ l:List FieldP,bL (fieldsT l)=blanks (l.map wordT)
 | []=>rfl
 | f::l=>by
  have ih:=fields_blanks l
  unfold blanks at ih ⊢
  rw[fieldsT,bL_append,ih,List.map_cons,List.flatMap_cons]
  congr 1
  unfold fieldT wordT
  simp[bL_append,bL_cB]
theorem mems_blanks:∀ l:List ByteArray,bL (memsT l)=blanks (l.map bL)
 | []=>rfl
 | m::l=>by
  have ih:=mems_blanks l
  unfold blanks at ih ⊢
  rw[memsT,bL_append,ih,List.map_cons,List.flatMap_cons]
  congr 1
def kw(k:Int):List UInt8:=if k=1 then leafW else if k=2 then objW else oneW
def restT(x:TypeP):List (List UInt8):=bL x.name::((if x.kind=1 then [bL (decB x.bytes)] else [])++(x.fields.map wordT++x.members.map bL))
theorem blanks_append(a b:List (List UInt8)):blanks (a++b)=blanks a++blanks b:=by unfold blanks;rw[List.flatMap_append]
theorem line_blanks(x:TypeP):bL (lineT x)=(kw x.kind++blanks (restT x))++[10]:=by
 have h1:bL (kindW x.kind)=kw x.kind++[32]:=by
  unfold kindW kw leafW objW oneW
  split
  ·rw[bL_cB];rfl
  ·split <;> (rw[bL_cB];rfl)
 have h2:bL (if x.kind=1 then cB [32]++decB x.bytes else ByteArray.empty)=blanks (if x.kind=1 then [bL (decB x.bytes)] else []):=by
  split <;> simp[bL_append,bL_cB,bL_empty,blanks]
 have h3:blanks (restT x)=32::(bL x.name++(blanks (if x.kind=1 then [bL (decB x.bytes)] else [])++(blanks (x.fields.map wordT)++blanks (x.members.map bL)))):=by
  unfold restT
  rw[←blanks_append,←blanks_append]
  unfold blanks;rw[List.flatMap_cons,List.cons_append]
 unfold lineT headT
 rw[bL_append,bL_append,bL_append,bL_append,bL_append,h1,h2,h3,fields_blanks,mems_blanks,bL_cB]
 simp[List.append_assoc]
theorem fold_obj(nm:ByteArray):∀ (l:List FieldP) (L:List FieldP),(∀ f∈l,partP2 (wordT f)=f)→(l.map wordT).foldl (stepP objW) ⟨nm,0,0,L,[]⟩=⟨nm,0,0,L++l,[]⟩
 | [],L,_=>by simp
 | f::l,L,h=>by
  rw[List.map_cons,List.foldl_cons]
  have e:stepP objW ⟨nm,0,0,L,[]⟩ (wordT f)=⟨nm,0,0,L++[f],[]⟩:=by
   unfold stepP
   rw[if_neg (by decide),if_pos rfl,h f (by simp)]
  rw[e,fold_obj nm l (L++[f]) fun g hg=>h g (by simp[hg])]
  simp
theorem fold_one(nm:ByteArray):∀ (l L:List ByteArray),(l.map bL).foldl (stepP oneW) ⟨nm,0,0,[],L⟩=⟨nm,0,0,[],L++l⟩
 | [],L=>by simp
 | m::l,L=>by
  rw[List.map_cons,List.foldl_cons]
  have e:stepP oneW ⟨nm,0,0,[],L⟩ (bL m)=⟨nm,0,0,[],L++[m]⟩:=by
   unfold stepP
   rw[if_neg (by decide),if_neg (by decide),if_pos rfl,ubR_bL]
  rw[e,fold_one nm l (L++[m])]
  simp
theorem rest_clean{s:List TypeP}(hs:schemaB s=true){x:TypeP}(hL:LineOk s x)(hx:partB s x=true){c:UInt8}(hc:c=32∨c=10):∀ v∈restT x,c∉v:=by
 have h33:c.toNat=32∨c.toNat=10:=by rcases hc with rfl|rfl <;> decide
 intro v hv
 unfold restT at hv
 rcases List.mem_cons.1 hv with e|hv
 ·rw[e];exact not_in (type_bytes hL.nm) (.inl (by omega))
 rcases List.mem_append.1 hv with hv|hv
 ·split at hv
  ·rw[List.mem_singleton] at hv
   rw[hv];exact not_in (dec_bytes hL.bytes.1 hL.bytes.2) (.inl (by omega))
  ·cases hv
 rcases List.mem_append.1 hv with hv|hv
 ·obtain ⟨f,hf,rfl⟩:=List.mem_map.1 hv
  exact word_clean (hL.each f hf) hc
 ·obtain ⟨m,hm,rfl⟩:=List.mem_map.1 hv
  exact not_in (type_bytes (member_type hs hx hm)) (.inl (by omega))
theorem kw_clean(k:Int){c:UInt8}(hc:c=32∨c=10):c∉kw k:=by
 unfold kw leafW objW oneW
 rcases hc with rfl|rfl <;> (split <;> (try split) <;> decide)
theorem blanks_clean{ws:List (List UInt8)}(h:∀ v∈ws,(10:UInt8)∉v):(10:UInt8)∉blanks ws:=fun e=>by
 unfold blanks at e
 obtain ⟨v,hv,he⟩:=List.mem_flatMap.1 e
 rcases List.mem_cons.1 he with g|g
 ·exact absurd g (by decide)
 ·exact h v hv g
theorem read_line{s:List TypeP}(hs:schemaB s=true){x:TypeP}(hL:LineOk s x)(hx:partB s x=true):lineP (splitL 32 (kw x.kind++blanks (restT x)))=x:=by
 rw[split_blanks (kw_clean _ (.inl rfl)) (rest_clean hs hL hx (.inl rfl))]
 have hnm:nameP (kw x.kind::restT x)=x.name:=by
  unfold nameP restT
  rw[if_pos (by simp)]
  show ubR (bL x.name)=x.name
  exact ubR_bL _
 have hargs:argsP (kw x.kind::restT x)=((if x.kind=1 then [bL (decB x.bytes)] else [])++(x.fields.map wordT++x.members.map bL)).take 10:=rfl
 unfold lineP
 rw[hnm,hargs,List.headD_cons]
 have hrd:∀ f∈x.fields,partP2 (wordT f)=f:=fun f hf=>read_field (hL.each f hf)
 obtain ⟨h1,h2,⟨h3,h4⟩,h5,h6,h7,h8⟩:=hL
 have pf:=fun h=>part_fields hx h
 have pm:=fun h=>part_members hx h
 have pb:=fun h=>part_bytes hx h
 obtain ⟨nm,kd,by_,fs,ms⟩:=x
 simp only at h1 h2 h3 h4 h5 h6 h7 h8 hrd pf pm pb ⊢
 rcases h2 with rfl|rfl|rfl
 ·rw[pf (by decide),pm (by decide),if_pos rfl]
  show ({ bodyP leafW nm [bL (decB by_)] with kind:=kindP leafW }:TypeP)=_
  have e:bodyP leafW nm [bL (decB by_)]=⟨nm,0,numR (bL (decB by_)),[],[]⟩:=by
   unfold bodyP stepP;simp
  rw[e,num_dec h3 h4];rfl
 ·rw[pm (by decide),pb (by decide),if_neg (by decide),List.nil_append,List.map_nil,List.append_nil,List.take_of_length_le (by rw[List.length_map];omega)]
  show ({ bodyP objW nm (fs.map wordT) with kind:=kindP objW }:TypeP)=_
  unfold bodyP
  rw[fold_obj nm fs [] hrd];rfl
 ·rw[pf (by decide),pb (by decide),if_neg (by decide),List.nil_append,List.map_nil,List.nil_append,List.take_of_length_le (by rw[List.length_map];omega)]
  show ({ bodyP oneW nm (ms.map bL) with kind:=kindP oneW }:TypeP)=_
  unfold bodyP
  rw[fold_one nm ms []];rfl
theorem split_lines:∀{l:List TypeP},(∀ x∈l,(10:UInt8)∉kw x.kind++blanks (restT x))→splitL 10 (bL (linesT l))=(l.map fun x=>kw x.kind++blanks (restT x))++[[]]
 | [],_=>rfl
 | x::l,h=>by
  have ih:=split_lines (l:=l) fun y hy=>h y (by simp[hy])
  rw[linesT,bL_append,line_blanks,List.append_assoc,List.singleton_append,splitR_word (h x (by simp)),ih];rfl
theorem read_schema{s:List TypeP}(h:schemaB s=true):schemaP (bL (schT s))=s:=by
 have hok:∀ x∈s,LineOk s x∧partB s x=true:=fun x hx=>by
  obtain ⟨i,hi⟩:=List.mem_iff_getElem?.1 hx
  exact⟨line_ok h hi,((schemaB_parts h).2.2 i x hi).1.2⟩
 have hlen:=(schemaB_parts h).1.2
 unfold schT schemaP
 rw[if_pos h,split_lines fun x hx e=>?_,List.dropLast_concat,List.take_of_length_le (by rw[List.length_map];omega),List.map_map]
 ·have:∀ l:List TypeP,(∀ x∈l,x∈s)→l.map ((fun l=>lineP (splitL 32 l)) ∘ fun x=>kw x.kind++blanks (restT x))=l:=by
   intro l
   induction l with
   | nil=>intro _;rfl
   | cons x l ih =>
    intro hl
    obtain ⟨h1,h2⟩:=hok x (hl x (by simp))
    rw[List.map_cons,ih fun y hy=>hl y (by simp[hy])]
    show lineP (splitL 32 (kw x.kind++blanks (restT x)))::l=x::l
    rw[read_line h h1 h2]
  exact this s fun _ hx=>hx
 ·obtain ⟨h1,h2⟩:=hok x hx
  rcases List.mem_append.1 e with e|e
  ·exact kw_clean _ (.inr rfl) e
  ·exact blanks_clean (rest_clean h h1 h2 (.inr rfl)) e
end Go.Proofs.YtmembhpoidcmlaaGreatDoor.Rw
