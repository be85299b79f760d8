/-
  Contract: spec.SchemaText answers the text of a right schema, else the empty text; of what was there nothing is changed. Conditions: in memory.
-/
import Derived.Test.YtmembhpoidcmlaaGreatDoorRows
import Derived.Test.YtmembhpoidcmlaaGreatDoorSchT
import Derived.Test.YtmembhpoidcmlaaGreatDoorBytes
import Derived.Test.YtmembhpoidcmlaaGreatDoorOwnRw
import Derived.Lib.AppendStr
namespace Go.Proofs.YtmembhpoidcmlaaGreatDoor.Rw
open Lib (hid)
open Go.RowKit Words Decs
set_option linter.unusedVariables false
set_option maxRecDepth 100000
theorem ret_s{a b:ByteArray}(h:a=b):Ending.returned (.string a)=.returned (.string b):=by rw[h]
structure LineOk(s:List TypeP)(x:TypeP):Prop where
 nm:typeB x.name=true
 kind:x.kind=1∨x.kind=2∨x.kind=3
 bytes:0≤x.bytes∧x.bytes≤100
 few:x.fields.length≤8
 each:∀ f∈x.fields,FieldOk s f
 fewM:x.members.length≤5
 eachM:∀ m∈x.members,m.size≤8
set_option maxHeartbeats 4000000 in
theorem specLine(w:World)(A B:Nat)(x:TypeP)(a:Option Addr)(ca:Nat)(c:Option Addr)(cc:Nat)(hx:TypeAt w A B (.agg (x.cells a ca c cc).toArray) x)(hB:B≤w.heap.size)(s:List TypeP)(hL:LineOk s x) :
  Calls Tryz.prog 52 #[.agg (x.cells a ca c cc).toArray] w fun e w'=>e=.returned (.string (lineT x))∧Below w.heap.size w w':=by
 obtain ⟨a',ca',c',cc',hve,hk,⟨hf,hca⟩,hm,hcc⟩:=hx
 obtain ⟨nm,kd,by_,fs,ms⟩:=x
 simp[TypeP.cells] at hve
 obtain ⟨⟨rfl,rfl⟩,rfl,rfl⟩:=hve
 obtain ⟨h1,h2,⟨h3,h4⟩,h5,h6,h7,h8⟩:=hL
 simp only[TypeP.cells] at hf hca hm hcc h1 h2 h3 h4 h5 h6 h7 h8 ⊢
 have hnm:=(type_small h1).2
 have HF:=hid hf
 have HM:=hid hm
 have H6:=hid h6
 have H8:=hid h8
 have HA:Hid (∀ o,Below w.heap.size w (w.alloc o)):=hid fun o=>(Below.refl _ _).alloc (Nat.le_refl _) o
 have hbn:((by_.toNat:Nat):Int)=by_:=Int.toNat_of_nonneg h3
 have CD:Hid (∀ w,Calls Tryz.prog 76 #[.int .i64 by_] w fun e w'=>e=.returned (.string (decB by_))∧Below w.heap.size w w'):=hid fun w=>by
  have:=specDec by_.toNat (by omega) w
  rwa [hbn] at this
 have hds:=dec_size h3 h4
 have HT:Hid (lineT ⟨nm,kd,by_,fs,ms⟩=((((kindW kd++nm)++(if kd=1 then cB [32]++decB by_ else ByteArray.empty))++fieldsT fs)++memsT ms)++cB [10]):=hid rfl
 generalize hLT:lineT ⟨nm,kd,by_,fs,ms⟩=LT at *
 have hk0:=heap_alloc_new w (.cells #[.string nm,.int .i64 kd,.int .i64 by_,.slice a fs.length ca,.slice c ms.length cc] 77)
 clear hf hm hk h6 h8 hLT h1 hbn
 go_enter Tryz.func52,Tryz.ntmps52
 go_upto_region 1 with fail
 go_cut [3] from 7 to 14 (fun v wx=>v=.string (kindW kd++nm)∧wx.heap[w.heap.size]?=some (.cells #[.string nm,.int .i64 kd,.int .i64 by_,.slice a fs.length ca,.slice c ms.length cc] 77 (0,0))∧Below w.heap.size w wx)
 case first =>
  rcases h2 with h2|h2|h2
  all_goals
   subst h2
   go_region
   go_wp2_with fail
   go_meet
   exact⟨rfl,(Go.Deep.blk_alloc_lt _ _ _ (by simp)).trans hk0,((HA.out _).alloc (by simp) _).drew⟩
 case rest =>
  obtain ⟨rfl,hk1,hb1⟩:=hcut
  have HB1:=hid hb1
  have hw0:(kindW kd).size≤5:=by unfold kindW;split <;> (try split) <;> simp[cB_size]
  obtain ⟨T0,hT0⟩:∃ T,kindW kd++nm=T:=⟨_,rfl⟩
  have hT0s:T0.size≤13:=by rw[←hT0,ByteArray.size_append];omega
  rw[hT0] at HT ⊢
  have ⟨⟨y0,y1,y2,y3,y4⟩,_⟩:=keep5 hk1
  clear hT0 hw0 hk0 hb1
  have hm1:(kd=1∧¬ (kd=2∨kd=3))∨¬ kd=1:=by omega
  rcases hm1 with ⟨h1,_⟩|h1
  ·have h1b:(kd == 1)=true:=by rw[h1];rfl
   rw[if_pos h1] at HT
   have H1:=hid h1
   clear h1 h2
   have s1:¬ 9223372036854775807<T0.size+1:=by omega
   have s2:¬ 9223372036854775807<T0.size+1+(decB by_).size:=by omega
   have HT1:Hid (LT=((((T0++⟨#[32]⟩)++decB by_)++fieldsT fs)++memsT ms)++cB [10]):=hid (by
    rw[HT.out];simp only[ByteArray.append_assoc];rfl)
   go_wp2_with (go_at_call 76;refine(CD.out _).mono ?_;rintro e w2 ⟨rfl,hb2⟩;have hk2:=(hb2.block w.heap.size (lt_of_get hk1)).trans hk1;have HB2:=hid (HB1.out.trans (hb2.mono HB1.out.size)))
   obtain ⟨T1,hT1⟩:∃ T,(T0++⟨#[32]⟩)++decB by_=T:=⟨_,rfl⟩
   have hT1s:T1.size≤20:=by
    rw[←hT1];simp[ByteArray.size_append];have e:∀ l:Array UInt8,(⟨l⟩:ByteArray).size=l.size:=fun _=>rfl;simp only[e];simp;omega
   rw[hT1] at HT1 ⊢
   clear hT1 hb2 hk1 y0 y1 y2 y3 y4 s1 s2
   go_loopw [3,4] (fun v i wr=>∃ (i':Nat) (T:ByteArray),i'≤fs.length∧v=.string T∧i=.int .i64 i'∧Hid (T++fieldsT (fs.drop i')=T1++fieldsT fs)∧T.size≤20+25 * i'∧wr.heap[w.heap.size]?=some (.cells #[.string nm,.int .i64 kd,.int .i64 by_,.slice a fs.length ca,.slice c ms.length cc] 77 (0,0))∧Below w.heap.size w wr) (fun _ i _=>fs.length - (intOf i).toNat)
   case atStart=>exact⟨0,T1,by omega,rfl,rfl,hid (by rw[List.drop_zero]),by omega,hk2,HB2.out⟩
   case round =>
    obtain ⟨i,T,hi,rfl,rfl,hT,hTs,hkr,hb⟩:=hrel
    clear hk2
    have HBR:=hid hb
    have ⟨⟨y0,y1,y2,y3,y4⟩,_⟩:=keep5 hkr
    by_cases hlt:i<fs.length
    ·have hli:(i:Int)<(fs.length:Int):=by omega
     obtain ⟨f,fb,off,hd,rfl,hAb,hbb,hok,hc⟩:=(HF.out.below fieldLies (Nat.le_refl _) (hb.mono hB)).at hlt
     obtain ⟨c0,c1,c2,c3,c4,c5⟩:=row6 hc
     have hfo:=H6.out f (List.mem_iff_getElem?.2 ⟨i,hd⟩)
     have hst:=hid (fieldsT_drop hd)
     have hfs:=field_size hfo
     have hn1:=(word_small hfo.word).2
     have hn2:=(type_small hfo.typ).2
     have hsz:=sized_cases hfo.sized
     have hlr:=lt_of_get hkr
     have HAR:Hid (∀ o,Below w.heap.size w (wr.alloc o)):=hid fun o=>HBR.out.alloc HBR.out.size o
     have HKR:Hid (∀ o,(wr.alloc o).heap[w.heap.size]?=some (.cells #[.string nm,.int .i64 kd,.int .i64 by_,.slice (some ⟨fb,off,none⟩) fs.length ca,.slice c ms.length cc] 77 (0,0))):=hid fun o=>(Go.Deep.blk_alloc_lt _ _ _ hlr).trans hkr
     have HNR:Hid (∀ o,(wr.alloc o).heap[wr.heap.size]?=some o):=hid fun o=>heap_alloc_new wr o
     have HFT:=hid (show fieldT f=(((cB [32]++f.name)++cB [58])++f.typ)++tailT f from rfl)
     have HTT:=hid (show tailT f=((if f.list=true∧f.cap=0 then (cB [91]++decB f.size)++cB [93] else ByteArray.empty)++(if f.list=true∧0<f.cap then (cB [91,60]++decB f.cap)++cB [93] else ByteArray.empty))++(if f.must=true then cB [33] else ByteArray.empty) from rfl)
     generalize fieldT f=fT at *
     generalize tailT f=tT at *
     obtain ⟨fn,ft,fl,fm,fz,fc⟩:=f
     simp only at c0 c1 c2 c3 c4 c5 hn1 hn2 hsz HTT HFT
     have s1:¬ 9223372036854775807<T.size+1:=by omega
     have s2:¬ 9223372036854775807<T.size+1+fn.size:=by omega
     have s3:¬ 9223372036854775807<T.size+1+fn.size+1:=by omega
     have s4:¬ 9223372036854775807<T.size+1+fn.size+1+ft.size:=by omega
     clear hd hb hok hc hfo hlt
     cases fm
     ·rcases hsz with hsz|hsz|hsz
      ·obtain ⟨rfl,rfl,rfl⟩:=hsz
       have hnew:Hid (((((T++⟨#[32]⟩)++fn)++⟨#[58]⟩)++ft)++fieldsT (fs.drop (i+1))=T1++fieldsT fs):=hid (by
        rw[←hT.out,hst.out,HFT.out,HTT.out,if_neg (by simp),if_neg (by simp),if_neg (by simp)]
        simp only[ByteArray.append_assoc,ByteArray.append_empty]
        rfl)
       have hnsz:Hid (((((T++⟨#[32]⟩)++fn)++⟨#[58]⟩)++ft).size≤20+25 * (i+1)):=hid (by simp[ByteArray.size_append];have e:∀ l:Array UInt8,(⟨l⟩:ByteArray).size=l.size:=fun _=>rfl;simp only[e];simp;omega)
       go_wp2_with fail
       go_roundw
       case rel=>exact⟨i+1,_,by omega,rfl,by go_num,hnew,hnsz.out,HKR.out _,HAR.out _⟩
       case measure=>simp[intOf];omega
      ·obtain ⟨rfl,rfl,z1,z2⟩:=hsz
       have hzn:((fz.toNat:Nat):Int)=fz:=Int.toNat_of_nonneg z1
       have CZ:Hid (∀ w,Calls Tryz.prog 76 #[.int .i64 fz] w fun e w'=>e=.returned (.string (decB fz))∧Below w.heap.size w w'):=hid fun w=>by
        have:=specDec fz.toNat (by omega) w
        rwa [hzn] at this
       have hdz:=dec_size z1 z2
       have s5:¬ 9223372036854775807<T.size+1+fn.size+1+ft.size+1:=by omega
       have s6:¬ 9223372036854775807<T.size+1+fn.size+1+ft.size+1+(decB fz).size:=by omega
       have s7:¬ 9223372036854775807<T.size+1+fn.size+1+ft.size+1+(decB fz).size+1:=by omega
       clear hzn
       have hnew:Hid (((((((T++⟨#[32]⟩)++fn)++⟨#[58]⟩)++ft)++⟨#[91]⟩++decB fz)++⟨#[93]⟩)++fieldsT (fs.drop (i+1))=T1++fieldsT fs):=hid (by
        rw[←hT.out,hst.out,HFT.out,HTT.out,if_pos ⟨rfl,rfl⟩,if_neg (by simp),if_neg (by simp)]
        simp only[ByteArray.append_assoc,ByteArray.append_empty]
        rfl)
       have hnsz:Hid (((((((T++⟨#[32]⟩)++fn)++⟨#[58]⟩)++ft)++⟨#[91]⟩++decB fz)++⟨#[93]⟩).size≤20+25 * (i+1)):=hid (by simp[ByteArray.size_append];have e:∀ l:Array UInt8,(⟨l⟩:ByteArray).size=l.size:=fun _=>rfl;simp only[e];simp;omega)
       go_wp2_with (go_at_call 76;refine(CZ.out _).mono ?_;rintro e w3 ⟨rfl,hb3⟩;have hk3:=(hb3.block w.heap.size (by simp;omega)).trans (HKR.out _);have hn3:=(hb3.block wr.heap.size (by simp)).trans (HNR.out _);have HB3:=hid ((HAR.out _).trans (hb3.mono (HAR.out _).size));have ⟨⟨q0,q1,q2,q3,q4,q5⟩,_⟩:=keep6 hn3;clear hb3)
       go_roundw
       case rel=>exact⟨i+1,_,by omega,rfl,by go_num,hnew,hnsz.out,hk3,HB3.out⟩
       case measure=>simp[intOf];omega
      ·obtain ⟨rfl,rfl,z1,z2⟩:=hsz
       have hzn:((fc.toNat:Nat):Int)=fc:=Int.toNat_of_nonneg (by omega)
       have CZ:Hid (∀ w,Calls Tryz.prog 76 #[.int .i64 fc] w fun e w'=>e=.returned (.string (decB fc))∧Below w.heap.size w w'):=hid fun w=>by
        have:=specDec fc.toNat (by omega) w
        rwa [hzn] at this
       have hdz:=dec_size (show 0≤fc by omega) z2
       have z3:0<fc:=by omega
       have z4:(fc == 0)=false:=by rw[beq_eq_false_iff_ne];omega
       have z5:decide (0<fc)=true:=decide_eq_true z3
       have hne:=hid (show ¬ fc=0 by omega)
       have s5:¬ 9223372036854775807<T.size+1+fn.size+1+ft.size+2:=by omega
       have s6:¬ 9223372036854775807<T.size+1+fn.size+1+ft.size+2+(decB fc).size:=by omega
       have s7:¬ 9223372036854775807<T.size+1+fn.size+1+ft.size+2+(decB fc).size+1:=by omega
       clear hzn
       have hnew:Hid (((((((T++⟨#[32]⟩)++fn)++⟨#[58]⟩)++ft)++⟨#[91,60]⟩++decB fc)++⟨#[93]⟩)++fieldsT (fs.drop (i+1))=T1++fieldsT fs):=hid (by
        rw[←hT.out,hst.out,HFT.out,HTT.out,if_neg (fun h=>hne.out h.2),if_pos ⟨rfl,z3⟩,if_neg (by simp)]
        simp only[ByteArray.append_assoc,ByteArray.append_empty,ByteArray.empty_append]
        rfl)
       have hnsz:Hid (((((((T++⟨#[32]⟩)++fn)++⟨#[58]⟩)++ft)++⟨#[91,60]⟩++decB fc)++⟨#[93]⟩).size≤20+25 * (i+1)):=hid (by simp[ByteArray.size_append];have e:∀ l:Array UInt8,(⟨l⟩:ByteArray).size=l.size:=fun _=>rfl;simp only[e];simp;omega)
       go_wp2_with (go_at_call 76;refine(CZ.out _).mono ?_;rintro e w3 ⟨rfl,hb3⟩;have hk3:=(hb3.block w.heap.size (by simp;omega)).trans (HKR.out _);have hn3:=(hb3.block wr.heap.size (by simp)).trans (HNR.out _);have HB3:=hid ((HAR.out _).trans (hb3.mono (HAR.out _).size));have ⟨⟨q0,q1,q2,q3,q4,q5⟩,_⟩:=keep6 hn3;clear hb3)
       go_roundw
       case rel=>exact⟨i+1,_,by omega,rfl,by go_num,hnew,hnsz.out,hk3,HB3.out⟩
       case measure=>simp[intOf];omega
     ·rcases hsz with hsz|hsz|hsz
      ·obtain ⟨rfl,rfl,rfl⟩:=hsz
       have s8:¬ 9223372036854775807<T.size+1+fn.size+1+ft.size+1:=by omega
       have hnew:Hid ((((((T++⟨#[32]⟩)++fn)++⟨#[58]⟩)++ft)++⟨#[33]⟩)++fieldsT (fs.drop (i+1))=T1++fieldsT fs):=hid (by
        rw[←hT.out,hst.out,HFT.out,HTT.out,if_neg (by simp),if_neg (by simp),if_pos rfl]
        simp only[ByteArray.append_assoc,ByteArray.append_empty]
        rfl)
       have hnsz:Hid ((((((T++⟨#[32]⟩)++fn)++⟨#[58]⟩)++ft)++⟨#[33]⟩).size≤20+25 * (i+1)):=hid (by simp[ByteArray.size_append];have e:∀ l:Array UInt8,(⟨l⟩:ByteArray).size=l.size:=fun _=>rfl;simp only[e];simp;omega)
       go_wp2_with fail
       go_roundw
       case rel=>exact⟨i+1,_,by omega,rfl,by go_num,hnew,hnsz.out,HKR.out _,HAR.out _⟩
       case measure=>simp[intOf];omega
      ·obtain ⟨rfl,rfl,z1,z2⟩:=hsz
       have hzn:((fz.toNat:Nat):Int)=fz:=Int.toNat_of_nonneg z1
       have CZ:Hid (∀ w,Calls Tryz.prog 76 #[.int .i64 fz] w fun e w'=>e=.returned (.string (decB fz))∧Below w.heap.size w w'):=hid fun w=>by
        have:=specDec fz.toNat (by omega) w
        rwa [hzn] at this
       have hdz:=dec_size z1 z2
       have s5:¬ 9223372036854775807<T.size+1+fn.size+1+ft.size+1:=by omega
       have s6:¬ 9223372036854775807<T.size+1+fn.size+1+ft.size+1+(decB fz).size:=by omega
       have s7:¬ 9223372036854775807<T.size+1+fn.size+1+ft.size+1+(decB fz).size+1:=by omega
       clear hzn
       have s8:¬ 9223372036854775807<T.size+1+fn.size+1+ft.size+1+(decB fz).size+1+1:=by omega
       have hnew:Hid ((((((((T++⟨#[32]⟩)++fn)++⟨#[58]⟩)++ft)++⟨#[91]⟩++decB fz)++⟨#[93]⟩)++⟨#[33]⟩)++fieldsT (fs.drop (i+1))=T1++fieldsT fs):=hid (by
        rw[←hT.out,hst.out,HFT.out,HTT.out,if_pos ⟨rfl,rfl⟩,if_neg (by simp),if_pos rfl]
        simp only[ByteArray.append_assoc,ByteArray.empty_append]
        rfl)
       have hnsz:Hid ((((((((T++⟨#[32]⟩)++fn)++⟨#[58]⟩)++ft)++⟨#[91]⟩++decB fz)++⟨#[93]⟩)++⟨#[33]⟩).size≤20+25 * (i+1)):=hid (by simp[ByteArray.size_append];have e:∀ l:Array UInt8,(⟨l⟩:ByteArray).size=l.size:=fun _=>rfl;simp only[e];simp;omega)
       go_wp2_with (go_at_call 76;refine(CZ.out _).mono ?_;rintro e w3 ⟨rfl,hb3⟩;have hk3:=(hb3.block w.heap.size (by simp;omega)).trans (HKR.out _);have hn3:=(hb3.block wr.heap.size (by simp)).trans (HNR.out _);have HB3:=hid ((HAR.out _).trans (hb3.mono (HAR.out _).size));have ⟨⟨q0,q1,q2,q3,q4,q5⟩,_⟩:=keep6 hn3;clear hb3)
       go_roundw
       case rel=>exact⟨i+1,_,by omega,rfl,by go_num,hnew,hnsz.out,hk3,HB3.out⟩
       case measure=>simp[intOf];omega
      ·obtain ⟨rfl,rfl,z1,z2⟩:=hsz
       have hzn:((fc.toNat:Nat):Int)=fc:=Int.toNat_of_nonneg (by omega)
       have CZ:Hid (∀ w,Calls Tryz.prog 76 #[.int .i64 fc] w fun e w'=>e=.returned (.string (decB fc))∧Below w.heap.size w w'):=hid fun w=>by
        have:=specDec fc.toNat (by omega) w
        rwa [hzn] at this
       have hdz:=dec_size (show 0≤fc by omega) z2
       have z3:0<fc:=by omega
       have z4:(fc == 0)=false:=by rw[beq_eq_false_iff_ne];omega
       have z5:decide (0<fc)=true:=decide_eq_true z3
       have hne:=hid (show ¬ fc=0 by omega)
       have s5:¬ 9223372036854775807<T.size+1+fn.size+1+ft.size+2:=by omega
       have s6:¬ 9223372036854775807<T.size+1+fn.size+1+ft.size+2+(decB fc).size:=by omega
       have s7:¬ 9223372036854775807<T.size+1+fn.size+1+ft.size+2+(decB fc).size+1:=by omega
       clear hzn
       have s8:¬ 9223372036854775807<T.size+1+fn.size+1+ft.size+2+(decB fc).size+1+1:=by omega
       have hnew:Hid ((((((((T++⟨#[32]⟩)++fn)++⟨#[58]⟩)++ft)++⟨#[91,60]⟩++decB fc)++⟨#[93]⟩)++⟨#[33]⟩)++fieldsT (fs.drop (i+1))=T1++fieldsT fs):=hid (by
        rw[←hT.out,hst.out,HFT.out,HTT.out,if_neg (fun h=>hne.out h.2),if_pos ⟨rfl,z3⟩,if_pos rfl]
        simp only[ByteArray.append_assoc,ByteArray.empty_append]
        rfl)
       have hnsz:Hid ((((((((T++⟨#[32]⟩)++fn)++⟨#[58]⟩)++ft)++⟨#[91,60]⟩++decB fc)++⟨#[93]⟩)++⟨#[33]⟩).size≤20+25 * (i+1)):=hid (by simp[ByteArray.size_append];have e:∀ l:Array UInt8,(⟨l⟩:ByteArray).size=l.size:=fun _=>rfl;simp only[e];simp;omega)
       go_wp2_with (go_at_call 76;refine(CZ.out _).mono ?_;rintro e w3 ⟨rfl,hb3⟩;have hk3:=(hb3.block w.heap.size (by simp;omega)).trans (HKR.out _);have hn3:=(hb3.block wr.heap.size (by simp)).trans (HNR.out _);have HB3:=hid ((HAR.out _).trans (hb3.mono (HAR.out _).size));have ⟨⟨q0,q1,q2,q3,q4,q5⟩,_⟩:=keep6 hn3;clear hb3)
       go_roundw
       case rel=>exact⟨i+1,_,by omega,rfl,by go_num,hnew,hnsz.out,hk3,HB3.out⟩
       case measure=>simp[intOf];omega
    ·obtain rfl:i=fs.length:=by omega
     have hT2:Hid ((T++memsT ms)++cB [10]=LT):=hid (by rw[HT1.out,←hT.out,List.drop_length];simp[fieldsT])
     have hTs2:T.size≤220:=by omega
     clear hlt hb hT
     go_wp2_with fail
     go_loopw [3,6] (fun v i wr=>∃ (i':Nat) (U:ByteArray),i'≤ms.length∧v=.string U∧i=.int .i64 i'∧Hid (U++memsT (ms.drop i')=T++memsT ms)∧U.size≤220+9 * i'∧wr.heap[w.heap.size]?=some (.cells #[.string nm,.int .i64 kd,.int .i64 by_,.slice a fs.length ca,.slice c ms.length cc] 77 (0,0))∧Below w.heap.size w wr) (fun _ i _=>ms.length - (intOf i).toNat)
     case atStart=>exact⟨0,T,by omega,rfl,rfl,hid (by rw[List.drop_zero]),by omega,hkr,HBR.out⟩
     case round =>
      obtain ⟨i,U,hi2,rfl,rfl,hU,hUs,hk4,hb4⟩:=hrel
      have HB4:=hid hb4
      clear hkr y0 y1 y2 y3 y4
      have ⟨⟨y0,y1,y2,y3,y4⟩,_⟩:=keep5 hk4
      by_cases hlt:i<ms.length
      ·have hli:(i:Int)<(ms.length:Int):=by omega
       obtain ⟨m,mb,off,hd,rfl,hAb,hbb,hok,hc⟩:=(HM.out.below textLies (Nat.le_refl _) (hb4.mono hB)).at hlt
       rw[Nat.mul_one] at hc
       have hm8:=H8.out m (List.mem_iff_getElem?.2 ⟨i,hd⟩)
       have hnew:Hid (((U++⟨#[32]⟩)++m)++memsT (ms.drop (i+1))=T++memsT ms):=hid (by
        rw[←hU.out,memsT_drop hd]
        simp only[ByteArray.append_assoc]
        rfl)
       have s1:¬ 9223372036854775807<U.size+1:=by omega
       have s2:¬ 9223372036854775807<U.size+1+m.size:=by omega
       have hnsz:Hid (((U++⟨#[32]⟩)++m).size≤220+9 * (i+1)):=hid (by simp[ByteArray.size_append];have e:∀ l:Array UInt8,(⟨l⟩:ByteArray).size=l.size:=fun _=>rfl;simp only[e];simp;omega)
       clear hd hb4 hok hlt
       go_wp2_with fail
       go_roundw
       case rel=>exact⟨i+1,_,by omega,rfl,by go_num,hnew,hnsz.out,hk4,HB4.out⟩
       case measure=>simp[intOf];omega
      ·obtain rfl:i=ms.length:=by omega
       have hfin:Hid (U++⟨#[10]⟩=LT):=hid (by
        rw[←hT2.out,←hU.out,List.drop_length]
        simp only[memsT,ByteArray.append_empty]
        rfl)
       have s1:¬ 9223372036854775807<U.size+1:=by omega
       clear hlt hb4
       go_wp2_with fail
       go_ret
       exact⟨ret_s hfin.out,HB4.out⟩
  ·have h1b:(kd == 1)=false:=by rw[beq_eq_false_iff_ne];exact h1
   rw[if_neg h1] at HT
   have HT1:Hid (LT=((T0++fieldsT fs)++memsT ms)++cB [10]):=hid (by
    rw[HT.out];simp only[ByteArray.append_empty])
   clear h1 h2
   go_wp2_with fail
   obtain ⟨T1,hT1⟩:∃ T,T0=T:=⟨_,rfl⟩
   have hT1s:T1.size≤20:=by rw[←hT1];omega
   rw[hT1] at HT1 ⊢
   clear hT1 y0 y1 y2 y3 y4
   go_loopw [3,4] (fun v i wr=>∃ (i':Nat) (T:ByteArray),i'≤fs.length∧v=.string T∧i=.int .i64 i'∧Hid (T++fieldsT (fs.drop i')=T1++fieldsT fs)∧T.size≤20+25 * i'∧wr.heap[w.heap.size]?=some (.cells #[.string nm,.int .i64 kd,.int .i64 by_,.slice a fs.length ca,.slice c ms.length cc] 77 (0,0))∧Below w.heap.size w wr) (fun _ i _=>fs.length - (intOf i).toNat)
   case atStart=>exact⟨0,T1,by omega,rfl,rfl,hid (by rw[List.drop_zero]),by omega,hk1,HB1.out⟩
   case round =>
    obtain ⟨i,T,hi,rfl,rfl,hT,hTs,hkr,hb⟩:=hrel
    clear hk1
    have HBR:=hid hb
    have ⟨⟨y0,y1,y2,y3,y4⟩,_⟩:=keep5 hkr
    by_cases hlt:i<fs.length
    ·have hli:(i:Int)<(fs.length:Int):=by omega
     obtain ⟨f,fb,off,hd,rfl,hAb,hbb,hok,hc⟩:=(HF.out.below fieldLies (Nat.le_refl _) (hb.mono hB)).at hlt
     obtain ⟨c0,c1,c2,c3,c4,c5⟩:=row6 hc
     have hfo:=H6.out f (List.mem_iff_getElem?.2 ⟨i,hd⟩)
     have hst:=hid (fieldsT_drop hd)
     have hfs:=field_size hfo
     have hn1:=(word_small hfo.word).2
     have hn2:=(type_small hfo.typ).2
     have hsz:=sized_cases hfo.sized
     have hlr:=lt_of_get hkr
     have HAR:Hid (∀ o,Below w.heap.size w (wr.alloc o)):=hid fun o=>HBR.out.alloc HBR.out.size o
     have HKR:Hid (∀ o,(wr.alloc o).heap[w.heap.size]?=some (.cells #[.string nm,.int .i64 kd,.int .i64 by_,.slice (some ⟨fb,off,none⟩) fs.length ca,.slice c ms.length cc] 77 (0,0))):=hid fun o=>(Go.Deep.blk_alloc_lt _ _ _ hlr).trans hkr
     have HNR:Hid (∀ o,(wr.alloc o).heap[wr.heap.size]?=some o):=hid fun o=>heap_alloc_new wr o
     have HFT:=hid (show fieldT f=(((cB [32]++f.name)++cB [58])++f.typ)++tailT f from rfl)
     have HTT:=hid (show tailT f=((if f.list=true∧f.cap=0 then (cB [91]++decB f.size)++cB [93] else ByteArray.empty)++(if f.list=true∧0<f.cap then (cB [91,60]++decB f.cap)++cB [93] else ByteArray.empty))++(if f.must=true then cB [33] else ByteArray.empty) from rfl)
     generalize fieldT f=fT at *
     generalize tailT f=tT at *
     obtain ⟨fn,ft,fl,fm,fz,fc⟩:=f
     simp only at c0 c1 c2 c3 c4 c5 hn1 hn2 hsz HTT HFT
     have s1:¬ 9223372036854775807<T.size+1:=by omega
     have s2:¬ 9223372036854775807<T.size+1+fn.size:=by omega
     have s3:¬ 9223372036854775807<T.size+1+fn.size+1:=by omega
     have s4:¬ 9223372036854775807<T.size+1+fn.size+1+ft.size:=by omega
     clear hd hb hok hc hfo hlt
     cases fm
     ·rcases hsz with hsz|hsz|hsz
      ·obtain ⟨rfl,rfl,rfl⟩:=hsz
       have hnew:Hid (((((T++⟨#[32]⟩)++fn)++⟨#[58]⟩)++ft)++fieldsT (fs.drop (i+1))=T1++fieldsT fs):=hid (by
        rw[←hT.out,hst.out,HFT.out,HTT.out,if_neg (by simp),if_neg (by simp),if_neg (by simp)]
        simp only[ByteArray.append_assoc,ByteArray.append_empty]
        rfl)
       have hnsz:Hid (((((T++⟨#[32]⟩)++fn)++⟨#[58]⟩)++ft).size≤20+25 * (i+1)):=hid (by simp[ByteArray.size_append];have e:∀ l:Array UInt8,(⟨l⟩:ByteArray).size=l.size:=fun _=>rfl;simp only[e];simp;omega)
       go_wp2_with fail
       go_roundw
       case rel=>exact⟨i+1,_,by omega,rfl,by go_num,hnew,hnsz.out,HKR.out _,HAR.out _⟩
       case measure=>simp[intOf];omega
      ·obtain ⟨rfl,rfl,z1,z2⟩:=hsz
       have hzn:((fz.toNat:Nat):Int)=fz:=Int.toNat_of_nonneg z1
       have CZ:Hid (∀ w,Calls Tryz.prog 76 #[.int .i64 fz] w fun e w'=>e=.returned (.string (decB fz))∧Below w.heap.size w w'):=hid fun w=>by
        have:=specDec fz.toNat (by omega) w
        rwa [hzn] at this
       have hdz:=dec_size z1 z2
       have s5:¬ 9223372036854775807<T.size+1+fn.size+1+ft.size+1:=by omega
       have s6:¬ 9223372036854775807<T.size+1+fn.size+1+ft.size+1+(decB fz).size:=by omega
       have s7:¬ 9223372036854775807<T.size+1+fn.size+1+ft.size+1+(decB fz).size+1:=by omega
       clear hzn
       have hnew:Hid (((((((T++⟨#[32]⟩)++fn)++⟨#[58]⟩)++ft)++⟨#[91]⟩++decB fz)++⟨#[93]⟩)++fieldsT (fs.drop (i+1))=T1++fieldsT fs):=hid (by
        rw[←hT.out,hst.out,HFT.out,HTT.out,if_pos ⟨rfl,rfl⟩,if_neg (by simp),if_neg (by simp)]
        simp only[ByteArray.append_assoc,ByteArray.append_empty]
        rfl)
       have hnsz:Hid (((((((T++⟨#[32]⟩)++fn)++⟨#[58]⟩)++ft)++⟨#[91]⟩++decB fz)++⟨#[93]⟩).size≤20+25 * (i+1)):=hid (by simp[ByteArray.size_append];have e:∀ l:Array UInt8,(⟨l⟩:ByteArray).size=l.size:=fun _=>rfl;simp only[e];simp;omega)
       go_wp2_with (go_at_call 76;refine(CZ.out _).mono ?_;rintro e w3 ⟨rfl,hb3⟩;have hk3:=(hb3.block w.heap.size (by simp;omega)).trans (HKR.out _);have hn3:=(hb3.block wr.heap.size (by simp)).trans (HNR.out _);have HB3:=hid ((HAR.out _).trans (hb3.mono (HAR.out _).size));have ⟨⟨q0,q1,q2,q3,q4,q5⟩,_⟩:=keep6 hn3;clear hb3)
       go_roundw
       case rel=>exact⟨i+1,_,by omega,rfl,by go_num,hnew,hnsz.out,hk3,HB3.out⟩
       case measure=>simp[intOf];omega
      ·obtain ⟨rfl,rfl,z1,z2⟩:=hsz
       have hzn:((fc.toNat:Nat):Int)=fc:=Int.toNat_of_nonneg (by omega)
       have CZ:Hid (∀ w,Calls Tryz.prog 76 #[.int .i64 fc] w fun e w'=>e=.returned (.string (decB fc))∧Below w.heap.size w w'):=hid fun w=>by
        have:=specDec fc.toNat (by omega) w
        rwa [hzn] at this
       have hdz:=dec_size (show 0≤fc by omega) z2
       have z3:0<fc:=by omega
       have z4:(fc == 0)=false:=by rw[beq_eq_false_iff_ne];omega
       have z5:decide (0<fc)=true:=decide_eq_true z3
       have hne:=hid (show ¬ fc=0 by omega)
       have s5:¬ 9223372036854775807<T.size+1+fn.size+1+ft.size+2:=by omega
       have s6:¬ 9223372036854775807<T.size+1+fn.size+1+ft.size+2+(decB fc).size:=by omega
       have s7:¬ 9223372036854775807<T.size+1+fn.size+1+ft.size+2+(decB fc).size+1:=by omega
       clear hzn
       have hnew:Hid (((((((T++⟨#[32]⟩)++fn)++⟨#[58]⟩)++ft)++⟨#[91,60]⟩++decB fc)++⟨#[93]⟩)++fieldsT (fs.drop (i+1))=T1++fieldsT fs):=hid (by
        rw[←hT.out,hst.out,HFT.out,HTT.out,if_neg (fun h=>hne.out h.2),if_pos ⟨rfl,z3⟩,if_neg (by simp)]
        simp only[ByteArray.append_assoc,ByteArray.append_empty,ByteArray.empty_append]
        rfl)
       have hnsz:Hid (((((((T++⟨#[32]⟩)++fn)++⟨#[58]⟩)++ft)++⟨#[91,60]⟩++decB fc)++⟨#[93]⟩).size≤20+25 * (i+1)):=hid (by simp[ByteArray.size_append];have e:∀ l:Array UInt8,(⟨l⟩:ByteArray).size=l.size:=fun _=>rfl;simp only[e];simp;omega)
       go_wp2_with (go_at_call 76;refine(CZ.out _).mono ?_;rintro e w3 ⟨rfl,hb3⟩;have hk3:=(hb3.block w.heap.size (by simp;omega)).trans (HKR.out _);have hn3:=(hb3.block wr.heap.size (by simp)).trans (HNR.out _);have HB3:=hid ((HAR.out _).trans (hb3.mono (HAR.out _).size));have ⟨⟨q0,q1,q2,q3,q4,q5⟩,_⟩:=keep6 hn3;clear hb3)
       go_roundw
       case rel=>exact⟨i+1,_,by omega,rfl,by go_num,hnew,hnsz.out,hk3,HB3.out⟩
       case measure=>simp[intOf];omega
     ·rcases hsz with hsz|hsz|hsz
      ·obtain ⟨rfl,rfl,rfl⟩:=hsz
       have s8:¬ 9223372036854775807<T.size+1+fn.size+1+ft.size+1:=by omega
       have hnew:Hid ((((((T++⟨#[32]⟩)++fn)++⟨#[58]⟩)++ft)++⟨#[33]⟩)++fieldsT (fs.drop (i+1))=T1++fieldsT fs):=hid (by
        rw[←hT.out,hst.out,HFT.out,HTT.out,if_neg (by simp),if_neg (by simp),if_pos rfl]
        simp only[ByteArray.append_assoc,ByteArray.append_empty]
        rfl)
       have hnsz:Hid ((((((T++⟨#[32]⟩)++fn)++⟨#[58]⟩)++ft)++⟨#[33]⟩).size≤20+25 * (i+1)):=hid (by simp[ByteArray.size_append];have e:∀ l:Array UInt8,(⟨l⟩:ByteArray).size=l.size:=fun _=>rfl;simp only[e];simp;omega)
       go_wp2_with fail
       go_roundw
       case rel=>exact⟨i+1,_,by omega,rfl,by go_num,hnew,hnsz.out,HKR.out _,HAR.out _⟩
       case measure=>simp[intOf];omega
      ·obtain ⟨rfl,rfl,z1,z2⟩:=hsz
       have hzn:((fz.toNat:Nat):Int)=fz:=Int.toNat_of_nonneg z1
       have CZ:Hid (∀ w,Calls Tryz.prog 76 #[.int .i64 fz] w fun e w'=>e=.returned (.string (decB fz))∧Below w.heap.size w w'):=hid fun w=>by
        have:=specDec fz.toNat (by omega) w
        rwa [hzn] at this
       have hdz:=dec_size z1 z2
       have s5:¬ 9223372036854775807<T.size+1+fn.size+1+ft.size+1:=by omega
       have s6:¬ 9223372036854775807<T.size+1+fn.size+1+ft.size+1+(decB fz).size:=by omega
       have s7:¬ 9223372036854775807<T.size+1+fn.size+1+ft.size+1+(decB fz).size+1:=by omega
       clear hzn
       have s8:¬ 9223372036854775807<T.size+1+fn.size+1+ft.size+1+(decB fz).size+1+1:=by omega
       have hnew:Hid ((((((((T++⟨#[32]⟩)++fn)++⟨#[58]⟩)++ft)++⟨#[91]⟩++decB fz)++⟨#[93]⟩)++⟨#[33]⟩)++fieldsT (fs.drop (i+1))=T1++fieldsT fs):=hid (by
        rw[←hT.out,hst.out,HFT.out,HTT.out,if_pos ⟨rfl,rfl⟩,if_neg (by simp),if_pos rfl]
        simp only[ByteArray.append_assoc,ByteArray.empty_append]
        rfl)
       have hnsz:Hid ((((((((T++⟨#[32]⟩)++fn)++⟨#[58]⟩)++ft)++⟨#[91]⟩++decB fz)++⟨#[93]⟩)++⟨#[33]⟩).size≤20+25 * (i+1)):=hid (by simp[ByteArray.size_append];have e:∀ l:Array UInt8,(⟨l⟩:ByteArray).size=l.size:=fun _=>rfl;simp only[e];simp;omega)
       go_wp2_with (go_at_call 76;refine(CZ.out _).mono ?_;rintro e w3 ⟨rfl,hb3⟩;have hk3:=(hb3.block w.heap.size (by simp;omega)).trans (HKR.out _);have hn3:=(hb3.block wr.heap.size (by simp)).trans (HNR.out _);have HB3:=hid ((HAR.out _).trans (hb3.mono (HAR.out _).size));have ⟨⟨q0,q1,q2,q3,q4,q5⟩,_⟩:=keep6 hn3;clear hb3)
       go_roundw
       case rel=>exact⟨i+1,_,by omega,rfl,by go_num,hnew,hnsz.out,hk3,HB3.out⟩
       case measure=>simp[intOf];omega
      ·obtain ⟨rfl,rfl,z1,z2⟩:=hsz
       have hzn:((fc.toNat:Nat):Int)=fc:=Int.toNat_of_nonneg (by omega)
       have CZ:Hid (∀ w,Calls Tryz.prog 76 #[.int .i64 fc] w fun e w'=>e=.returned (.string (decB fc))∧Below w.heap.size w w'):=hid fun w=>by
        have:=specDec fc.toNat (by omega) w
        rwa [hzn] at this
       have hdz:=dec_size (show 0≤fc by omega) z2
       have z3:0<fc:=by omega
       have z4:(fc == 0)=false:=by rw[beq_eq_false_iff_ne];omega
       have z5:decide (0<fc)=true:=decide_eq_true z3
       have hne:=hid (show ¬ fc=0 by omega)
       have s5:¬ 9223372036854775807<T.size+1+fn.size+1+ft.size+2:=by omega
       have s6:¬ 9223372036854775807<T.size+1+fn.size+1+ft.size+2+(decB fc).size:=by omega
       have s7:¬ 9223372036854775807<T.size+1+fn.size+1+ft.size+2+(decB fc).size+1:=by omega
       clear hzn
       have s8:¬ 9223372036854775807<T.size+1+fn.size+1+ft.size+2+(decB fc).size+1+1:=by omega
       have hnew:Hid ((((((((T++⟨#[32]⟩)++fn)++⟨#[58]⟩)++ft)++⟨#[91,60]⟩++decB fc)++⟨#[93]⟩)++⟨#[33]⟩)++fieldsT (fs.drop (i+1))=T1++fieldsT fs):=hid (by
        rw[←hT.out,hst.out,HFT.out,HTT.out,if_neg (fun h=>hne.out h.2),if_pos ⟨rfl,z3⟩,if_pos rfl]
        simp only[ByteArray.append_assoc,ByteArray.empty_append]
        rfl)
       have hnsz:Hid ((((((((T++⟨#[32]⟩)++fn)++⟨#[58]⟩)++ft)++⟨#[91,60]⟩++decB fc)++⟨#[93]⟩)++⟨#[33]⟩).size≤20+25 * (i+1)):=hid (by simp[ByteArray.size_append];have e:∀ l:Array UInt8,(⟨l⟩:ByteArray).size=l.size:=fun _=>rfl;simp only[e];simp;omega)
       go_wp2_with (go_at_call 76;refine(CZ.out _).mono ?_;rintro e w3 ⟨rfl,hb3⟩;have hk3:=(hb3.block w.heap.size (by simp;omega)).trans (HKR.out _);have hn3:=(hb3.block wr.heap.size (by simp)).trans (HNR.out _);have HB3:=hid ((HAR.out _).trans (hb3.mono (HAR.out _).size));have ⟨⟨q0,q1,q2,q3,q4,q5⟩,_⟩:=keep6 hn3;clear hb3)
       go_roundw
       case rel=>exact⟨i+1,_,by omega,rfl,by go_num,hnew,hnsz.out,hk3,HB3.out⟩
       case measure=>simp[intOf];omega
    ·obtain rfl:i=fs.length:=by omega
     have hT2:Hid ((T++memsT ms)++cB [10]=LT):=hid (by rw[HT1.out,←hT.out,List.drop_length];simp[fieldsT])
     have hTs2:T.size≤220:=by omega
     clear hlt hb hT
     go_wp2_with fail
     go_loopw [3,6] (fun v i wr=>∃ (i':Nat) (U:ByteArray),i'≤ms.length∧v=.string U∧i=.int .i64 i'∧Hid (U++memsT (ms.drop i')=T++memsT ms)∧U.size≤220+9 * i'∧wr.heap[w.heap.size]?=some (.cells #[.string nm,.int .i64 kd,.int .i64 by_,.slice a fs.length ca,.slice c ms.length cc] 77 (0,0))∧Below w.heap.size w wr) (fun _ i _=>ms.length - (intOf i).toNat)
     case atStart=>exact⟨0,T,by omega,rfl,rfl,hid (by rw[List.drop_zero]),by omega,hkr,HBR.out⟩
     case round =>
      obtain ⟨i,U,hi2,rfl,rfl,hU,hUs,hk4,hb4⟩:=hrel
      have HB4:=hid hb4
      clear hkr y0 y1 y2 y3 y4
      have ⟨⟨y0,y1,y2,y3,y4⟩,_⟩:=keep5 hk4
      by_cases hlt:i<ms.length
      ·have hli:(i:Int)<(ms.length:Int):=by omega
       obtain ⟨m,mb,off,hd,rfl,hAb,hbb,hok,hc⟩:=(HM.out.below textLies (Nat.le_refl _) (hb4.mono hB)).at hlt
       rw[Nat.mul_one] at hc
       have hm8:=H8.out m (List.mem_iff_getElem?.2 ⟨i,hd⟩)
       have hnew:Hid (((U++⟨#[32]⟩)++m)++memsT (ms.drop (i+1))=T++memsT ms):=hid (by
        rw[←hU.out,memsT_drop hd]
        simp only[ByteArray.append_assoc]
        rfl)
       have s1:¬ 9223372036854775807<U.size+1:=by omega
       have s2:¬ 9223372036854775807<U.size+1+m.size:=by omega
       have hnsz:Hid (((U++⟨#[32]⟩)++m).size≤220+9 * (i+1)):=hid (by simp[ByteArray.size_append];have e:∀ l:Array UInt8,(⟨l⟩:ByteArray).size=l.size:=fun _=>rfl;simp only[e];simp;omega)
       clear hd hb4 hok hlt
       go_wp2_with fail
       go_roundw
       case rel=>exact⟨i+1,_,by omega,rfl,by go_num,hnew,hnsz.out,hk4,HB4.out⟩
       case measure=>simp[intOf];omega
      ·obtain rfl:i=ms.length:=by omega
       have hfin:Hid (U++⟨#[10]⟩=LT):=hid (by
        rw[←hT2.out,←hU.out,List.drop_length]
        simp only[memsT,ByteArray.append_empty]
        rfl)
       have s1:¬ 9223372036854775807<U.size+1:=by omega
       clear hlt hb4
       go_wp2_with fail
       go_ret
       exact⟨ret_s hfin.out,HB4.out⟩
end Go.Proofs.YtmembhpoidcmlaaGreatDoor.Rw
namespace Go.Proofs.YtmembhpoidcmlaaGreatDoor.Rw
open Lib (hid)
open Go.RowKit Words Decs Texts Bytes
set_option linter.unusedVariables false
set_option maxRecDepth 100000
theorem app_string{w:World}{ops:Array Oper}{rest:List Oper}{o:Oper}{a:Act}{Q:Exit→Act→World→Prop}(hgd:o.guard=none)(s x:Operand)
  (ho:o.op=.call { callee:=.builtin .append,args:=#[s,x],argTypes:=#[22,9] })
  (base:Nat) (v:Value) (l:List UInt8) (hs:a.eval s=v) (hown:OwnB w base v l) (y:ByteArray) (hx:a.eval x=.string y)
  (hsize:l.length+y.size≤140737488351232) (hbase:base≤w.heap.size)
  (h:∀ a' n' c' w',OwnB w' base (.slice a' n' c') (l++y.data.toList)→Below base w w'→wpList Tryz.prog ops Q rest (a.put o.dst (.slice a' n' c')) w'):wpList Tryz.prog ops Q (o::rest) a w:=by
 obtain ⟨i0,hi,hz0,hz1,hz2⟩:=info_parts info5
 refine Lib.wpList_append_own_string w hgd s x 22 9 ho base 5 i0 Tryz.underlying22 Tryz.underlying9 hi hz0 hz1 hz2 v l.length (Lib.byteCells l) hs hown y hx (by unfold maxLen;omega) (by omega) hbase fun v' w' hown' hgrow _=>?_
 obtain ⟨a',c',rfl⟩:∃ a' c',v'=.slice a' (l.length+y.size) c':=by
  obtain ⟨_,⟨rfl,h0⟩|⟨g,cap,cur,rfl,_⟩⟩:=hown'
  ·exact⟨none,0,by rw[h0]⟩
  ·exact⟨_,_,rfl⟩
 refine h a' _ c' w' ?_ ((Below.refl base w).grown hgrow hbase (fun k hk=>(World.ownsRow.lt hown k hk).1))
 unfold OwnB
 rw[List.length_append,Lib.byteCells_append,Array.length_toList]
 exact hown'
theorem line_size{s:List TypeP}{x:TypeP}(h:LineOk s x):(lineT x).size≤280:=by
 have h1:=(type_small h.nm).2
 have h2:=dec_size h.bytes.1 h.bytes.2
 have hf:∀ l:List FieldP,(∀ f∈l,FieldOk s f)→(fieldsT l).size≤25 * l.length:=by
  intro l
  induction l with
  | nil=>intro _;simp[fieldsT]
  | cons f l ih =>
   intro hl
   have e1:=field_size (hl f (by simp))
   have e2:=ih fun g hg=>hl g (by simp[hg])
   simp only[fieldsT,ByteArray.size_append,List.length_cons];omega
 have hm:∀ l:List ByteArray,(∀ m∈l,m.size≤8)→(memsT l).size≤9 * l.length:=by
  intro l
  induction l with
  | nil=>intro _;simp[memsT]
  | cons m l ih =>
   intro hl
   have e1:=hl m (by simp)
   have e2:=ih fun g hg=>hl g (by simp[hg])
   simp only[memsT,ByteArray.size_append,List.length_cons,cB_size,List.length_nil];omega
 have e1:=hf x.fields h.each
 have e2:=hm x.members h.eachM
 have e3:=h.few
 have e4:=h.fewM
 have e5:(kindW x.kind).size≤5:=by unfold kindW;split <;> (try split) <;> simp[cB_size]
 have e6:(if x.kind=1 then cB [32]++decB x.bytes else ByteArray.empty).size≤4:=by split <;> simp[ByteArray.size_append,cB_size];omega
 unfold lineT headT
 simp only[ByteArray.size_append,cB_size,List.length_cons,List.length_nil]
 omega
theorem part_fewM{s:List TypeP}{x:TypeP}(h:partB s x=true):x.members.length≤5:=by
 by_cases hk:x.kind=3
 ·unfold partB oneTB at h
  rw[if_neg (by omega),if_neg (by omega),if_pos hk] at h
  simp only[Bool.and_eq_true,decide_eq_true_eq] at h
  exact h.2.2
 ·rw[part_members h hk];simp
theorem membersAll_iff(s:List TypeP)(l:List ByteArray):∀ (r:List ByteArray) (i:Nat),membersAll s l r i=true↔∀ (j:Nat) (x:ByteArray),r[j]?=some x→memberB s l (i+j) x=true
 | [],i=>by simp[membersAll]
 | y::r,i=>by
  rw[membersAll,Bool.and_eq_true,membersAll_iff s l r (i+1)]
  constructor
  ·rintro⟨h1,h2⟩ j x hx
   cases j with
   | zero=>cases hx;simpa using h1
   | succ j=>have:=h2 j x (by simpa using hx);rwa [show i+(j+1)=i+1+j by omega]
  ·intro h
   exact⟨by simpa using h 0 y rfl,fun j x hx=>by have:=h (j+1) x (by simpa using hx);rwa [show i+1+j=i+(j+1) by omega]⟩
theorem part_member{s:List TypeP}{x:TypeP}(h:partB s x=true){m:ByteArray}(hm:m∈x.members):(typeIn m s).kind=2:=by
 by_cases hk:x.kind=3
 ·unfold partB oneTB at h
  rw[if_neg (by omega),if_neg (by omega),if_pos hk] at h
  simp only[Bool.and_eq_true] at h
  obtain ⟨i,hi⟩:=List.mem_iff_getElem?.1 hm
  have:=(membersAll_iff s x.members x.members 0).1 h.1 i m hi
  unfold memberB at this
  simp only[Bool.and_eq_true,beq_iff_eq] at this
  exact this.1
 ·rw[part_members h hk] at hm;cases hm
theorem member_type{s:List TypeP}(h:schemaB s=true){x:TypeP}(hx:partB s x=true){m:ByteArray}(hm:m∈x.members):typeB m=true:=by
 have hk:=part_member hx hm
 have hf:freshB m s=false:=by
  cases hf:freshB m s with
  | true=>rw[typeIn_zero hf] at hk;simp[zeroType] at hk
  | false=>rfl
 obtain ⟨h1,_,h2⟩:=right_at h hf
 rw[h2] at h1;exact h1
theorem line_ok{s:List TypeP}(h:schemaB s=true){i:Nat}{x:TypeP}(hx:s[i]?=some x):LineOk s x:=by
 obtain ⟨⟨h1,h2⟩,_⟩:=(schemaB_parts h).2.2 i x hx
 have hk:=partB_kind h2
 refine⟨h1,by unfold isKind at hk;simp at hk;omega,?_,part_few h2,fun f hf=>typeIn_named h h2 hf,part_fewM h2,fun m hm=>(type_small (member_type h h2 hm)).2⟩
 by_cases hk1:x.kind=1
 ·unfold partB leafB at h2
  rw[if_pos hk1] at h2
  simp only[Bool.and_eq_true,decide_eq_true_eq] at h2
  exact h2.1.1
 ·have:=part_bytes h2 hk1
  omega
set_option maxHeartbeats 1000000 in
theorem specSchemaText(w:World)(A B:Nat)(v:Value)(s:List TypeP)(hv:SchemaAt w A B v s)(hB:B≤w.heap.size) :
  Calls Tryz.prog 18 #[v] w fun e w'=>e=.returned (.string (schT s))∧Below w.heap.size w w':=by
 have C:=hid (fun o1=>specSchemaRight (w.alloc o1) A B v s (hv.below (C:=w.heap.size) hB ((Below.refl _ _).alloc (Nat.le_refl _) o1)) (Nat.le_trans hB (by simp)))
 have HA:Hid (∀ o1,Below w.heap.size w (w.alloc o1)):=hid fun o1=>(Below.refl _ _).alloc (Nat.le_refl _) o1
 obtain ⟨a,ca,rfl,hd,_⟩:=hv
 have HS:=hid hd
 have hlen:=hd.2.1
 clear hd
 have hf0:=hid (show schT s=if schemaB s=true then linesT s else ByteArray.empty from rfl)
 have hsb0:Hid (schemaB s=true→s.length≤12∧∀ (i:Nat) (x:TypeP),s[i]?=some x→LineOk s x):=hid fun h=>⟨(schemaB_parts h).1.2,fun i x hx=>line_ok h hx⟩
 generalize schT s=ST at *
 go_enter Tryz.func18,Tryz.ntmps18
 go_wp2_with fail
 refine(C.out _).mono ?_
 rintro e w1 ⟨rfl,hb1⟩
 have HB1:=hid ((HA.out _).trans (hb1.mono (HA.out _).size))
 have hk1:=(hb1.block w.heap.size (by simp)).trans (heap_alloc_new w _)
 have ⟨k0,_⟩:=keep1 hk1
 have hl1:=lt_of_get hk1
 clear hb1
 cases hsb:schemaB s with
 | false =>
  have HFI:Hid ((⟨#[]⟩:ByteArray)=ST):=hid (by rw[hf0.out,hsb];rfl)
  clear hsb
  go_wp2_with fail
  go_ret
  exact⟨ret_s HFI.out,HB1.out⟩
 | true =>
  have HFY:Hid (ST=linesT s):=hid (by rw[hf0.out,if_pos hsb])
  have HOK:=hid (hsb0.out hsb)
  have h12:=HOK.out.1
  have hk2:(w1.alloc (.cells #[] 5)).heap[w.heap.size]?=_:=(Go.Deep.blk_alloc_lt _ _ _ hl1).trans hk1
  have HB2:=hid (HB1.out.alloc HB1.out.size (.cells #[] 5))
  have HO2:=hid (OwnB.made w1 w.heap.size HB1.out.size)
  have HO3:Hid (OwnB (w1.alloc (.cells #[] 5)) (w.heap.size+1) (.slice (some ⟨w1.heap.size,0,none⟩) 0 0) []):=hid (OwnB.made w1 (w.heap.size+1) hl1)
  clear hsb HO2
  go_wp2_with fail
  go_loopw [3,4] (fun v i wr=>∃ (i':Nat) (av:Option Addr) (n c:Nat) (l:List UInt8),i'≤s.length∧v=.slice av n c∧i=.int .i64 i'∧Hid ((⟨l.toArray⟩:ByteArray)++linesT (s.drop i')=ST)∧l.length≤280 * i'∧wr.heap[w.heap.size]?=some (.cells #[.slice a s.length ca] 35 (0,0))∧Hid (OwnB wr (w.heap.size+1) (.slice av n c) l)∧Below w.heap.size w wr) (fun _ i _=>s.length - (intOf i).toNat)
  case atStart=>exact⟨0,_,0,0,[],by omega,rfl,rfl,hid (by rw[HFY.out,List.drop_zero];exact ByteArray.empty_append),by simp,hk2,HO3,HB2.out⟩
  case round =>
   obtain ⟨i,av,n,c,l,hi,rfl,rfl,hT,hls,hk3,HO,hb⟩:=hrel
   have HB:=hid hb
   clear k0 hk2 hk1
   have ⟨k0,_⟩:=keep1 hk3
   have hl3:=lt_of_get hk3
   by_cases hlt:i<s.length
   ·have hli:(i:Int)<(s.length:Int):=by omega
    obtain ⟨x,b,off,hd,rfl,hAb,hbb,hok,a1,ca1,cm,ccm,hc,h2,h3⟩:=(HS.out.below typeLies (Nat.le_refl _) (hb.mono hB)).at hlt
    obtain ⟨d0,d1,d2,d3,d4⟩:=row5 hc
    have hlo:=HOK.out.2 i x hd
    have hsz:=line_size hlo
    have CL:Hid (Calls Tryz.prog 52 #[.agg (x.cells a1 ca1 cm ccm).toArray] wr fun e w'=>e=.returned (.string (lineT x))∧Below wr.heap.size wr w'):=hid (specLine wr A B x a1 ca1 cm ccm ⟨a1,ca1,cm,ccm,rfl,hok,h2,h3⟩ (Nat.le_trans hB HB.out.size) s hlo)
    have hst:=hid (linesT_drop hd)
    simp only[TypeP.cells] at CL
    generalize lineT x=LT at *
    clear hd hb hok hc h2 h3 hlo hlt
    go_wp2_with (first
     | (go_at_call 52;refine CL.out.mono ?_;rintro e w2 ⟨rfl,hb2⟩;have hk4:=(hb2.block w.heap.size hl3).trans hk3;have HO4:Hid (OwnB w2 (w.heap.size+1) (.slice av n c) l):=hid (owns_below (B:=0) HO.out fun q _ hq=>hb2.block q hq);have HB4:=hid (HB.out.trans (hb2.mono HB.out.size));have hz4:w.heap.size+1≤w2.heap.size:=lt_of_get hk4;clear hb2)
     | (at_builtin;refine app_string rfl _ _ rfl (w.heap.size+1) (.slice av n c) l rfl HO4.out LT rfl (by omega) hz4 ?_;intro a5 n5 c5 w5 hown5 hb5))
    have hk5:=(hb5.block w.heap.size (by omega)).trans hk4
    have HB5:=hid (HB4.out.trans (hb5.mono (by omega)))
    have HO5:=hid hown5
    have hT5:Hid ((⟨(l++LT.data.toList).toArray⟩:ByteArray)++linesT (s.drop (i+1))=ST):=hid (by
     rw[←hT.out,hst.out,←ByteArray.append_assoc]
     congr 1)
    have hl5:(l++LT.data.toList).length≤280 * (i+1):=by
     have:LT.data.toList.length=LT.size:=by rw[Array.length_toList];rfl
     rw[List.length_append];omega
    clear hown5 hb5
    go_roundw
    case rel=>exact⟨i+1,a5,n5,c5,_,by omega,rfl,by go_num,hT5,hl5,hk5,HO5,HB5.out⟩
    case measure=>simp[intOf];omega
   ·obtain rfl:i=s.length:=by omega
    have hcv:=HO.out.string
    have hfin:Hid ((⟨l.toArray⟩:ByteArray)=ST):=hid (by
     have:=hT.out
     rw[List.drop_length] at this
     simpa [linesT] using this)
    clear hlt hb
    go_wp2_with fail
    go_ret
    exact⟨ret_s hfin.out,HB.out⟩
end Go.Proofs.YtmembhpoidcmlaaGreatDoor.Rw
