/-
  Contract: the model's reader of selections. Conditions: as each theorem says.
-/
import Derived.Test.YtmembhpoidcmlaaGreatDoorRows
import Derived.Test.YtmembhpoidcmlaaGreatDoorSelRdB
import Derived.Test.YtmembhpoidcmlaaGreatDoorOwnFrag
import Derived.Test.YtmembhpoidcmlaaGreatDoorReadS
namespace Go.Proofs.YtmembhpoidcmlaaGreatDoor.Selss
open Lib (hid)
open Go.RowKit Words Decs Splits
set_option linter.unusedVariables false
set_option maxRecDepth 100000
theorem set_cell4{w:World}{g:Nat}{x0 x1 x2 x3 x4:Value}{T:TypeId}(h:w.heap[g]?=some (.cells #[x0,x1,x2,x3,x4] T (0,0)))(v:Value):(w.setCell ⟨g,4,none⟩ v).heap[g]?=some (.cells #[x0,x1,x2,x3,v] T (0,0)) :=
 (heap_setCell_same w g 4 _ _ _ h)
theorem set_cell2{w:World}{g:Nat}{x0 x1 x2 x3 x4:Value}{T:TypeId}(h:w.heap[g]?=some (.cells #[x0,x1,x2,x3,x4] T (0,0)))(v:Value):(w.setCell ⟨g,2,none⟩ v).heap[g]?=some (.cells #[x0,x1,v,x3,x4] T (0,0)) :=
 (heap_setCell_same w g 2 _ _ _ h)
theorem set_other(w:World){c g i:Nat}(h:c≠g)(v:Value):(w.setCell ⟨g,i,none⟩ v).heap[c]?=w.heap[c]?:=Go.Deep.blk_setCell_other _ _ _ _ h
set_option maxHeartbeats 4000000 in
theorem selRd_field(n:Nat)(w:World)(p cap k:Nat)(a:Option Addr)(W:List Tok)(hn:W.length - k<n)(key nm:ByteArray)(f:Int)(hok:OkI f∧OkS key∧OkS nm)(hsel:selOfP (word (W.drop k))=(1,key,nm,f))(hh:oneB 1 key nm f 0=true→W.drop k≠[]∧headF (W.drop k)=some (1,key,nm,f,(W.drop k).drop 1))(hh2:oneB 1 key nm f 0=false→headF (W.drop k)=none) :
  Hid (BlockOk n)→Hid (RdI w p a cap W k)→Hid (k≤W.length)→Hid (Vars p w)→Calls Tryz.prog 114 #[.pointer (some ⟨p,0,none⟩)] w fun e w'=>∃ kd key nm f a' cap' u err k',e=.returned (.tuple #[.agg #[.int .i64 kd,.string key,.string nm,.int .i64 f,.slice a' u.len cap'],err])∧OnlyP p w w'∧k≤k'∧k'≤W.length∧RdI w' p a cap W k' ∧
  ((err=.nilIface∧SelsX w' w.heap.size w'.heap.size a' u.len u∧(OkI kd∧OkS key∧OkS nm∧OkI f)∧ReadsOne kd key nm f u (W.drop k) (W.drop k')∧k<k') ∨
  (err=(.iface 116 (.agg #[.int .i64 3]))∧¬ ∃ kd key nm f u W1,ReadsOne kd key nm f u (W.drop k) W1)):=by
 intro HB HR HKL HV
 have hplt:=HR.out.lt
 have CN:=hid (show ∀ w',Below w.heap.size w w'→_ from fun w' hb=>rpNext w' p cap k a W (HR.out.below hplt hb) HKL.out)
 have CS:Hid (∀ w',OnlyP p w w'→Calls Tryz.prog 130 #[.string (ub (word (W.drop k)))] w' fun e w''=>e=.returned (selV (1,key,nm,f))∧Below w'.heap.size w' w''):=hid fun w' hb=>by
  have:=implSelOf (ub (word (W.drop k))) (by rw[ub_size'];exact word_len HR.out.sizes k) w' p (hb.vars hplt HV.out) (by have:=hb.size;omega)
  rw[bl_ub,hsel] at this;exact this
 have HA:Hid (∀ o,Below w.heap.size w (w.alloc o)):=hid fun o=>(Below.refl _ _).alloc (Nat.le_refl _) o
 have hk0:Hid ((w.alloc (.cells #[.int .i64 0,.string ⟨#[]⟩,.string ⟨#[]⟩,.int .i64 0,.slice none 0 0] 97)).heap[w.heap.size]?=some (.cells #[.int .i64 0,.string ⟨#[]⟩,.string ⟨#[]⟩,.int .i64 0,.slice none 0 0] 97 (0,0))):=hid (heap_alloc_new w _)
 have HWL:=hid (fun k=>word_len HR.out.sizes k)
 clear hsel
 simp only[selV] at CS
 generalize hx:ub (word (W.drop k))=x at CN CS
 go_enter Tryz.func114,Tryz.ntmps114
 go_wp2_with fail
 refine(CN.out _ (HA.out _)).mono ?_
 rintro e w1 ⟨rfl,⟨k1,h1,h2,h3,h4,h5⟩,ho⟩
 have hk1:=(ho.block w.heap.size (by simp) (by omega)).trans hk0.out
 have HO1:=hid (((OnlyP.refl p w).below (Nat.le_refl _) (HA.out _)).trans ho)
 have HR1:=hid h5
 have HK1:=hid (And.intro h1 (And.intro h2 (And.intro h3 h4)))
 have hz1:=HO1.out.size
 clear h1 h2 h3 h4 h5 ho
 go_wp2_with fail
 refine(CS.out _ HO1.out).mono ?_
 rintro e w2 ⟨rfl,hb2⟩
 have hk2:=(hb2.block w.heap.size (lt_of_get hk1)).trans hk1
 have HO2:=hid (HO1.out.below hz1 hb2)
 have HR2:=hid (HR1.out.below HR1.out.lt hb2)
 have hz2:=HO2.out.size
 have hwg':=lt_of_get hk2
 have ⟨⟨e0,e1,e2,e3,e4⟩,p0,p1,p2,p3,p4⟩:=keep5 hk2
 clear hb2 hk1
 go_wp2_with fail
 have HA2:Hid (∀ o,Below w2.heap.size w2 (w2.alloc o)):=hid fun o=>(Below.refl _ _).alloc (Nat.le_refl _) o
 have hrc:(w2.alloc (.cells #[.int .i64 1,.string key,.string nm,.int .i64 f,.slice none 0 0] 97)).heap[w.heap.size]?=_:=((HA2.out _).block w.heap.size (lt_of_get hk2)).trans hk2
 have hsc:=heap_alloc_new w2 (.cells #[.int .i64 1,.string key,.string nm,.int .i64 f,.slice none 0 0] 97)
 have OC:=hid (HO2.out.below hz2 (HA2.out (.cells #[.int .i64 1,.string key,.string nm,.int .i64 f,.slice none 0 0] 97)))
 have RC:=hid (HR2.out.below HR2.out.lt (HA2.out (.cells #[.int .i64 1,.string key,.string nm,.int .i64 f,.slice none 0 0] 97)))
 have hwg:w.heap.size≤w2.heap.size:=hz2
 generalize hkc:k1=kc at *
 have HK:Hid (k≤kc∧kc≤W.length∧True):=hid ⟨HK1.out.1,HK1.out.2.1,trivial⟩
 have HOK:Hid (OkI 1∧OkS key∧OkS nm∧OkI f):=hid ⟨by unfold OkI;omega,hok.2.1,hok.2.2,hok.1⟩
 obtain ⟨r0,hr0⟩:∃ r,oneB 1 key nm f 0=r:=⟨_,rfl⟩
 obtain ⟨rb,hrb⟩:∃ r,r0=r:=⟨_,rfl⟩
 have HR0:=hid hr0
 have HRB:Hid (∀ m,0<m→oneB 1 key nm f m=rb):=hid fun m _=>by rw[oneB_len1,hr0,hrb]
 have HLT:Hid (r0=true→k<kc):=hid fun e=>by
  have hne:=(hh (hr0.trans e)).1
  have hk:k<W.length:=by
   rcases Nat.lt_or_ge k W.length with g|g
   ·exact g
   ·exact absurd (List.drop_eq_nil_of_le g) hne
  have:=HK1.out.2.2.1 hk;omega
 have HYES:Hid (rb=true→word (W.drop kc)=[123]→∀ s V,Reads s ((W.drop kc).drop 1) V→ReadsOne 1 key nm f s (W.drop k) V):=hid fun e hw s V hr=>⟨_,(hh (hr0.trans (hrb.trans e))).2,.inr ⟨by omega,by rw[←HK1.out.2.2.2];exact hw,by rw[←HK1.out.2.2.2];exact hr⟩⟩
 have HY0:Hid (r0=true→word (W.drop kc)≠[123]→ReadsOne 1 key nm f .nil (W.drop k) (W.drop kc)):=hid fun e hw=>⟨_,(hh (hr0.trans e)).2,.inl ⟨rfl,HK1.out.2.2.2,by omega,fun _=>by rw[←HK1.out.2.2.2];exact hw⟩⟩
 have HN0:Hid (r0=false→¬ ∃ kd key nm f u W1,ReadsOne kd key nm f u (W.drop k) W1):=hid fun e=>noOne_head (hh2 (hr0.trans e))
 have HNH:Hid (rb=false→¬ ∃ kd key nm f u W1,ReadsOne kd key nm f u (W.drop k) W1):=hid fun e=>HN0.out (hrb.trans e)
 have HNB:Hid (word (W.drop kc)=[123]→(¬ ∃ s V,word (W.drop kc)=[123]∧Reads s ((W.drop kc).drop 1) V)→¬ ∃ kd key nm f u W1,ReadsOne kd key nm f u (W.drop k) W1):=hid fun hw hno=>by
  cases hb:r0 with
  | false=>exact HN0.out hb
  | true=>exact noOne_block (hh (hr0.trans hb)).2 (by omega) (by rw[←HK1.out.2.2.2];exact hw) (by rw[←HK1.out.2.2.2];exact hno)
 clear e0 e1 e2 e3 e4 p0 p1 p2 p3 p4 hk2 hh hh2 hok hr0 hrb hkc HR CN CS HA hk0 hx HR1 HO1 HR2 HO2
 generalize w2.alloc (.cells #[.int .i64 1,.string key,.string nm,.int .i64 f,.slice none 0 0] 97)=wc at *
 generalize w2.heap.size=g at *
 refine(rpPeek wc p cap kc a W RC.out HK.out.2.1).mono ?_
 rintro e w3 ⟨rfl,hb3⟩
 have hr:=(hb3.block w.heap.size (lt_of_get hrc)).trans hrc
 have hs:=(hb3.block g (lt_of_get hsc)).trans hsc
 have RF:=hid (RC.out.below RC.out.lt hb3)
 have OF:=hid (OC.out.below OC.out.size hb3)
 clear hb3 hrc hsc
 have ⟨⟨e0,e1,e2,e3,e4⟩,p0,p1,p2,p3,p4⟩:=keep5 hr
 have ⟨⟨s0,s1,s2,s3,s4⟩,q0,q1,q2,q3,q4⟩:=keep5 hs
 have hz3:=OF.out.size
 by_cases hw:word (W.drop kc)=[123]
 ·have HW:=hid hw
  have y1:(ub (word (W.drop kc))).toList=[123]:=by rw[toList_ub];exact hw
  have y2:((ub (word (W.drop kc))).toList == [123])=true:=by rw[y1];rfl
  have CB:=hid (HB.out w3 p cap kc a W (by have:=HK.out;omega) RF.out HK.out.2.1 (OF.out.vars hplt HV.out))
  have hgs:g<w3.heap.size:=lt_of_get hs
  clear hw
  generalize ub (word (W.drop kc))=y at *
  go_wp2_with fail
  refine CB.out.mono ?_
  rintro e w4 ⟨v,err,k2,rfl,ho4,h1,h2,hR4,hcase⟩
  replace hr:=(ho4.block w.heap.size (lt_of_get hr) (by omega)).trans hr
  replace hs:=(ho4.block g (lt_of_get hs) (by omega)).trans hs
  replace OF:=hid (OF.out.trans ho4)
  replace RF:=hid hR4
  have HK2:=hid (And.intro h1 h2)
  clear ho4 hR4 h1 h2 e0 e1 e2 e3 e4 p0 p1 p2 p3 p4 s0 s1 s2 s3 s4 q0 q1 q2 q3 q4
  have ⟨⟨e0,e1,e2,e3,e4⟩,p0,p1,p2,p3,p4⟩:=keep5 hr
  have ⟨⟨s0,s1,s2,s3,s4⟩,q0,q1,q2,q3,q4⟩:=keep5 hs
  have hz4:=OF.out.size
  rcases hcase with ⟨rfl,s,a',cap',rfl,hsx,hwd,hreads,hlt⟩|⟨rfl,rfl,hno⟩
  ·have HX:=hid hsx
   have HRd:=hid (And.intro hreads hlt)
   have hlen:=hsx.2.1
   have hpos:Hid (0<s.len):=hid (by cases s with
    | nil=>exact hreads.elim
    | cons=>simp[Sels.len])
   clear hsx hreads hlt hwd
   have hs5:=set_cell4 hs (.slice a' s.len cap')
   have hr5:=((set_other w4 (i:=4) (show w.heap.size≠g by omega) (.slice a' s.len cap')).trans hr)
   have O5:=hid (OF.out.put (g:=g) (j:=4) hwg (.slice a' s.len cap'))
   have R5:=hid (Rd.put RF.out (g:=g) (j:=4) (by omega) (.slice a' s.len cap'))
   have X5:Hid (SelsX (w4.setCell ⟨g,4,none⟩ (.slice a' s.len cap')) w3.heap.size w4.heap.size a' s.len s):=hid (HX.out.block fun c c1 _=>set_other w4 (by omega) _)
   have CR:Hid (∀ w',Calls Tryz.prog 123 #[.agg #[.int .i64 1,.string key,.string nm,.int .i64 f,.slice a' s.len cap']] w' fun e w''=>e=.returned (.bool rb)∧Below w'.heap.size w' w''):=hid fun w'=>by
    have:=implSelRight w' 1 key nm f a' cap' s.len HOK.out (by omega)
    rw[HRB.out s.len hpos.out] at this;exact this
   clear OF RF HX hr hs
   go_wp2_with fail
   refine(CR.out _).mono ?_
   rintro e w6 ⟨rfl,hb6⟩
   have hr:=(hb6.block w.heap.size (lt_of_get hr5)).trans hr5
   have hs:=(hb6.block g (lt_of_get hs5)).trans hs5
   have OF:=hid (O5.out.below O5.out.size hb6)
   have RF:=hid (R5.out.below R5.out.lt hb6)
   have X6:=hid (X5.out.below (by simp) hb6)
   have hz6:=OF.out.size
   have hz3':w.heap.size<w3.heap.size:=by omega
   have hz46:w4.heap.size≤w6.heap.size:=by have:=hb6.size;simpa using this
   clear hb6 hr5 hs5 O5 R5 X5 e0 e1 e2 e3 e4 p0 p1 p2 p3 p4 s0 s1 s2 s3 s4 q0 q1 q2 q3 q4
   have ⟨⟨e0,e1,e2,e3,e4⟩,p0,p1,p2,p3,p4⟩:=keep5 hr
   have ⟨⟨s0,s1,s2,s3,s4⟩,q0,q1,q2,q3,q4⟩:=keep5 hs
   cases rb
   ·have HFX:=hid (set5_block hr (.int .i64 1) (.string key) (.string nm) (.int .i64 f) (.slice a' s.len cap'))
    have HOF:=hid (OF.out.set5 (g:=w.heap.size) (Nat.le_refl _) (.int .i64 1) (.string key) (.string nm) (.int .i64 f) (.slice a' s.len cap'))
    have HRF:=hid (Rd.set5 RF.out (g:=w.heap.size) hplt (.int .i64 1) (.string key) (.string nm) (.int .i64 f) (.slice a' s.len cap'))
    have HSF:Hid (SelsX (set5 w6 w.heap.size (.int .i64 1) (.string key) (.string nm) (.int .i64 f) (.slice a' s.len cap')) w.heap.size (set5 w6 w.heap.size (.int .i64 1) (.string key) (.string nm) (.int .i64 f) (.slice a' s.len cap')).heap.size a' s.len s):=hid ((SelsX.set5 X6.out (g:=w.heap.size) hz3' (.int .i64 1) (.string key) (.string nm) (.int .i64 f) (.slice a' s.len cap')).wide hz3 (by rw[set5_size];exact hz46))
    clear hr hs
    go_wp2_with fail
    change bodyPost _ _ _ _ _ (set5 w6 w.heap.size (.int .i64 1) (.string key) (.string nm) (.int .i64 f) (.slice a' s.len cap'))
    generalize set5 w6 w.heap.size (.int .i64 1) (.string key) (.string nm) (.int .i64 f) (.slice a' s.len cap')=WF at *
    have ⟨⟨f0,f1,f2,f3,f4⟩,_⟩:=keep5 HFX.out
    exact bodyPost_ret (v:=.tuple #[.agg #[.int .i64 1,.string key,.string nm,.int .i64 f,.slice a' s.len cap'],.iface 116 (.agg #[.int .i64 3])]) (by simp[results,Tryz.results114,go_sem,f0,f1,f2,f3,f4]) rfl ⟨_,_,_,_,_,_,s,_,_,rfl,HOF.out,Nat.le_trans HK.out.1 HK2.out.1,HK2.out.2,HRF.out,.inr ⟨rfl,HNH.out (by trivial)⟩⟩
   ·have HFX:=hid (set5_block hr (.int .i64 1) (.string key) (.string nm) (.int .i64 f) (.slice a' s.len cap'))
    have HOF:=hid (OF.out.set5 (g:=w.heap.size) (Nat.le_refl _) (.int .i64 1) (.string key) (.string nm) (.int .i64 f) (.slice a' s.len cap'))
    have HRF:=hid (Rd.set5 RF.out (g:=w.heap.size) hplt (.int .i64 1) (.string key) (.string nm) (.int .i64 f) (.slice a' s.len cap'))
    have HSF:Hid (SelsX (set5 w6 w.heap.size (.int .i64 1) (.string key) (.string nm) (.int .i64 f) (.slice a' s.len cap')) w.heap.size (set5 w6 w.heap.size (.int .i64 1) (.string key) (.string nm) (.int .i64 f) (.slice a' s.len cap')).heap.size a' s.len s):=hid ((SelsX.set5 X6.out (g:=w.heap.size) hz3' (.int .i64 1) (.string key) (.string nm) (.int .i64 f) (.slice a' s.len cap')).wide hz3 (by rw[set5_size];exact hz46))
    clear hr hs
    go_wp2_with fail
    change bodyPost _ _ _ _ _ (set5 w6 w.heap.size (.int .i64 1) (.string key) (.string nm) (.int .i64 f) (.slice a' s.len cap'))
    generalize set5 w6 w.heap.size (.int .i64 1) (.string key) (.string nm) (.int .i64 f) (.slice a' s.len cap')=WF at *
    have ⟨⟨f0,f1,f2,f3,f4⟩,_⟩:=keep5 HFX.out
    exact bodyPost_ret (v:=.tuple #[.agg #[.int .i64 1,.string key,.string nm,.int .i64 f,.slice a' s.len cap'],.nilIface]) (by simp[results,Tryz.results114,go_sem,f0,f1,f2,f3,f4]) rfl ⟨_,_,_,_,_,_,s,_,_,rfl,HOF.out,Nat.le_trans HK.out.1 HK2.out.1,HK2.out.2,HRF.out,.inl ⟨rfl,HSF.out,HOK.out,HYES.out (by trivial) HW.out _ _ HRd.out.1,Nat.lt_of_le_of_lt HK.out.1 HRd.out.2⟩⟩
  ·have HNO:=hid hno
   clear hno
   have hs5:=set_cell4 hs (.slice none 0 0)
   have hr5:=((set_other w4 (i:=4) (show w.heap.size≠g by omega) (.slice none 0 0)).trans hr)
   have O5:=hid (OF.out.put (g:=g) (j:=4) hwg (.slice none 0 0))
   have R5:=hid (Rd.put RF.out (g:=g) (j:=4) (by omega) (.slice none 0 0))
   clear OF RF hr hs
   have hz5:w.heap.size≤(w4.setCell ⟨g,4,none⟩ (.slice none 0 0)).heap.size:=O5.out.size
   have hr:=hr5
   have OF:=O5
   have RF:=R5
   have hs:=hs5
   have HFX:=hid (set5_block hr (.int .i64 1) (.string key) (.string nm) (.int .i64 f) (.slice none 0 0))
   have HOF:=hid (OF.out.set5 (g:=w.heap.size) (Nat.le_refl _) (.int .i64 1) (.string key) (.string nm) (.int .i64 f) (.slice none 0 0))
   have HRF:=hid (Rd.set5 RF.out (g:=w.heap.size) hplt (.int .i64 1) (.string key) (.string nm) (.int .i64 f) (.slice none 0 0))
   have HSF:Hid (SelsX (set5 (w4.setCell ⟨g,4,none⟩ (.slice none 0 0)) w.heap.size (.int .i64 1) (.string key) (.string nm) (.int .i64 f) (.slice none 0 0)) w.heap.size (set5 (w4.setCell ⟨g,4,none⟩ (.slice none 0 0)) w.heap.size (.int .i64 1) (.string key) (.string nm) (.int .i64 f) (.slice none 0 0)).heap.size none Sels.nil.len Sels.nil):=hid ⟨rfl,Nat.zero_le _,by rw[set5_size];exact hz5,.inl rfl⟩
   clear hr hs hr5 hs5
   go_wp2_with fail
   change bodyPost _ _ _ _ _ (set5 (w4.setCell ⟨g,4,none⟩ (.slice none 0 0)) w.heap.size (.int .i64 1) (.string key) (.string nm) (.int .i64 f) (.slice none 0 0))
   generalize set5 (w4.setCell ⟨g,4,none⟩ (.slice none 0 0)) w.heap.size (.int .i64 1) (.string key) (.string nm) (.int .i64 f) (.slice none 0 0)=WF at *
   have ⟨⟨f0,f1,f2,f3,f4⟩,_⟩:=keep5 HFX.out
   exact bodyPost_ret (v:=.tuple #[.agg #[.int .i64 1,.string key,.string nm,.int .i64 f,.slice none 0 0],.iface 116 (.agg #[.int .i64 3])]) (by simp[results,Tryz.results114,go_sem,f0,f1,f2,f3,f4]) rfl ⟨_,_,_,_,_,_,Sels.nil,_,_,rfl,HOF.out,Nat.le_trans HK.out.1 HK2.out.1,HK2.out.2,HRF.out,.inr ⟨rfl,HNB.out HW.out HNO.out⟩⟩
 ·have HW:=hid hw
  have y1:(ub (word (W.drop kc))).toList≠[123]:=by rw[toList_ub];exact hw
  have y2:((ub (word (W.drop kc))).toList == [123])=false:=beq_eq_false_iff_ne.2 y1
  have CR:Hid (∀ w',Calls Tryz.prog 123 #[.agg #[.int .i64 1,.string key,.string nm,.int .i64 f,.slice none 0 0]] w' fun e w''=>e=.returned (.bool r0)∧Below w'.heap.size w' w''):=hid fun w'=>by
   have:=implSelRight w' 1 key nm f none 0 0 HOK.out (by omega)
   rw[HR0.out] at this;exact this
  clear hw
  generalize ub (word (W.drop kc))=y at *
  go_wp2_with fail
  refine(CR.out _).mono ?_
  rintro e w6 ⟨rfl,hb6⟩
  replace hr:=(hb6.block w.heap.size (lt_of_get hr)).trans hr
  replace hs:=(hb6.block g (lt_of_get hs)).trans hs
  replace OF:=hid (OF.out.below OF.out.size hb6)
  replace RF:=hid (RF.out.below RF.out.lt hb6)
  have hz5:=OF.out.size
  clear hb6 e0 e1 e2 e3 e4 p0 p1 p2 p3 p4 s0 s1 s2 s3 s4 q0 q1 q2 q3 q4
  have ⟨⟨e0,e1,e2,e3,e4⟩,p0,p1,p2,p3,p4⟩:=keep5 hr
  have ⟨⟨s0,s1,s2,s3,s4⟩,q0,q1,q2,q3,q4⟩:=keep5 hs
  cases r0
  ·have HFX:=hid (set5_block hr (.int .i64 1) (.string key) (.string nm) (.int .i64 f) (.slice none 0 0))
   have HOF:=hid (OF.out.set5 (g:=w.heap.size) (Nat.le_refl _) (.int .i64 1) (.string key) (.string nm) (.int .i64 f) (.slice none 0 0))
   have HRF:=hid (Rd.set5 RF.out (g:=w.heap.size) hplt (.int .i64 1) (.string key) (.string nm) (.int .i64 f) (.slice none 0 0))
   have HSF:Hid (SelsX (set5 w6 w.heap.size (.int .i64 1) (.string key) (.string nm) (.int .i64 f) (.slice none 0 0)) w.heap.size (set5 w6 w.heap.size (.int .i64 1) (.string key) (.string nm) (.int .i64 f) (.slice none 0 0)).heap.size none Sels.nil.len Sels.nil):=hid ⟨rfl,Nat.zero_le _,by rw[set5_size];exact hz5,.inl rfl⟩
   clear hr hs
   go_wp2_with fail
   change bodyPost _ _ _ _ _ (set5 w6 w.heap.size (.int .i64 1) (.string key) (.string nm) (.int .i64 f) (.slice none 0 0))
   generalize set5 w6 w.heap.size (.int .i64 1) (.string key) (.string nm) (.int .i64 f) (.slice none 0 0)=WF at *
   have ⟨⟨f0,f1,f2,f3,f4⟩,_⟩:=keep5 HFX.out
   exact bodyPost_ret (v:=.tuple #[.agg #[.int .i64 1,.string key,.string nm,.int .i64 f,.slice none 0 0],.iface 116 (.agg #[.int .i64 3])]) (by simp[results,Tryz.results114,go_sem,f0,f1,f2,f3,f4]) rfl ⟨_,_,_,_,_,_,Sels.nil,_,_,rfl,HOF.out,HK.out.1,HK.out.2.1,HRF.out,.inr ⟨rfl,HN0.out (by trivial)⟩⟩
  ·have HFX:=hid (set5_block hr (.int .i64 1) (.string key) (.string nm) (.int .i64 f) (.slice none 0 0))
   have HOF:=hid (OF.out.set5 (g:=w.heap.size) (Nat.le_refl _) (.int .i64 1) (.string key) (.string nm) (.int .i64 f) (.slice none 0 0))
   have HRF:=hid (Rd.set5 RF.out (g:=w.heap.size) hplt (.int .i64 1) (.string key) (.string nm) (.int .i64 f) (.slice none 0 0))
   have HSF:Hid (SelsX (set5 w6 w.heap.size (.int .i64 1) (.string key) (.string nm) (.int .i64 f) (.slice none 0 0)) w.heap.size (set5 w6 w.heap.size (.int .i64 1) (.string key) (.string nm) (.int .i64 f) (.slice none 0 0)).heap.size none Sels.nil.len Sels.nil):=hid ⟨rfl,Nat.zero_le _,by rw[set5_size];exact hz5,.inl rfl⟩
   clear hr hs
   go_wp2_with fail
   change bodyPost _ _ _ _ _ (set5 w6 w.heap.size (.int .i64 1) (.string key) (.string nm) (.int .i64 f) (.slice none 0 0))
   generalize set5 w6 w.heap.size (.int .i64 1) (.string key) (.string nm) (.int .i64 f) (.slice none 0 0)=WF at *
   have ⟨⟨f0,f1,f2,f3,f4⟩,_⟩:=keep5 HFX.out
   exact bodyPost_ret (v:=.tuple #[.agg #[.int .i64 1,.string key,.string nm,.int .i64 f,.slice none 0 0],.nilIface]) (by simp[results,Tryz.results114,go_sem,f0,f1,f2,f3,f4]) rfl ⟨_,_,_,_,_,_,Sels.nil,_,_,rfl,HOF.out,HK.out.1,HK.out.2.1,HRF.out,.inl ⟨rfl,HSF.out,HOK.out,HY0.out (by trivial) HW.out,HLT.out (by trivial)⟩⟩
set_option maxHeartbeats 4000000 in
theorem selRd_on(n:Nat)(w:World)(p cap k:Nat)(a:Option Addr)(W:List Tok)(hn:W.length - k<n)(hsel:selOfP (word (W.drop k))=(2,ByteArray.empty,ByteArray.empty,-1))(Y:List Tok)(hX:W.drop k=[46,46,46,111,110]::Y) :
  Hid (BlockOk n)→Hid (RdI w p a cap W k)→Hid (k≤W.length)→Hid (Vars p w)→Calls Tryz.prog 114 #[.pointer (some ⟨p,0,none⟩)] w fun e w'=>∃ kd key nm f a' cap' u err k',e=.returned (.tuple #[.agg #[.int .i64 kd,.string key,.string nm,.int .i64 f,.slice a' u.len cap'],err])∧OnlyP p w w'∧k≤k'∧k'≤W.length∧RdI w' p a cap W k' ∧
  ((err=.nilIface∧SelsX w' w.heap.size w'.heap.size a' u.len u∧(OkI kd∧OkS key∧OkS nm∧OkI f)∧ReadsOne kd key nm f u (W.drop k) (W.drop k')∧k<k') ∨
  (err=(.iface 116 (.agg #[.int .i64 3]))∧¬ ∃ kd key nm f u W1,ReadsOne kd key nm f u (W.drop k) W1)):=by
 intro HB HR HKL HV
 have hplt:=HR.out.lt
 have CN:=hid (show ∀ w',Below w.heap.size w w'→_ from fun w' hb=>rpNext w' p cap k a W (HR.out.below hplt hb) HKL.out)
 have CS:Hid (∀ w',OnlyP p w w'→Calls Tryz.prog 130 #[.string (ub (word (W.drop k)))] w' fun e w''=>e=.returned (selV (2,ByteArray.empty,ByteArray.empty,-1))∧Below w'.heap.size w' w''):=hid fun w' hb=>by
  have:=implSelOf (ub (word (W.drop k))) (by rw[ub_size'];exact word_len HR.out.sizes k) w' p (hb.vars hplt HV.out) (by have:=hb.size;omega)
  rw[bl_ub,hsel] at this;exact this
 have HA:Hid (∀ o,Below w.heap.size w (w.alloc o)):=hid fun o=>(Below.refl _ _).alloc (Nat.le_refl _) o
 have hk0:Hid ((w.alloc (.cells #[.int .i64 0,.string ⟨#[]⟩,.string ⟨#[]⟩,.int .i64 0,.slice none 0 0] 97)).heap[w.heap.size]?=some (.cells #[.int .i64 0,.string ⟨#[]⟩,.string ⟨#[]⟩,.int .i64 0,.slice none 0 0] 97 (0,0))):=hid (heap_alloc_new w _)
 have HWL:=hid (fun k=>word_len HR.out.sizes k)
 clear hsel
 simp only[selV] at CS
 generalize hx:ub (word (W.drop k))=x at CN CS
 go_enter Tryz.func114,Tryz.ntmps114
 go_wp2_with fail
 refine(CN.out _ (HA.out _)).mono ?_
 rintro e w1 ⟨rfl,⟨k1,h1,h2,h3,h4,h5⟩,ho⟩
 have hk1:=(ho.block w.heap.size (by simp) (by omega)).trans hk0.out
 have HO1:=hid (((OnlyP.refl p w).below (Nat.le_refl _) (HA.out _)).trans ho)
 have HR1:=hid h5
 have HK1:=hid (And.intro h1 (And.intro h2 (And.intro h3 h4)))
 have hz1:=HO1.out.size
 clear h1 h2 h3 h4 h5 ho
 go_wp2_with fail
 refine(CS.out _ HO1.out).mono ?_
 rintro e w2 ⟨rfl,hb2⟩
 have hk2:=(hb2.block w.heap.size (lt_of_get hk1)).trans hk1
 have HO2:=hid (HO1.out.below hz1 hb2)
 have HR2:=hid (HR1.out.below HR1.out.lt hb2)
 have hz2:=HO2.out.size
 have hwg':=lt_of_get hk2
 have ⟨⟨e0,e1,e2,e3,e4⟩,p0,p1,p2,p3,p4⟩:=keep5 hk2
 clear hb2 hk1
 go_wp2_with fail
 have HA2:Hid (∀ o,Below w2.heap.size w2 (w2.alloc o)):=hid fun o=>(Below.refl _ _).alloc (Nat.le_refl _) o
 have hrc:(w2.alloc (.cells #[.int .i64 2,.string ByteArray.empty,.string ByteArray.empty,.int .i64 (-1),.slice none 0 0] 97)).heap[w.heap.size]?=_:=((HA2.out _).block w.heap.size (lt_of_get hk2)).trans hk2
 have hsc:=heap_alloc_new w2 (.cells #[.int .i64 2,.string ByteArray.empty,.string ByteArray.empty,.int .i64 (-1),.slice none 0 0] 97)
 have OC:=hid (HO2.out.below hz2 (HA2.out (.cells #[.int .i64 2,.string ByteArray.empty,.string ByteArray.empty,.int .i64 (-1),.slice none 0 0] 97)))
 have RC:=hid (HR2.out.below HR2.out.lt (HA2.out (.cells #[.int .i64 2,.string ByteArray.empty,.string ByteArray.empty,.int .i64 (-1),.slice none 0 0] 97)))
 have hwg:w.heap.size≤w2.heap.size:=hz2
 clear e0 e1 e2 e3 e4 p0 p1 p2 p3 p4 hk2 HR CN CS HA hk0 hx HR1 HO1 HR2 HO2
 generalize w2.alloc (.cells #[.int .i64 2,.string ByteArray.empty,.string ByteArray.empty,.int .i64 (-1),.slice none 0 0] 97)=wa at *
 generalize w2.heap.size=g at *
 refine(rpNext wa p cap k1 a W RC.out HK1.out.2.1).mono ?_
 rintro e wb ⟨rfl,⟨kc,h1,h2,h3,h4,h5⟩,ho⟩
 have hga:=lt_of_get hsc
 have hra:=(ho.block w.heap.size (lt_of_get hrc) (by omega)).trans hrc
 have hsa:=(ho.block g (lt_of_get hsc) (by omega)).trans hsc
 have OB:=hid (OC.out.trans ho)
 obtain ⟨nm,hnm⟩:∃ nm,ub (word (W.drop k1))=nm:=⟨_,rfl⟩
 rw[hnm]
 have hWk:k<W.length:=by
  rcases Nat.lt_or_ge k W.length with g|g
  ·exact g
  ·rw[List.drop_eq_nil_of_le g] at hX;cases hX
 have hk1:k1=k+1:=HK1.out.2.2.1 hWk
 have hdY:W.drop k1=Y:=by rw[HK1.out.2.2.2,hX];rfl
 have hdc:W.drop kc=Y.drop 1:=by rw[h4,hdY]
 have hhd:headF (W.drop k)=if typeB nm=true then some (2,ByteArray.empty,nm,-1,W.drop kc) else none:=by
  rw[hX,headF_cons,if_pos rfl,←hdY,hnm,←h4]
 have HK:Hid (k≤kc∧kc≤W.length∧k<kc):=hid ⟨by omega,h2,by omega⟩
 have HOK:Hid (OkI 2∧OkS ByteArray.empty∧OkS nm∧OkI (-1)):=hid ⟨by unfold OkI;omega,by unfold OkS;decide,by rw[←hnm];exact okS_ub (HWL.out k1),by unfold OkI;omega⟩
 obtain ⟨r0,hr0⟩:∃ r:Bool,false=r:=⟨_,rfl⟩
 obtain ⟨rb,hrb⟩:∃ r,typeB nm=r:=⟨_,rfl⟩
 have HR0:Hid (oneB 2 ByteArray.empty nm (-1) 0=false):=hid (by rw[oneB_2];simp)
 have HRB:Hid (∀ m,0<m→oneB 2 ByteArray.empty nm (-1) m=rb):=hid fun m hm=>by rw[oneB_2,hrb,decide_eq_true hm,show (ByteArray.empty.toList == [])=true from by rw[Lib.toList_data];rfl];simp
 have HNH:Hid (rb=false→¬ ∃ kd key nm f u W1,ReadsOne kd key nm f u (W.drop k) W1):=hid fun e=>noOne_head (by rw[hhd,hrb,e];rfl)
 have HYES:Hid (rb=true→word (W.drop kc)=[123]→∀ s V,Reads s ((W.drop kc).drop 1) V→ReadsOne 2 ByteArray.empty nm (-1) s (W.drop k) V):=hid fun e hw s V hr=>⟨W.drop kc,by rw[hhd,hrb,e];rfl,.inr ⟨by omega,hw,hr⟩⟩
 have HN0:Hid (word (W.drop kc)≠[123]→¬ ∃ kd key nm f u W1,ReadsOne kd key nm f u (W.drop k) W1):=hid fun hw=>by
  cases hb:rb with
  | false=>exact HNH.out hb
  | true=>exact noOne_on (by rw[hhd,hrb,hb];rfl) hw
 have HNB:Hid (word (W.drop kc)=[123]→(¬ ∃ s V,word (W.drop kc)=[123]∧Reads s ((W.drop kc).drop 1) V)→¬ ∃ kd key nm f u W1,ReadsOne kd key nm f u (W.drop k) W1):=hid fun hw hno=>by
  cases hb:rb with
  | false=>exact HNH.out hb
  | true=>exact noOne_block (f:=-1) (by rw[hhd,hrb,hb];rfl) (by omega) hw hno
 have RB:=hid h5
 clear h1 h2 h3 h4 h5 ho hrc hsc OC RC hnm hdY hdc hhd hrb hr0 hX hk1 hWk HWL HK1
 have hgb:=lt_of_get hsa
 have ⟨⟨e0,e1,e2,e3,e4⟩,p0,p1,p2,p3,p4⟩:=keep5 hra
 have ⟨⟨s0,s1,s2,s3,s4⟩,q0,q1,q2,q3,q4⟩:=keep5 hsa
 have hsc:=set_cell2 hsa (.string nm)
 have hrc:=((set_other wb (i:=2) (show w.heap.size≠g by omega) (.string nm)).trans hra)
 have OC:=hid (OB.out.put (g:=g) (j:=2) hwg (.string nm))
 have RC:=hid (Rd.put RB.out (g:=g) (j:=2) (by omega) (.string nm))
 go_wp2_with fail
 clear e0 e1 e2 e3 e4 p0 p1 p2 p3 p4 s0 s1 s2 s3 s4 q0 q1 q2 q3 q4 hra hsa OB RB
 generalize wb.setCell ⟨g,2,none⟩ (.string nm)=wc at *
 refine(rpPeek wc p cap kc a W RC.out HK.out.2.1).mono ?_
 rintro e w3 ⟨rfl,hb3⟩
 have hr:=(hb3.block w.heap.size (lt_of_get hrc)).trans hrc
 have hs:=(hb3.block g (lt_of_get hsc)).trans hsc
 have RF:=hid (RC.out.below RC.out.lt hb3)
 have OF:=hid (OC.out.below OC.out.size hb3)
 clear hb3 hrc hsc
 have ⟨⟨e0,e1,e2,e3,e4⟩,p0,p1,p2,p3,p4⟩:=keep5 hr
 have ⟨⟨s0,s1,s2,s3,s4⟩,q0,q1,q2,q3,q4⟩:=keep5 hs
 have hz3:=OF.out.size
 by_cases hw:word (W.drop kc)=[123]
 ·have HW:=hid hw
  have y1:(ub (word (W.drop kc))).toList=[123]:=by rw[toList_ub];exact hw
  have y2:((ub (word (W.drop kc))).toList == [123])=true:=by rw[y1];rfl
  have CB:=hid (HB.out w3 p cap kc a W (by have:=HK.out;omega) RF.out HK.out.2.1 (OF.out.vars hplt HV.out))
  have hgs:g<w3.heap.size:=lt_of_get hs
  clear hw
  generalize ub (word (W.drop kc))=y at *
  go_wp2_with fail
  refine CB.out.mono ?_
  rintro e w4 ⟨v,err,k2,rfl,ho4,h1,h2,hR4,hcase⟩
  replace hr:=(ho4.block w.heap.size (lt_of_get hr) (by omega)).trans hr
  replace hs:=(ho4.block g (lt_of_get hs) (by omega)).trans hs
  replace OF:=hid (OF.out.trans ho4)
  replace RF:=hid hR4
  have HK2:=hid (And.intro h1 h2)
  clear ho4 hR4 h1 h2 e0 e1 e2 e3 e4 p0 p1 p2 p3 p4 s0 s1 s2 s3 s4 q0 q1 q2 q3 q4
  have ⟨⟨e0,e1,e2,e3,e4⟩,p0,p1,p2,p3,p4⟩:=keep5 hr
  have ⟨⟨s0,s1,s2,s3,s4⟩,q0,q1,q2,q3,q4⟩:=keep5 hs
  have hz4:=OF.out.size
  rcases hcase with ⟨rfl,s,a',cap',rfl,hsx,hwd,hreads,hlt⟩|⟨rfl,rfl,hno⟩
  ·have HX:=hid hsx
   have HRd:=hid (And.intro hreads hlt)
   have hlen:=hsx.2.1
   have hpos:Hid (0<s.len):=hid (by cases s with
    | nil=>exact hreads.elim
    | cons=>simp[Sels.len])
   clear hsx hreads hlt hwd
   have hs5:=set_cell4 hs (.slice a' s.len cap')
   have hr5:=((set_other w4 (i:=4) (show w.heap.size≠g by omega) (.slice a' s.len cap')).trans hr)
   have O5:=hid (OF.out.put (g:=g) (j:=4) hwg (.slice a' s.len cap'))
   have R5:=hid (Rd.put RF.out (g:=g) (j:=4) (by omega) (.slice a' s.len cap'))
   have X5:Hid (SelsX (w4.setCell ⟨g,4,none⟩ (.slice a' s.len cap')) w3.heap.size w4.heap.size a' s.len s):=hid (HX.out.block fun c c1 _=>set_other w4 (by omega) _)
   have CR:Hid (∀ w',Calls Tryz.prog 123 #[.agg #[.int .i64 2,.string ByteArray.empty,.string nm,.int .i64 (-1),.slice a' s.len cap']] w' fun e w''=>e=.returned (.bool rb)∧Below w'.heap.size w' w''):=hid fun w'=>by
    have:=implSelRight w' 2 ByteArray.empty nm (-1) a' cap' s.len HOK.out (by omega)
    rw[HRB.out s.len hpos.out] at this;exact this
   clear OF RF HX hr hs
   go_wp2_with fail
   refine(CR.out _).mono ?_
   rintro e w6 ⟨rfl,hb6⟩
   have hr:=(hb6.block w.heap.size (lt_of_get hr5)).trans hr5
   have hs:=(hb6.block g (lt_of_get hs5)).trans hs5
   have OF:=hid (O5.out.below O5.out.size hb6)
   have RF:=hid (R5.out.below R5.out.lt hb6)
   have X6:=hid (X5.out.below (by simp) hb6)
   have hz6:=OF.out.size
   have hz3':w.heap.size<w3.heap.size:=by omega
   have hz46:w4.heap.size≤w6.heap.size:=by have:=hb6.size;simpa using this
   clear hb6 hr5 hs5 O5 R5 X5 e0 e1 e2 e3 e4 p0 p1 p2 p3 p4 s0 s1 s2 s3 s4 q0 q1 q2 q3 q4
   have ⟨⟨e0,e1,e2,e3,e4⟩,p0,p1,p2,p3,p4⟩:=keep5 hr
   have ⟨⟨s0,s1,s2,s3,s4⟩,q0,q1,q2,q3,q4⟩:=keep5 hs
   cases rb
   ·have HFX:=hid (set5_block hr (.int .i64 2) (.string ByteArray.empty) (.string nm) (.int .i64 (-1)) (.slice a' s.len cap'))
    have HOF:=hid (OF.out.set5 (g:=w.heap.size) (Nat.le_refl _) (.int .i64 2) (.string ByteArray.empty) (.string nm) (.int .i64 (-1)) (.slice a' s.len cap'))
    have HRF:=hid (Rd.set5 RF.out (g:=w.heap.size) hplt (.int .i64 2) (.string ByteArray.empty) (.string nm) (.int .i64 (-1)) (.slice a' s.len cap'))
    have HSF:Hid (SelsX (set5 w6 w.heap.size (.int .i64 2) (.string ByteArray.empty) (.string nm) (.int .i64 (-1)) (.slice a' s.len cap')) w.heap.size (set5 w6 w.heap.size (.int .i64 2) (.string ByteArray.empty) (.string nm) (.int .i64 (-1)) (.slice a' s.len cap')).heap.size a' s.len s):=hid ((SelsX.set5 X6.out (g:=w.heap.size) hz3' (.int .i64 2) (.string ByteArray.empty) (.string nm) (.int .i64 (-1)) (.slice a' s.len cap')).wide hz3 (by rw[set5_size];exact hz46))
    clear hr hs
    go_wp2_with fail
    change bodyPost _ _ _ _ _ (set5 w6 w.heap.size (.int .i64 2) (.string ByteArray.empty) (.string nm) (.int .i64 (-1)) (.slice a' s.len cap'))
    generalize set5 w6 w.heap.size (.int .i64 2) (.string ByteArray.empty) (.string nm) (.int .i64 (-1)) (.slice a' s.len cap')=WF at *
    have ⟨⟨f0,f1,f2,f3,f4⟩,_⟩:=keep5 HFX.out
    exact bodyPost_ret (v:=.tuple #[.agg #[.int .i64 2,.string ByteArray.empty,.string nm,.int .i64 (-1),.slice a' s.len cap'],.iface 116 (.agg #[.int .i64 3])]) (by simp[results,Tryz.results114,go_sem,f0,f1,f2,f3,f4]) rfl ⟨_,_,_,_,_,_,s,_,_,rfl,HOF.out,Nat.le_trans HK.out.1 HK2.out.1,HK2.out.2,HRF.out,.inr ⟨rfl,HNH.out (by trivial)⟩⟩
   ·have HFX:=hid (set5_block hr (.int .i64 2) (.string ByteArray.empty) (.string nm) (.int .i64 (-1)) (.slice a' s.len cap'))
    have HOF:=hid (OF.out.set5 (g:=w.heap.size) (Nat.le_refl _) (.int .i64 2) (.string ByteArray.empty) (.string nm) (.int .i64 (-1)) (.slice a' s.len cap'))
    have HRF:=hid (Rd.set5 RF.out (g:=w.heap.size) hplt (.int .i64 2) (.string ByteArray.empty) (.string nm) (.int .i64 (-1)) (.slice a' s.len cap'))
    have HSF:Hid (SelsX (set5 w6 w.heap.size (.int .i64 2) (.string ByteArray.empty) (.string nm) (.int .i64 (-1)) (.slice a' s.len cap')) w.heap.size (set5 w6 w.heap.size (.int .i64 2) (.string ByteArray.empty) (.string nm) (.int .i64 (-1)) (.slice a' s.len cap')).heap.size a' s.len s):=hid ((SelsX.set5 X6.out (g:=w.heap.size) hz3' (.int .i64 2) (.string ByteArray.empty) (.string nm) (.int .i64 (-1)) (.slice a' s.len cap')).wide hz3 (by rw[set5_size];exact hz46))
    clear hr hs
    go_wp2_with fail
    change bodyPost _ _ _ _ _ (set5 w6 w.heap.size (.int .i64 2) (.string ByteArray.empty) (.string nm) (.int .i64 (-1)) (.slice a' s.len cap'))
    generalize set5 w6 w.heap.size (.int .i64 2) (.string ByteArray.empty) (.string nm) (.int .i64 (-1)) (.slice a' s.len cap')=WF at *
    have ⟨⟨f0,f1,f2,f3,f4⟩,_⟩:=keep5 HFX.out
    exact bodyPost_ret (v:=.tuple #[.agg #[.int .i64 2,.string ByteArray.empty,.string nm,.int .i64 (-1),.slice a' s.len cap'],.nilIface]) (by simp[results,Tryz.results114,go_sem,f0,f1,f2,f3,f4]) rfl ⟨_,_,_,_,_,_,s,_,_,rfl,HOF.out,Nat.le_trans HK.out.1 HK2.out.1,HK2.out.2,HRF.out,.inl ⟨rfl,HSF.out,HOK.out,HYES.out (by trivial) HW.out _ _ HRd.out.1,Nat.lt_of_le_of_lt HK.out.1 HRd.out.2⟩⟩
  ·have HNO:=hid hno
   clear hno
   have hs5:=set_cell4 hs (.slice none 0 0)
   have hr5:=((set_other w4 (i:=4) (show w.heap.size≠g by omega) (.slice none 0 0)).trans hr)
   have O5:=hid (OF.out.put (g:=g) (j:=4) hwg (.slice none 0 0))
   have R5:=hid (Rd.put RF.out (g:=g) (j:=4) (by omega) (.slice none 0 0))
   clear OF RF hr hs
   have hz5:w.heap.size≤(w4.setCell ⟨g,4,none⟩ (.slice none 0 0)).heap.size:=O5.out.size
   have hr:=hr5
   have OF:=O5
   have RF:=R5
   have hs:=hs5
   have HFX:=hid (set5_block hr (.int .i64 2) (.string ByteArray.empty) (.string nm) (.int .i64 (-1)) (.slice none 0 0))
   have HOF:=hid (OF.out.set5 (g:=w.heap.size) (Nat.le_refl _) (.int .i64 2) (.string ByteArray.empty) (.string nm) (.int .i64 (-1)) (.slice none 0 0))
   have HRF:=hid (Rd.set5 RF.out (g:=w.heap.size) hplt (.int .i64 2) (.string ByteArray.empty) (.string nm) (.int .i64 (-1)) (.slice none 0 0))
   have HSF:Hid (SelsX (set5 (w4.setCell ⟨g,4,none⟩ (.slice none 0 0)) w.heap.size (.int .i64 2) (.string ByteArray.empty) (.string nm) (.int .i64 (-1)) (.slice none 0 0)) w.heap.size (set5 (w4.setCell ⟨g,4,none⟩ (.slice none 0 0)) w.heap.size (.int .i64 2) (.string ByteArray.empty) (.string nm) (.int .i64 (-1)) (.slice none 0 0)).heap.size none Sels.nil.len Sels.nil):=hid ⟨rfl,Nat.zero_le _,by rw[set5_size];exact hz5,.inl rfl⟩
   clear hr hs hr5 hs5
   go_wp2_with fail
   change bodyPost _ _ _ _ _ (set5 (w4.setCell ⟨g,4,none⟩ (.slice none 0 0)) w.heap.size (.int .i64 2) (.string ByteArray.empty) (.string nm) (.int .i64 (-1)) (.slice none 0 0))
   generalize set5 (w4.setCell ⟨g,4,none⟩ (.slice none 0 0)) w.heap.size (.int .i64 2) (.string ByteArray.empty) (.string nm) (.int .i64 (-1)) (.slice none 0 0)=WF at *
   have ⟨⟨f0,f1,f2,f3,f4⟩,_⟩:=keep5 HFX.out
   exact bodyPost_ret (v:=.tuple #[.agg #[.int .i64 2,.string ByteArray.empty,.string nm,.int .i64 (-1),.slice none 0 0],.iface 116 (.agg #[.int .i64 3])]) (by simp[results,Tryz.results114,go_sem,f0,f1,f2,f3,f4]) rfl ⟨_,_,_,_,_,_,Sels.nil,_,_,rfl,HOF.out,Nat.le_trans HK.out.1 HK2.out.1,HK2.out.2,HRF.out,.inr ⟨rfl,HNB.out HW.out HNO.out⟩⟩
 ·have HW:=hid hw
  have y1:(ub (word (W.drop kc))).toList≠[123]:=by rw[toList_ub];exact hw
  have y2:((ub (word (W.drop kc))).toList == [123])=false:=beq_eq_false_iff_ne.2 y1
  have CR:Hid (∀ w',Calls Tryz.prog 123 #[.agg #[.int .i64 2,.string ByteArray.empty,.string nm,.int .i64 (-1),.slice none 0 0]] w' fun e w''=>e=.returned (.bool false)∧Below w'.heap.size w' w''):=hid fun w'=>by
   have:=implSelRight w' 2 ByteArray.empty nm (-1) none 0 0 HOK.out (by omega)
   rw[HR0.out] at this;exact this
  clear hw
  generalize ub (word (W.drop kc))=y at *
  go_wp2_with fail
  refine(CR.out _).mono ?_
  rintro e w6 ⟨rfl,hb6⟩
  replace hr:=(hb6.block w.heap.size (lt_of_get hr)).trans hr
  replace hs:=(hb6.block g (lt_of_get hs)).trans hs
  replace OF:=hid (OF.out.below OF.out.size hb6)
  replace RF:=hid (RF.out.below RF.out.lt hb6)
  have hz5:=OF.out.size
  clear hb6 e0 e1 e2 e3 e4 p0 p1 p2 p3 p4 s0 s1 s2 s3 s4 q0 q1 q2 q3 q4
  have ⟨⟨e0,e1,e2,e3,e4⟩,p0,p1,p2,p3,p4⟩:=keep5 hr
  have ⟨⟨s0,s1,s2,s3,s4⟩,q0,q1,q2,q3,q4⟩:=keep5 hs
  have HFX:=hid (set5_block hr (.int .i64 2) (.string ByteArray.empty) (.string nm) (.int .i64 (-1)) (.slice none 0 0))
  have HOF:=hid (OF.out.set5 (g:=w.heap.size) (Nat.le_refl _) (.int .i64 2) (.string ByteArray.empty) (.string nm) (.int .i64 (-1)) (.slice none 0 0))
  have HRF:=hid (Rd.set5 RF.out (g:=w.heap.size) hplt (.int .i64 2) (.string ByteArray.empty) (.string nm) (.int .i64 (-1)) (.slice none 0 0))
  have HSF:Hid (SelsX (set5 w6 w.heap.size (.int .i64 2) (.string ByteArray.empty) (.string nm) (.int .i64 (-1)) (.slice none 0 0)) w.heap.size (set5 w6 w.heap.size (.int .i64 2) (.string ByteArray.empty) (.string nm) (.int .i64 (-1)) (.slice none 0 0)).heap.size none Sels.nil.len Sels.nil):=hid ⟨rfl,Nat.zero_le _,by rw[set5_size];exact hz5,.inl rfl⟩
  clear hr hs
  go_wp2_with fail
  change bodyPost _ _ _ _ _ (set5 w6 w.heap.size (.int .i64 2) (.string ByteArray.empty) (.string nm) (.int .i64 (-1)) (.slice none 0 0))
  generalize set5 w6 w.heap.size (.int .i64 2) (.string ByteArray.empty) (.string nm) (.int .i64 (-1)) (.slice none 0 0)=WF at *
  have ⟨⟨f0,f1,f2,f3,f4⟩,_⟩:=keep5 HFX.out
  exact bodyPost_ret (v:=.tuple #[.agg #[.int .i64 2,.string ByteArray.empty,.string nm,.int .i64 (-1),.slice none 0 0],.iface 116 (.agg #[.int .i64 3])]) (by simp[results,Tryz.results114,go_sem,f0,f1,f2,f3,f4]) rfl ⟨_,_,_,_,_,_,Sels.nil,_,_,rfl,HOF.out,HK.out.1,HK.out.2.1,HRF.out,.inr ⟨rfl,HN0.out HW.out⟩⟩
theorem spread_name{t:Tok}{nm:ByteArray}(h:selOfP t=(3,ByteArray.empty,nm,-1))(hl:t.length≤8000):OkS nm:=by
 unfold selOfP at h
 by_cases h3:t.take 3=[46,46,46]
 ·rw[if_pos h3] at h
  by_cases hon:t.drop 3=[111,110]
  ·rw[if_pos hon] at h;cases h
  ·rw[if_neg hon] at h
   injection h with _ h;injection h with _ h;injection h with h _
   rw[←h];exact okS_ub (by rw[List.length_drop];omega)
 ·rw[if_neg h3] at h
  unfold fSel at h
  split at h
  ·injection h with h _;omega
  ·injection h with h _;omega
theorem selOk(n:Nat)(hb:BlockOk n):SelOk n:=by
 intro w p cap k a W hn hR hk hv
 have hl:=word_len hR.sizes k
 rcases sel_cases (W.drop k) with ⟨Y,hX,hs⟩|⟨nm,hs,hne,hhd⟩|⟨key,nm,f,hs,hf,hkl,hnl,hh,hh2⟩|⟨hs,hhd⟩
 ·exact selRd_on n w p cap k a W hn hs Y hX (hid hb) (hid hR) (hid hk) (hid hv)
 ·have hnm:OkS nm:=by
   exact spread_name hs hl
  refine(selRd_flat w p cap k a W hR hk hv 3 ByteArray.empty nm (-1) ⟨by unfold OkI;omega,by unfold OkS;decide,hnm,by unfold OkI;omega⟩ (by omega) (by omega) (wordB nm) (by rw[oneB_3,show (ByteArray.empty.toList == [])=true from by rw[Lib.toList_data];rfl];simp) hs).mono ?_
  rintro e w' ⟨k',err,rfl,he,ho,h1,h2,h3,h4⟩
  refine⟨_,_,_,_,_,_,Sels.nil,_,k',rfl,ho,h1,h2,h3,?_⟩
  cases hw:wordB nm with
  | false=>exact .inr ⟨he.out.2 hw,noOne_head (by rw[hhd,hw];rfl)⟩
  | true =>
   refine .inl ⟨he.out.1 hw,(sels_nil w' w'.heap.size).wide ho.size (Nat.le_refl _),⟨by unfold OkI;omega,by unfold OkS;decide,hnm,by unfold OkI;omega⟩,⟨(W.drop k).drop 1,by rw[hhd,hw];rfl,.inl ⟨rfl,h4.out.2,by omega,fun h=>absurd h (by omega)⟩⟩,?_⟩
   have:=h4.out.1 (rd_size hne);omega
 ·exact selRd_field n w p cap k a W hn key nm f ⟨hf,by unfold OkS;omega,by unfold OkS;omega⟩ hs hh hh2 (hid hb) (hid hR) (hid hk) (hid hv)
 ·refine(selRd_flat w p cap k a W hR hk hv 0 ByteArray.empty ByteArray.empty 0 ⟨by unfold OkI;omega,by unfold OkS;decide,by unfold OkS;decide,by unfold OkI;omega⟩ (by omega) (by omega) false (by rw[oneB_other (by omega) (by omega) (by omega)]) hs).mono ?_
  rintro e w' ⟨k',err,rfl,he,ho,h1,h2,h3,h4⟩
  exact⟨_,_,_,_,_,_,Sels.nil,_,k',rfl,ho,h1,h2,h3,.inr ⟨he.out.2 rfl,noOne_head hhd⟩⟩
def Got(L:List RowS)(W0 V:List Tok):Prop:=(∀ X V',Reads X V V'↔Reads (consRows L X) W0 V')∧(∀ s V',Reads s W0 V'→∃ X,s=consRows L X)
theorem got_start(W0:List Tok):Got [] W0 W0:=⟨fun _ _=>Iff.rfl,fun s _ _=>⟨s,rfl⟩⟩
theorem got_more{L:List RowS}{W0 V V1:List Tok}{r:RowS}(h:Got L W0 V)(h1:ReadsOne r.k r.key r.nm r.f r.u V V1)(hw:word V1≠[125]):Got (L++[r]) W0 V1:=by
 refine⟨fun X V'=>?_,fun s V' hs=>?_⟩
 ·rw[consRows_snoc,←h.1,reads_cons]
  refine⟨fun hx=>⟨V1,h1,.inr ⟨hw,hx⟩⟩,?_⟩
  rintro⟨V2,h2,h3⟩
  obtain ⟨_,rfl⟩:=reads_one_sel h1 h2
  rcases h3 with ⟨_,h4,_⟩|⟨_,h4⟩
  ·exact absurd h4 hw
  ·exact h4
 ·obtain ⟨X,rfl⟩:=h.2 s V' hs
  have hx:=(h.1 X V').2 hs
  cases X with
  | nil=>exact hx.elim
  | cons k key nm f u X =>
   obtain ⟨V2,h2,h3⟩:=reads_cons.1 hx
   obtain ⟨⟨rfl,rfl,rfl,rfl,rfl⟩,_⟩:=reads_one_sel h1 h2
   exact⟨X,(consRows_snoc L r X).symm⟩
theorem got_end{L:List RowS}{W0 V V1:List Tok}{r:RowS}(h:Got L W0 V)(h1:ReadsOne r.k r.key r.nm r.f r.u V V1)(hw:word V1=[125]):Reads (rowsSels (L++[r])) W0 (V1.drop 1):=by
 rw[←consRows_nil,consRows_snoc,←h.1,reads_cons]
 exact⟨V1,h1,.inl ⟨rfl,hw,rfl⟩⟩
theorem got_none{L:List RowS}{W0 V:List Tok}(h:Got L W0 V)(h1:¬ ∃ kd key nm f u W1,ReadsOne kd key nm f u V W1):¬ ∃ s V',Reads s W0 V':=by
 rintro⟨s,V',hs⟩
 obtain ⟨X,rfl⟩:=h.2 s V' hs
 have hx:=(h.1 X V').2 hs
 cases X with
 | nil=>exact hx.elim
 | cons k key nm f u X =>
  obtain ⟨V2,h2,_⟩:=reads_cons.1 hx
  exact h1 ⟨_,_,_,_,_,_,h2⟩
theorem ne_empty{a:ByteArray}(h:0<a.size):a≠ByteArray.empty:=fun e=>by rw[e] at h;exact absurd h (by decide)
set_option maxHeartbeats 4000000 in
theorem blockOk_succ(n:Nat)(hs:SelOk n):BlockOk (n+1):=by
 intro w p cap k a W hn hR hk hv
 have hplt:=hR.lt
 have hsm:=hR.small
 have CT:=hid (rpTook w p cap k a W ⟨#[123]⟩ (ne_empty (by decide)) (by decide) hR hk)
 have HV:=hid hv
 have HSel:=hid hs
 clear hv hR hs
 go_enter Tryz.func93,Tryz.ntmps93
 go_wp2_with fail
 refine CT.out.mono ?_
 rintro e w1 ⟨b,rfl,ho,ht,hf⟩
 have HO1:=hid ho
 clear CT ho
 cases b
 ·obtain ⟨hne,hR1⟩:=hf rfl
  have HN:=hid hne
  have HR1:=hid hR1
  clear hf ht hne hR1
  go_wp2_with fail
  go_ret2
  exact⟨_,_,k,rfl,HO1.out,Nat.le_refl _,hk,HR1.out,.inr ⟨rfl,rfl,fun ⟨s,W',h,_⟩=>HN.out h⟩⟩
 obtain ⟨hw,k1,hk1,hk2,hd,hR1⟩:=ht rfl
 have HW:=hid hw
 have HD:=hid hd
 have HR1:=hid hR1
 clear hf ht hw hd hR1
 go_wp2_with fail
 go_loopw [4] (fun v wr=>∃ (L:List RowS) (kc:Nat),k1+L.length≤kc∧kc≤W.length∧Hid (Got L (W.drop k1) (W.drop kc))∧OwnSel wr w.heap.size v L∧RdI wr p a cap W kc∧OnlyP p w wr) (fun v _=>8002 - lenOf v)
 case atStart=>exact⟨[],k1,by simp,hk2,hid (got_start _),OwnSel.none_ _ _,HR1.out,HO1.out⟩
 case round =>
  obtain ⟨L,kc,hlk,hkc,hgot,hown,hR,hO⟩:=hrel
  have HOW:=hid hown
  have HR:=hid hR
  have HO:=hid hO
  have hz:=hO.size
  clear hown hR hO
  go_wp2_with fail
  refine(HSel.out wr p cap kc a W (by omega) HR.out hkc (HO.out.vars hplt HV.out)).mono ?_
  rintro e w2 ⟨kd,key,nm,f,a',cap',u,err,kx,rfl,ho2,h1,h2,hR2,hcase⟩
  have HO2:=hid (HO.out.trans ho2)
  have HR2:=hid hR2
  have HOW2:=hid (HOW.out.frame ho2.size (fun c c1 c2=>ho2.block c c2 (by omega)))
  have HLT:Hid (∀ g,u4.ownBlock=some g→g<wr.heap.size):=hid fun g hg=>(HOW.out.own.lt g hg).2
  have hz2:=ho2.size
  have HHI:Hid (∀ q∈L,q.hi≤wr.heap.size):=hid fun q hq=>(HOW.out.ok q hq).2.2.2.1
  clear ho2 hR2
  rcases hcase with ⟨rfl,hsx,hok,hro,hlt⟩|⟨rfl,hno⟩
  ·have HX:=hid hsx
   have HOK:=hid hok
   have HRO:=hid hro
   clear hsx hok hro
   have hb3:Below w2.heap.size w2 ((w2.alloc (.cells #[.int .i64 kd,.string key,.string nm,.int .i64 f,.slice a' u.len cap'] 97)).alloc (.cells #[.int .i64 kd,.string key,.string nm,.int .i64 f,.slice a' u.len cap'] 97)):=((Below.refl _ w2).alloc (Nat.le_refl _) _).alloc (by simp) _
   have HB3:=hid hb3
   have HC3:Hid (((w2.alloc (.cells #[.int .i64 kd,.string key,.string nm,.int .i64 f,.slice a' u.len cap'] 97)).alloc (.cells #[.int .i64 kd,.string key,.string nm,.int .i64 f,.slice a' u.len cap'] 97)).heap[w2.heap.size+1]?=some (.cells (RowS.cells ⟨kd,key,nm,f,a',cap',u,wr.heap.size,w2.heap.size⟩).toArray 97 (0,0))):=hid (by
    have:=heap_alloc_new (w2.alloc (.cells #[.int .i64 kd,.string key,.string nm,.int .i64 f,.slice a' u.len cap'] 97)) (.cells #[.int .i64 kd,.string key,.string nm,.int .i64 f,.slice a' u.len cap'] 97)
    rw[show (w2.alloc (.cells #[.int .i64 kd,.string key,.string nm,.int .i64 f,.slice a' u.len cap'] 97)).heap.size=w2.heap.size+1 by simp] at this
    exact this)
   have HOW3:=hid (HOW2.out.frame hb3.size (fun c _ c2=>hb3.block c c2))
   have HX3:=hid (HX.out.below (Nat.le_refl _) hb3)
   have hz3:=hb3.size
   have hL:L.length+1≤8001:=by omega
   have HO3:=hid (HO2.out.below (Nat.le_trans hz hz2) hb3)
   have HR3:=hid (HR2.out.below HR2.out.lt hb3)
   clear hb3
   go_wp2_with (at_builtin;refine app_sel rfl _ _ rfl w.heap.size u4 L rfl HOW3.out (w2.heap.size+1) 1 rfl ⟨kd,key,nm,f,a',cap',u,wr.heap.size,w2.heap.size⟩ HC3.out ⟨HOK.out,HX3.out,hz,hz3,fun g hg=>.inl (HLT.out g hg)⟩ HHI.out (by omega) (by omega) ?_;intro v4 w4 hown4 hb4)
   have HOW4:=hid hown4
   have HO4:=hid (HO3.out.below (Nat.le_refl _) hb4)
   have HR4:=hid (HR3.out.below hplt hb4)
   clear hown4 hb4
   refine(rpTook w4 p cap kx a W ⟨#[125]⟩ (ne_empty (by decide)) (by decide) HR4.out h2).mono ?_
   rintro e w5 ⟨b,rfl,ho5,ht,hf⟩
   have HO5:=hid (HO4.out.trans ho5)
   have HOW5:=hid (HOW4.out.frame ho5.size (fun c c1 c2=>ho5.block c c2 (by omega)))
   clear ho5
   cases b
   ·obtain ⟨hne,hR5⟩:=hf rfl
    have HR5:=hid hR5
    have HG5:=hid (got_more (r:=⟨kd,key,nm,f,a',cap',u,wr.heap.size,w2.heap.size⟩) hgot.out HRO.out hne)
    clear ht hf hne hR5
    have hml:lenOf u4=L.length:=HOW.out.len.1
    have hml4:lenOf v4=L.length+1:=by have:=HOW4.out.len.1;simpa using this
    go_wp2_with fail
    go_roundw
    case rel=>exact⟨_,kx,by simp;omega,h2,HG5,HOW5.out,HR5.out,HO5.out⟩
    case measure=>rw[hml,hml4];omega
   ·obtain ⟨hw5,k5,hk5,hk6,hd5,hR5⟩:=ht rfl
    have HR5:=hid hR5
    have HG5:=hid (got_end (r:=⟨kd,key,nm,f,a',cap',u,wr.heap.size,w2.heap.size⟩) hgot.out HRO.out hw5)
    have HD5:=hid hd5
    obtain ⟨a5,cap5,rfl,hcl,hsx5⟩:=HOW5.out.selsX (by simp;omega) HO5.out.size
    have HX5:=hid hsx5
    have HLEN:=hid (rowsSels_len (L++[⟨kd,key,nm,f,a',cap',u,wr.heap.size,w2.heap.size⟩]))
    clear ht hf hw5 hR5 hd5 hsx5
    go_wp2_with fail
    go_ret2
    refine⟨_,_,k5,rfl,HO5.out,by omega,hk6,HR5.out,.inl ⟨rfl,_,a5,cap5,(by rw[HLEN.out];simp),by rw[HLEN.out];exact HX5.out,HW.out,?_,by omega⟩⟩
    rw[←HD.out,HD5.out];exact HG5.out
  ·have HNO:=hid (got_none hgot.out hno)
   clear hno
   go_wp2_with fail
   go_ret2
   exact⟨_,_,kx,rfl,HO2.out.below (by omega) ((Below.refl w.heap.size w2).alloc (by omega) _),by omega,h2,HR2.out.below HR2.out.lt ((Below.refl w2.heap.size w2).alloc (Nat.le_refl _) _),.inr ⟨rfl,rfl,fun ⟨s,W',h,g⟩=>HNO.out ⟨s,W',by rw[HD.out];exact g⟩⟩⟩
theorem blockOk:∀ n,BlockOk n
 | 0=>fun w p cap k a W h=>absurd h (Nat.not_lt_zero _)
 | n+1=>blockOk_succ n (selOk n (blockOk n))
def FragRes(w w':World)(p:Nat)(a:Option Addr)(cap:Nat)(W:List Tok)(k:Nat)(e:Ending):Prop :=
 ∃ nm on a' cap' s err k',e=.returned (.tuple #[.agg #[.string nm,.string on,.slice a' s.len cap'],err])∧OnlyP p w w'∧k≤k'∧k'≤W.length∧RdI w' p a cap W k' ∧
  ((err=.nilIface∧SelsX w' w.heap.size w'.heap.size a' s.len s∧(OkS nm∧OkS on)∧ReadsFrag ⟨nm,on,s⟩ (W.drop k) (W.drop k')∧k<k') ∨
  (err=(.iface 116 (.agg #[.int .i64 3]))∧¬ ∃ x W1,ReadsFrag x (W.drop k) W1))
def set3(w:World)(g:Nat)(v0 v1 v2:Value):World:=((w.setCell ⟨g,0,none⟩ v0).setCell ⟨g,1,none⟩ v1).setCell ⟨g,2,none⟩ v2
theorem set3_block{w:World}{g:Nat}{x0 x1 x2:Value}{T:TypeId}(h:w.heap[g]?=some (.cells #[x0,x1,x2] T (0,0)))(v0 v1 v2:Value) :
  (set3 w g v0 v1 v2).heap[g]?=some (.cells #[v0,v1,v2] T (0,0)) :=
 heap_setCell_same _ g 2 _ _ _ (heap_setCell_same _ g 1 _ _ _ (heap_setCell_same _ g 0 _ _ _ h))
theorem set3_below{B g:Nat}{a w:World}(h:Below B a w)(hg:B≤g)(v0 v1 v2:Value):Below B a (set3 w g v0 v1 v2) :=
 ((h.setCell (p:=⟨g,0,none⟩) hg v0).setCell (p:=⟨g,1,none⟩) hg v1).setCell (p:=⟨g,2,none⟩) hg v2
theorem set3_size(w:World)(g:Nat)(v0 v1 v2:Value):(set3 w g v0 v1 v2).heap.size=w.heap.size:=by simp[set3]
theorem Rd.set3{T:TypeId}{w:World}{p cap k g:Nat}{a:Option Addr}{W:List Tok}(h:Rd T w p a cap W k)(hg:p<g)(v0 v1 v2:Value):Rd T (set3 w g v0 v1 v2) p a cap W k :=
 h.below (B:=p+1) (Nat.lt_succ_self _) (set3_below (Below.refl _ _) hg v0 v1 v2)
theorem OnlyP.set3{p g:Nat}{w w':World}(h:OnlyP p w w')(hg:w.heap.size≤g)(v0 v1 v2:Value):OnlyP p w (set3 w' g v0 v1 v2) :=
 h.below (Nat.le_refl _) (set3_below (Below.refl _ _) hg v0 v1 v2)
theorem SelsX.set3{w:World}{A B len g:Nat}{a:Option Addr}{s:Sels}(h:SelsX w A B a len s)(hg:g<A)(v0 v1 v2:Value):SelsX (set3 w g v0 v1 v2) A B a len s :=
 h.block fun c c1 _=>by
  unfold Selss.set3
  repeat rw[Go.Deep.blk_setCell_other _ ⟨g,_,none⟩ _ c (by show c≠g;omega)]
set_option maxHeartbeats 4000000 in
theorem fragOk(w:World)(p cap k:Nat)(a:Option Addr)(W:List Tok)(hR:RdI w p a cap W k)(hk:k≤W.length)(hv:Vars p w) :
  Calls Tryz.prog 94 #[.pointer (some ⟨p,0,none⟩)] w fun e w'=>FragRes w w' p a cap W k e:=by
 have hplt:=hR.lt
 have HWL:=hid (fun k=>word_len hR.sizes k)
 have HV:=hid hv
 have HA:Hid (∀ o,Below w.heap.size w (w.alloc o)):=hid fun o=>(Below.refl _ _).alloc (Nat.le_refl _) o
 have HR0:Hid (∀ o,RdI (w.alloc o) p a cap W k):=hid fun o=>hR.below hplt (HA.out o)
 clear hv hR
 go_enter Tryz.func94,Tryz.ntmps94
 go_wp2_with fail
 refine(rpTook _ p cap k a W ⟨#[102,114,97,103,109,101,110,116]⟩ (ne_empty (by decide)) (by decide) (HR0.out _) hk).mono ?_
 rintro e w1 ⟨b,rfl,ho,ht,hf⟩
 have hr:=(ho.block w.heap.size (by simp) (by omega)).trans (heap_alloc_new w _)
 have OF:=hid (((OnlyP.refl p w).below (Nat.le_refl _) (HA.out _)).trans ho)
 have hz1:=OF.out.size
 clear ho
 have ⟨⟨e0,e1,e2⟩,p0,p1,p2⟩:=keep3 hr
 cases b
 ·obtain ⟨hne,hR1⟩:=hf rfl
  have HN:=hid hne
  have HR1:=hid hR1
  clear hf ht hne hR1
  have RF:=HR1
  have HFX:=hid (set3_block hr (.string ⟨#[]⟩) (.string ⟨#[]⟩) (.slice none 0 0))
  have HOF:=hid (OF.out.set3 (g:=w.heap.size) (Nat.le_refl _) (.string ⟨#[]⟩) (.string ⟨#[]⟩) (.slice none 0 0))
  have HRF:=hid (Rd.set3 RF.out (g:=w.heap.size) hplt (.string ⟨#[]⟩) (.string ⟨#[]⟩) (.slice none 0 0))
  clear hr
  go_wp2_with fail
  change bodyPost _ _ _ _ _ (set3 w1 w.heap.size (.string ⟨#[]⟩) (.string ⟨#[]⟩) (.slice none 0 0))
  generalize set3 w1 w.heap.size (.string ⟨#[]⟩) (.string ⟨#[]⟩) (.slice none 0 0)=WF at *
  have ⟨⟨f0,f1,f2⟩,_⟩:=keep3 HFX.out
  exact bodyPost_ret (v:=.tuple #[.agg #[.string ⟨#[]⟩,.string ⟨#[]⟩,.slice none 0 0],.iface 116 (.agg #[.int .i64 3])]) (by simp[results,Tryz.results94,go_sem,f0,f1,f2]) rfl ⟨_,_,_,_,Sels.nil,_,k,rfl,HOF.out,Nat.le_refl _,hk,HRF.out,.inr ⟨rfl,fun ⟨x,W1,h⟩=>HN.out h.1⟩⟩
 obtain ⟨hw,k1,hk1,hk2,hd,hR1⟩:=ht rfl
 have HW:=hid hw
 have HD:=hid hd
 have HR1:=hid hR1
 clear hf ht hw hd hR1
 go_wp2_with fail
 refine(rpNext w1 p cap k1 a W HR1.out hk2).mono ?_
 rintro e w2 ⟨rfl,⟨k2,h1,h2,h3,h4,h5⟩,ho⟩
 replace hr:=(ho.block w.heap.size (lt_of_get hr) (by omega)).trans hr
 replace OF:=hid (OF.out.trans ho)
 have HD2:=hid h4
 have HR2:=hid h5
 obtain ⟨nm,hnm⟩:∃ nm,ub (word (W.drop k1))=nm:=⟨_,rfl⟩
 have HOKN:Hid (OkS nm):=hid (by rw[←hnm];exact okS_ub (HWL.out k1))
 rw[hnm]
 have HNM:=hid hnm
 clear h3 h4 h5 ho hnm e0 e1 e2 p0 p1 p2
 go_wp2_with fail
 refine(rpTook w2 p cap k2 a W ⟨#[111,110]⟩ (ne_empty (by decide)) (by decide) HR2.out h2).mono ?_
 rintro e w3 ⟨b,rfl,ho,ht,hf⟩
 replace hr:=(ho.block w.heap.size (lt_of_get hr) (by omega)).trans hr
 replace OF:=hid (OF.out.trans ho)
 have hz3:=OF.out.size
 clear ho
 have ⟨⟨e0,e1,e2⟩,p0,p1,p2⟩:=keep3 hr
 cases b
 ·obtain ⟨hne,hR1⟩:=hf rfl
  have HN:=hid hne
  have RF:=hid hR1
  clear hf ht hne hR1
  have HFX:=hid (set3_block hr (.string ⟨#[]⟩) (.string ⟨#[]⟩) (.slice none 0 0))
  have HOF:=hid (OF.out.set3 (g:=w.heap.size) (Nat.le_refl _) (.string ⟨#[]⟩) (.string ⟨#[]⟩) (.slice none 0 0))
  have HRF:=hid (Rd.set3 RF.out (g:=w.heap.size) hplt (.string ⟨#[]⟩) (.string ⟨#[]⟩) (.slice none 0 0))
  clear hr
  go_wp2_with fail
  change bodyPost _ _ _ _ _ (set3 w3 w.heap.size (.string ⟨#[]⟩) (.string ⟨#[]⟩) (.slice none 0 0))
  generalize set3 w3 w.heap.size (.string ⟨#[]⟩) (.string ⟨#[]⟩) (.slice none 0 0)=WF at *
  have ⟨⟨f0,f1,f2⟩,_⟩:=keep3 HFX.out
  exact bodyPost_ret (v:=.tuple #[.agg #[.string ⟨#[]⟩,.string ⟨#[]⟩,.slice none 0 0],.iface 116 (.agg #[.int .i64 3])]) (by simp[results,Tryz.results94,go_sem,f0,f1,f2]) rfl ⟨_,_,_,_,Sels.nil,_,k2,rfl,HOF.out,by omega,by omega,HRF.out,.inr ⟨rfl,fun ⟨x,W1,h⟩=>HN.out (by rw[HD2.out,HD.out];exact h.2.2.1)⟩⟩
 obtain ⟨hw,k3,hk3,hk4,hd,hR1⟩:=ht rfl
 have HW3:=hid hw
 have HD3:=hid hd
 have HR3:=hid hR1
 clear hf ht hw hd hR1
 go_wp2_with fail
 refine(rpNext w3 p cap k3 a W HR3.out hk4).mono ?_
 rintro e w4 ⟨rfl,⟨k4,h6,h7,h8,h9,h10⟩,ho⟩
 replace hr:=(ho.block w.heap.size (lt_of_get hr) (by omega)).trans hr
 replace OF:=hid (OF.out.trans ho)
 have HR4:=hid h10
 obtain ⟨on,hon⟩:∃ on,ub (word (W.drop k3))=on:=⟨_,rfl⟩
 have HOK:Hid (OkS nm∧OkS on):=hid ⟨HOKN.out,by rw[←hon];exact okS_ub (HWL.out k3)⟩
 rw[hon]
 have HON:=hid hon
 have HDD:Hid (W.drop k4=((((W.drop k).drop 1).drop 1).drop 1).drop 1):=hid (by rw[h9,HD3.out,HD2.out,HD.out])
 have hz4:=lt_of_get hr
 clear h8 h9 h10 ho hon e0 e1 e2 p0 p1 p2
 go_wp2_with fail
 refine(blockOk (W.length - k4+1) w4 p cap k4 a W (by omega) HR4.out h7 (OF.out.vars hplt HV.out)).mono ?_
 rintro e w5 ⟨v,err,k5,rfl,ho5,g1,g2,hR5,hcase⟩
 replace hr:=(ho5.block w.heap.size (lt_of_get hr) (by omega)).trans hr
 replace OF:=hid (OF.out.trans ho5)
 have RF:=hid hR5
 have ⟨⟨e0,e1,e2⟩,p0,p1,p2⟩:=keep3 hr
 clear ho5 hR5
 rcases hcase with ⟨rfl,s,a',cap',rfl,hsx,hwd,hreads,hlt⟩|⟨rfl,rfl,hno⟩
 ·have HX:=hid hsx
  have HRd:=hid (And.intro hwd hreads)
  clear hsx hwd hreads
  have HFX:=hid (set3_block hr (.string nm) (.string on) (.slice a' s.len cap'))
  have HOF:=hid (OF.out.set3 (g:=w.heap.size) (Nat.le_refl _) (.string nm) (.string on) (.slice a' s.len cap'))
  have HRF:=hid (Rd.set3 RF.out (g:=w.heap.size) hplt (.string nm) (.string on) (.slice a' s.len cap'))
  have HSF:Hid (SelsX (set3 w5 w.heap.size (.string nm) (.string on) (.slice a' s.len cap')) w.heap.size (set3 w5 w.heap.size (.string nm) (.string on) (.slice a' s.len cap')).heap.size a' s.len s):=hid (((SelsX.set3 HX.out (g:=w.heap.size) (by omega) (.string nm) (.string on) (.slice a' s.len cap')).wide (by omega) (by rw[set3_size];exact Nat.le_refl _)))
  clear hr
  go_wp2_with fail
  change bodyPost _ _ _ _ _ (set3 w5 w.heap.size (.string nm) (.string on) (.slice a' s.len cap'))
  generalize set3 w5 w.heap.size (.string nm) (.string on) (.slice a' s.len cap')=WF at *
  have ⟨⟨f0,f1,f2⟩,_⟩:=keep3 HFX.out
  exact bodyPost_ret (v:=.tuple #[.agg #[.string nm,.string on,.slice a' s.len cap'],.nilIface]) (by simp[results,Tryz.results94,go_sem,f0,f1,f2]) rfl ⟨_,_,_,_,s,_,k5,rfl,HOF.out,by omega,by omega,HRF.out,.inl ⟨rfl,HSF.out,HOK.out,⟨HW.out,by rw[←HD.out];exact HNM.out.symm,by rw[←HD.out,←HD2.out];exact HW3.out,by rw[←HD.out,←HD2.out,←HD3.out];exact HON.out.symm,by rw[←HDD.out];exact HRd.out.1,by rw[←HDD.out];exact HRd.out.2⟩,by omega⟩⟩
 ·have HN:=hid hno
  clear hno
  have HFX:=hid (set3_block hr (.string nm) (.string on) (.slice none 0 0))
  have HOF:=hid (OF.out.set3 (g:=w.heap.size) (Nat.le_refl _) (.string nm) (.string on) (.slice none 0 0))
  have HRF:=hid (Rd.set3 RF.out (g:=w.heap.size) hplt (.string nm) (.string on) (.slice none 0 0))
  clear hr
  go_wp2_with fail
  change bodyPost _ _ _ _ _ (set3 w5 w.heap.size (.string nm) (.string on) (.slice none 0 0))
  generalize set3 w5 w.heap.size (.string nm) (.string on) (.slice none 0 0)=WF at *
  have ⟨⟨f0,f1,f2⟩,_⟩:=keep3 HFX.out
  exact bodyPost_ret (v:=.tuple #[.agg #[.string nm,.string on,.slice none 0 0],.iface 116 (.agg #[.int .i64 3])]) (by simp[results,Tryz.results94,go_sem,f0,f1,f2]) rfl ⟨_,_,_,_,Sels.nil,_,k5,rfl,HOF.out,by omega,by omega,HRF.out,.inr ⟨rfl,fun ⟨x,W1,h⟩=>HN.out ⟨x.sels,W1,by rw[HDD.out];exact h.2.2.2.2.1,by rw[HDD.out];exact h.2.2.2.2.2⟩⟩⟩
abbrev RdS (w:World) (p:Nat) (a:Option Addr) (cap:Nat) (W:List Tok) (k:Nat):Prop:=Rd 68 w p a cap W k
def ModOk(d:Nat):Prop:=∀ (w:World) (p cap k:Nat) (a:Option Addr) (W:List Tok),RdS w p a cap W k→k≤100000 →
 Calls Tryz.prog 42 #[.pointer (some ⟨p,0,none⟩),.int .i64 d] w fun e w'=>∃ a' cap' k',e=.returned (.slice a' (pSels d (W.drop k)).1.len cap') ∧
  SelsX w' w.heap.size w'.heap.size a' (pSels d (W.drop k)).1.len (pSels d (W.drop k)).1∧RdS w' p a cap W k'∧Hid (W.drop k'=(pSels d (W.drop k)).2)∧k≤k'∧k'≤max k W.length+10 * (d+1)∧OnlyP p w w'
set_option maxHeartbeats 4000000 in
theorem modOk_zero:ModOk 0:=by
 intro w p cap k a W hR hk
 have hplt:=hR.lt
 have HA:Hid (∀ o,Below w.heap.size w (w.alloc o)):=hid fun o=>(Below.refl _ _).alloc (Nat.le_refl _) o
 have HR0:Hid (∀ o,RdS (w.alloc o) p a cap W k):=hid fun o=>hR.below hplt (HA.out o)
 have HOW:Hid (OwnSel (w.alloc (.cells #[] 97)) w.heap.size (.slice (some ⟨w.heap.size,0,none⟩) 0 0) []):=hid (OwnSel.made w w.heap.size (Nat.le_refl _))
 clear hR
 go_enter Tryz.func42,Tryz.ntmps42
 go_wp2_with fail
 refine(rdNext _ p cap k a W (HR0.out _) (by omega)).mono ?_
 rintro e w1 ⟨rfl,hR1,ho⟩
 have HR1:=hid hR1
 have HO1:=hid (((OnlyP.refl p w).below (Nat.le_refl _) (HA.out _)).trans ho)
 have HOW1:=hid (HOW.out.frame ho.size (fun c c1 c2=>ho.block c c2 (by omega)))
 clear hR1 ho
 generalize ub (word (W.drop k))=x at *
 have hx:x.toList=[123]∨x.toList≠[123]:=Decidable.em _
 have HX:Hid (SelsX w1 w.heap.size w1.heap.size (some ⟨w.heap.size,0,none⟩) 0 .nil):=by
  obtain ⟨a5,cap5,h5,h6,hsx⟩:=HOW1.out.selsX (by simp) HO1.out.size
  injection h5 with h5 h7 h8
  rw[←h5] at hsx;exact hid hsx
 have HDR:=hid (show W.drop (k+1)=(W.drop k).drop 1 by rw[List.drop_drop])
 rcases hx with hx|hx
 ·have hxb:(x.toList == [123])=true:=by rw[hx];rfl
  go_wp2_with fail
  all_goals go_ret
  all_goals exact⟨_,_,k+1,rfl,HX.out,HR1.out,HDR,by omega,by omega,HO1.out⟩
 ·have hxb:(x.toList == [123])=false:=beq_eq_false_iff_ne.2 hx
  go_wp2_with fail
  all_goals go_ret
  all_goals exact⟨_,_,k+1,rfl,HX.out,HR1.out,HDR,by omega,by omega,HO1.out⟩
end Go.Proofs.YtmembhpoidcmlaaGreatDoor.Selss
