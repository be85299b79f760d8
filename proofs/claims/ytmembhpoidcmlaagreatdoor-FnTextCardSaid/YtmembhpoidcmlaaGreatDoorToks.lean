/-
  The words of a Doc's text: the text, parted at its blanks, is they; no program. Conditions: a right Doc.
-/
import Derived.Test.YtmembhpoidcmlaaGreatDoorRows
import Derived.Test.YtmembhpoidcmlaaGreatDoorTextS
import Derived.Deep.RegionHeld3
import Derived.Test.YtmembhpoidcmlaaGreatDoorSplitP
namespace Go.Proofs.YtmembhpoidcmlaaGreatDoor.Selss
open Lib (hid)
open Go.RowKit Words Decs
set_option linter.unusedVariables false
set_option maxRecDepth 100000
theorem selsB_drop{s:Sels}{deep:Int}(h:selsB s deep=true):∀ i,selsB (s.drop i) deep=true
 | 0=>h
 | i+1=>by
  have ih:=selsB_drop h i
  cases hd:s.drop i with
  | nil =>
   have h1:=Sels.drop_len i s
   rw[hd] at h1;simp only[Sels.len] at h1
   rw[Sels.drop_end (by omega)];rfl
  | cons k key nm f u r =>
   rw[hd] at ih
   rw[Sels.drop_succ i s hd]
   unfold selsB at ih
   simp only[Bool.and_eq_true] at ih
   exact ih.2
set_option maxRecDepth 100000 in
set_option maxHeartbeats 4000000 in
theorem specText:∀(n:Nat)(s:Sels),s.all<n→∀ (w:World) (A B:Nat) (a:Option Addr) (cap:Nat) (deep:Int),SelsAt w A B a s.len s→B≤w.heap.size→selsB s deep=true→s.all≤1000 →
  Calls Tryz.prog 50 #[.slice a s.len cap] w fun e w'=>e=.returned (.string s.text)∧Below w.heap.size w w':=by
 intro n
 induction n with
 | zero=>intro s h;omega
 | succ n ih =>
  intro s hall w A B a cap deep hs hB hsel hmany
  have hlen:=hs.2.1
  have IH:=hid ih
  have HS:=hid hs
  have HSEL:=hid hsel
  clear ih hs hsel
  go_enter Tryz.func50,Tryz.ntmps50
  go_wp2_with fail
  go_loopw [3,4] (fun t i wr=>∃ (i':Nat) (T:ByteArray),i'≤s.len∧t=.string T∧Hid (T++(s.drop i').body=sB [123,32]++s.body)∧i=.int .i64 i'∧Below w.heap.size w wr) (fun _ i _=>s.len - (intOf i).toNat)
  case atStart=>exact⟨0,_,by omega,rfl,hid rfl,rfl,Below.refl _ _⟩
  case round =>
   obtain ⟨i,T,hi,rfl,hT,rfl,hb⟩:=hrel
   have HB:=hid hb
   have hbs:=body_size s deep HSEL.out
   have hTs:T.size≤40002:=by
    have:=congrArg ByteArray.size hT.out
    simp[ByteArray.size_append,sB_size] at this;omega
   by_cases hlt:i<s.len
   ·have hli:(i:Int)<(s.len:Int):=by omega
    obtain ⟨k,key,nm,f,u,r,b,off,a',cap',hd,rfl,hbb,hok,⟨hc0,hc1,hc2,hc3,hc4⟩,hu⟩:=(HS.out.below (Nat.le_refl _) (hb.mono hB)).at hlt
    have hua:u.all<n:=by have:=Sels.all_drop hd;omega
    have hum:u.all≤1000:=by have:=Sels.all_drop hd;omega
    have hst:=hid (body_step hd)
    have hul:=hu.2.1
    have hsd:=selsB_drop HSEL.out i
    rw[hd] at hsd
    unfold selsB at hsd
    simp only[Bool.and_eq_true] at hsd
    obtain ⟨⟨⟨hone,hdeep⟩,husel⟩,_⟩:=hsd
    have htx:=text_size husel
    have HUN:Hid (∀ (w:World),SelsAt w A B a' u.len u→B≤w.heap.size→Calls Tryz.prog 50 #[.slice a' u.len cap'] w fun e w'=>e=.returned (.string u.text)∧Below w.heap.size w w'):=hid fun w h1 h2=>IH.out u hua w A B a' cap' _ h1 h2 husel hum
    have HU:=hid hu
    have HA:Hid (∀ o,Below w.heap.size w (wr.alloc o)):=hid fun o=>HB.out.alloc HB.out.size o
    have HA2:Hid (∀ o,Below wr.heap.size wr (wr.alloc o)):=hid fun o=>(Below.refl _ _).alloc (Nat.le_refl _) o
    have htx2:u.text.size≤40003:=by omega
    have hcs:=oneB_cases hone
    have hds:f≠-1→k=1→(decB f).size≤3:=fun h h1=>by
     rcases hcs with ⟨_,_,_,h3,h4⟩|⟨h2,_⟩|⟨h2,_⟩
     ·exact decB_size (by omega) h4
     ·omega
     ·omega
    clear hlt hd hb hu hok husel hone hdeep htx
    rcases hcs with ⟨rfl,hks,hns,hf0,hf1⟩|⟨rfl,hns,hup⟩|⟨rfl,hns,hu0⟩
    ·have hx1:(1:Int)≠3:=by decide
     by_cases hkn:key=nm
     ·subst hkn
      by_cases hfm:f=-1
      ·subst hfm
       by_cases hu0:u.len=0
       ·have hui:(u.len:Int)=0:=by omega
        have huj:((u.len:Int) == 0)=true:=by rw[hui];rfl
        go_wp2_with fail
        go_roundw
        case rel=>exact⟨i+1,_,by omega,rfl,hid (by rw[←hT.out,hst.out];simp[headT,fieldT,sB,ByteArray.append_assoc,hu0]),by go_num,HA.out _⟩
        case measure=>simp[intOf];omega
       ·have hu1:u.len≠0:=hu0
        have hui:(0:Int)<(u.len:Int):=by omega
        have huj:((u.len:Int) == 0)=false:=by rw[beq_eq_false_iff_ne];omega
        go_wp2_with fail
        refine(HUN.out _ (HU.out.below (Nat.le_trans hB HB.out.size) (HA2.out _)) (Nat.le_trans hB (HA.out _).size)).mono ?_
        rintro e w1 ⟨rfl,hb1⟩
        have HB1:=hid ((HA.out _).trans (hb1.mono (HA.out _).size))
        clear hb1
        go_wp2_with fail
        go_roundw
        case rel=>exact⟨i+1,_,by omega,rfl,hid (by rw[←hT.out,hst.out];simp[headT,fieldT,sB,ByteArray.append_assoc,hu1]),by go_num,HB1.out⟩
        case measure=>simp[intOf];omega
      ·have hfn:0≤f:=by omega
       have hfb:(f == -1)=false:=by rw[beq_eq_false_iff_ne];exact hfm
       have hd3:=hds hfm rfl
       have CD:Hid (∀ w,Calls Tryz.prog 76 #[.int .i64 f] w fun e w'=>e=.returned (.string (decB f))∧Below w.heap.size w w'):=hid fun w=>by
        obtain ⟨q,rfl⟩:=Int.eq_ofNat_of_zero_le hfn
        exact specDec q (by omega) w
       go_wp2_with fail
       refine(CD.out _).mono ?_
       rintro e w2 ⟨rfl,hb2⟩
       have HA0:=hid ((HA.out _).trans (hb2.mono (HA.out _).size))
       have HX0:=hid ((HA2.out _).trans (hb2.mono (HA2.out _).size))
       have q4:=hb2.cell (p:=⟨wr.heap.size,4,none⟩) (by simp)
       simp at q4
       clear hb2
       by_cases hu0:u.len=0
       ·have hui:(u.len:Int)=0:=by omega
        have huj:((u.len:Int) == 0)=true:=by rw[hui];rfl
        go_wp2_with fail
        go_roundw
        case rel=>exact⟨i+1,_,by omega,rfl,hid (by rw[←hT.out,hst.out];simp[headT,fieldT,sB,ByteArray.append_assoc,hfm,hu0]),by go_num,HA0.out⟩
        case measure=>simp[intOf];omega
       ·have hu1:u.len≠0:=hu0
        have hui:(0:Int)<(u.len:Int):=by omega
        have huj:((u.len:Int) == 0)=false:=by rw[beq_eq_false_iff_ne];omega
        go_wp2_with fail
        refine(HUN.out _ (HU.out.below (Nat.le_trans hB HB.out.size) HX0.out) (Nat.le_trans hB HA0.out.size)).mono ?_
        rintro e w1 ⟨rfl,hb1⟩
        have HB1:=hid (HA0.out.trans (hb1.mono HA0.out.size))
        clear hb1
        go_wp2_with fail
        go_roundw
        case rel=>exact⟨i+1,_,by omega,rfl,hid (by rw[←hT.out,hst.out];simp[headT,fieldT,sB,ByteArray.append_assoc,hfm,hu1]),by go_num,HB1.out⟩
        case measure=>simp[intOf];omega
     ·have hkn1:=toList_ne hkn
      have hkn2:=toList_beq hkn
      by_cases hfm:f=-1
      ·subst hfm
       by_cases hu0:u.len=0
       ·have hui:(u.len:Int)=0:=by omega
        have huj:((u.len:Int) == 0)=true:=by rw[hui];rfl
        go_wp2_with fail
        go_roundw
        case rel=>exact⟨i+1,_,by omega,rfl,hid (by rw[←hT.out,hst.out];simp[headT,fieldT,sB,ByteArray.append_assoc,hkn,hu0]),by go_num,HA.out _⟩
        case measure=>simp[intOf];omega
       ·have hu1:u.len≠0:=hu0
        have hui:(0:Int)<(u.len:Int):=by omega
        have huj:((u.len:Int) == 0)=false:=by rw[beq_eq_false_iff_ne];omega
        go_wp2_with fail
        refine(HUN.out _ (HU.out.below (Nat.le_trans hB HB.out.size) (HA2.out _)) (Nat.le_trans hB (HA.out _).size)).mono ?_
        rintro e w1 ⟨rfl,hb1⟩
        have HB1:=hid ((HA.out _).trans (hb1.mono (HA.out _).size))
        clear hb1
        go_wp2_with fail
        go_roundw
        case rel=>exact⟨i+1,_,by omega,rfl,hid (by rw[←hT.out,hst.out];simp[headT,fieldT,sB,ByteArray.append_assoc,hkn,hu1]),by go_num,HB1.out⟩
        case measure=>simp[intOf];omega
      ·have hfn:0≤f:=by omega
       have hfb:(f == -1)=false:=by rw[beq_eq_false_iff_ne];exact hfm
       have hd3:=hds hfm rfl
       have CD:Hid (∀ w,Calls Tryz.prog 76 #[.int .i64 f] w fun e w'=>e=.returned (.string (decB f))∧Below w.heap.size w w'):=hid fun w=>by
        obtain ⟨q,rfl⟩:=Int.eq_ofNat_of_zero_le hfn
        exact specDec q (by omega) w
       go_wp2_with fail
       refine(CD.out _).mono ?_
       rintro e w2 ⟨rfl,hb2⟩
       have HA0:=hid ((HA.out _).trans (hb2.mono (HA.out _).size))
       have HX0:=hid ((HA2.out _).trans (hb2.mono (HA2.out _).size))
       have q4:=hb2.cell (p:=⟨wr.heap.size,4,none⟩) (by simp)
       simp at q4
       clear hb2
       by_cases hu0:u.len=0
       ·have hui:(u.len:Int)=0:=by omega
        have huj:((u.len:Int) == 0)=true:=by rw[hui];rfl
        go_wp2_with fail
        go_roundw
        case rel=>exact⟨i+1,_,by omega,rfl,hid (by rw[←hT.out,hst.out];simp[headT,fieldT,sB,ByteArray.append_assoc,hkn,hfm,hu0]),by go_num,HA0.out⟩
        case measure=>simp[intOf];omega
       ·have hu1:u.len≠0:=hu0
        have hui:(0:Int)<(u.len:Int):=by omega
        have huj:((u.len:Int) == 0)=false:=by rw[beq_eq_false_iff_ne];omega
        go_wp2_with fail
        refine(HUN.out _ (HU.out.below (Nat.le_trans hB HB.out.size) HX0.out) (Nat.le_trans hB HA0.out.size)).mono ?_
        rintro e w1 ⟨rfl,hb1⟩
        have HB1:=hid (HA0.out.trans (hb1.mono HA0.out.size))
        clear hb1
        go_wp2_with fail
        go_roundw
        case rel=>exact⟨i+1,_,by omega,rfl,hid (by rw[←hT.out,hst.out];simp[headT,fieldT,sB,ByteArray.append_assoc,hkn,hfm,hu1]),by go_num,HB1.out⟩
        case measure=>simp[intOf];omega
    ·have hx1:(2:Int)≠3:=by decide
     have hu1:u.len≠0:=by omega
     have hui:(0:Int)<(u.len:Int):=by omega
     have huj:((u.len:Int) == 0)=false:=by rw[beq_eq_false_iff_ne];omega
     go_wp2_with fail
     refine(HUN.out _ (HU.out.below (Nat.le_trans hB HB.out.size) (HA2.out _)) (Nat.le_trans hB (HA.out _).size)).mono ?_
     rintro e w1 ⟨rfl,hb1⟩
     have HB1:=hid ((HA.out _).trans (hb1.mono (HA.out _).size))
     clear hb1
     go_wp2_with fail
     go_roundw
     case rel=>exact⟨i+1,_,by omega,rfl,hid (by rw[←hT.out,hst.out];simp[headT,sB,ByteArray.append_assoc,hu1]),by go_num,HB1.out⟩
     case measure=>simp[intOf];omega
    ·have hx1:(3:Int)=3:=rfl
     go_wp2_with fail
     go_roundw
     case rel=>exact⟨i+1,_,by omega,rfl,hid (by rw[←hT.out,hst.out];simp[headT,sB,ByteArray.append_assoc,hu0]),by go_num,HA.out _⟩
     case measure=>simp[intOf];omega
   ·obtain rfl:i=s.len:=by omega
    have hf:Hid (T++sB [125]=s.text):=hid (by
     have:=hT.out
     rw[Sels.drop_end (Nat.le_refl _)] at this
     simp only[Sels.body,ByteArray.append_empty] at this
     rw[this];rfl)
    clear hlt hb
    go_wp2_with fail
    go_ret
    exact⟨Decs.ret_string hf.out,HB.out⟩
def fragT(x:FragP):ByteArray:=((((sB [32,102,114,97,103,109,101,110,116,32]++x.name)++sB [32,111,110,32])++x.on)++sB [32])++x.sels.text
def fragsT:List FragP→ByteArray
 | []=>ByteArray.empty
 | x::l=>fragT x++fragsT l
theorem fragsT_drop{l:List FragP}{i:Nat}{x:FragP}(h:l[i]?=some x):fragsT (l.drop i)=fragT x++fragsT (l.drop (i+1)):=by
 obtain ⟨hl,rfl⟩:=List.getElem?_eq_some_iff.1 h
 rw[List.drop_eq_getElem_cons hl];rfl
noncomputable def docT(d:DocP):ByteArray:=if docB d=true then d.sels.text++fragsT d.frags else ByteArray.empty
theorem docT_yes{d:DocP}(h:docB d=true):d.sels.text++fragsT d.frags=docT d:=by unfold docT;rw[if_pos h]
theorem docT_no{d:DocP}(h:docB d=false):ByteArray.empty=docT d:=by unfold docT;rw[h];rfl
theorem fragsB_at{l:List FragP}:∀ {m:List FragP} {k:Nat},fragsB l m k=true→∀ {i:Nat} {x:FragP},m[i]?=some x→fragB l (k+i) x=true
 | [],_,_,i,x,h=>by simp at h
 | y::m,k,hb,i,x,h=>by
  unfold fragsB at hb
  simp only[Bool.and_eq_true] at hb
  cases i with
  | zero=>simp at h;subst h;exact hb.1
  | succ i =>
   have:=fragsB_at hb.2 (i:=i) (x:=x) (by simpa using h)
   rw[show k+(i+1)=k+1+i by omega];exact this
theorem docB_parts{d:DocP}(h:docB d=true):0<d.sels.len∧d.frags.length≤5∧d.all≤60∧selsB d.sels 6=true∧fragsB d.frags d.frags 0=true:=by
 unfold docB at h
 simp only[Bool.and_eq_true,decide_eq_true_eq] at h
 exact⟨h.1.1.1.1,h.1.1.1.2,h.1.1.2,h.1.2,h.2⟩
theorem fragB_parts{l:List FragP}{i:Nat}{x:FragP}(h:fragB l i x=true):wordB x.name=true∧findN x.name l 0=(i:Int)∧typeB x.on=true∧0<x.sels.len∧selsB x.sels 6=true:=by
 unfold fragB at h
 simp only[Bool.and_eq_true,decide_eq_true_eq,beq_iff_eq] at h
 exact⟨h.1.1.1.1,h.1.1.1.2,h.1.1.2,h.1.2,h.2⟩
theorem fragAll_mem{x:FragP}:∀ {l:List FragP} {i:Nat},l[i]?=some x→x.sels.all≤fragAll l
 | y::l,0,h=>by cases h;simp only[fragAll];omega
 | y::l,i+1,h=>by have:=fragAll_mem (l:=l) (i:=i) (by simpa using h);simp only[fragAll];omega
theorem fragT_size{l:List FragP}{i:Nat}{x:FragP}(h:fragB l i x=true)(ha:x.sels.all≤60):(fragT x).size≤2500:=by
 obtain ⟨h1,_,h2,_,h3⟩:=fragB_parts h
 have:=wordB_size h1
 have:=typeB_size h2
 have:=text_size h3
 unfold fragT
 simp[ByteArray.size_append,sB_size];omega
set_option maxRecDepth 100000 in
set_option maxHeartbeats 2000000 in
theorem specDocText(w:World)(A B:Nat)(v:Value)(d:DocP)(hs:DocAt w A B v d)(hB:B≤w.heap.size) :
  Calls Tryz.prog 16 #[v] w fun e w'=>e=.returned (.string (docT d))∧Below w.heap.size w w':=by
 have CR:Hid (∀ w':World,Below w.heap.size w w'→Calls Tryz.prog 25 #[v] w' fun e w''=>e=.returned (.bool (docB d))∧Below w'.heap.size w' w''):=hid fun w' h=>specDocRight w' A B v d (hs.below hB h) (Nat.le_trans hB h.size)
 obtain ⟨a,ca,b,cb,rfl,hsd,hsf,_⟩:=hs
 have HA:Hid (∀ o,Below w.heap.size w (w.alloc o)):=hid fun o=>(Below.refl _ _).alloc (Nat.le_refl _) o
 obtain ⟨q,hb⟩:∃ q,docB d=q:=⟨_,rfl⟩
 rw[hb] at CR
 cases q
 ·have hf:=hid (docT_no hb)
  clear hb hsd hsf
  go_enter Tryz.func16,Tryz.ntmps16
  go_wp2_with fail
  refine(CR.out _ (HA.out _)).mono ?_
  rintro e w1 ⟨rfl,hb1⟩
  have HB1:=hid ((HA.out _).trans (hb1.mono (HA.out _).size))
  clear hb1
  go_wp2_with fail
  go_ret
  exact⟨Decs.ret_string hf.out,HB1.out⟩
 have hf:=hid (docT_yes hb)
 obtain ⟨_,hfl,hall,hsel,hfr⟩:=docB_parts hb
 have hall2:d.sels.all≤60:=by unfold DocP.all at hall;omega
 have hall3:fragAll d.frags≤60:=by unfold DocP.all at hall;omega
 have htx:=text_size hsel
 have CS:Hid (∀ (w':World),Below w.heap.size w w'→Calls Tryz.prog 50 #[.slice a d.sels.len ca] w' fun e w''=>e=.returned (.string d.sels.text)∧Below w'.heap.size w' w'') :=
  hid fun w' h=>specText (d.sels.all+1) d.sels (Nat.lt_succ_self _) w' A B a ca 6 (hsd.below hB h) (Nat.le_trans hB h.size) hsel (by omega)
 have HF:=hid hsf
 have HFR:=hid hfr
 clear hb hsd hsf hsel hfr
 go_enter Tryz.func16,Tryz.ntmps16
 go_wp2_with fail
 refine(CR.out _ (HA.out _)).mono ?_
 rintro e w1 ⟨rfl,hb1⟩
 have k0:=hb1.cell (p:=⟨w.heap.size,0,none⟩) (by simp)
 have k1:=hb1.cell (p:=⟨w.heap.size,1,none⟩) (by simp)
 simp at k0 k1
 have z1:w.heap.size<w1.heap.size:=by have:=hb1.size;simp at this;omega
 have HB1:=hid ((HA.out _).trans (hb1.mono (HA.out _).size))
 clear hb1
 go_wp2_with fail
 refine(CS.out _ HB1.out).mono ?_
 rintro e w2 ⟨rfl,hb2⟩
 obtain ⟨B2,z2,k2,j2⟩:=kstep HB1.out z1 k0 k1 hb2
 have HB2:=hid B2
 clear hb2 B2 k0 k1 CS CR
 go_wp2_with fail
 go_loopw [3,4] (fun t i wr=>∃ (i':Nat) (T:ByteArray),i'≤d.frags.length∧t=.string T∧Hid (T++fragsT (d.frags.drop i')=docT d)∧T.size≤2403+2500 * i'∧i=.int .i64 i'∧wr.cell? ⟨w.heap.size,0,none⟩=some (.slice a d.sels.len ca)∧wr.cell? ⟨w.heap.size,1,none⟩=some (.slice b d.frags.length cb)∧w.heap.size<wr.heap.size∧Below w.heap.size w wr) (fun _ i _=>d.frags.length - (intOf i).toNat)
 case atStart=>exact⟨0,_,by omega,rfl,hid (by rw[List.drop_zero];exact hf.out),by omega,rfl,k2,j2,z2,HB2.out⟩
 case round =>
  obtain ⟨i,T,hi,rfl,hT,hTs,rfl,hk0,hk1,hz,hb⟩:=hrel
  have HB:=hid hb
  clear k2 j2 z2 HB2 HB1
  by_cases hlt:i<d.frags.length
  ·have hli:(i:Int)<(d.frags.length:Int):=by omega
   obtain ⟨x,fb,off,a',cap',hd,rfl,hbb,hox,⟨hc0,hc1,hc2⟩,hu⟩:=(HF.out.below (Nat.le_refl _) (hb.mono hB)).at hlt
   have hfb:=fragsB_at HFR.out hd
   have hxa:x.sels.all≤60:=Nat.le_trans (fragAll_mem hd) hall3
   have hst:=hid (fragsT_drop hd)
   have hsz:=fragT_size hfb hxa
   obtain ⟨hw,_,ht,hpos,hxs⟩:=fragB_parts hfb
   have hns:=wordB_size hw
   have hos:=typeB_size ht
   have hxt:x.sels.text.size≤2403:=by have:=text_size hxs;omega
   have HU:=hid hu
   have CX:Hid (∀ (w':World),Below wr.heap.size wr w'→Calls Tryz.prog 50 #[.slice a' x.sels.len cap'] w' fun e w''=>e=.returned (.string x.sels.text)∧Below w'.heap.size w' w'') :=
    hid fun w' h=>specText (x.sels.all+1) x.sels (Nat.lt_succ_self _) w' A B a' cap' 6 (HU.out.below (Nat.le_trans hB HB.out.size) h) (Nat.le_trans (Nat.le_trans hB HB.out.size) h.size) hxs (by omega)
   have HA3:Hid (∀ o,Below w.heap.size w (wr.alloc o)):=hid fun o=>HB.out.alloc HB.out.size o
   have HA4:Hid (∀ o,Below wr.heap.size wr (wr.alloc o)):=hid fun o=>(Below.refl _ _).alloc (Nat.le_refl _) o
   clear hlt hd hb hu hox hfb hw ht hxs
   go_wp2_with fail
   have s1:¬ 9223372036854775807<T.size+10:=by omega
   have s2:¬ 9223372036854775807<T.size+10+x.name.size:=by omega
   have s3:¬ 9223372036854775807<T.size+10+x.name.size+4:=by omega
   have s4:¬ 9223372036854775807<T.size+10+x.name.size+4+x.on.size:=by omega
   have s5:¬ 9223372036854775807<T.size+10+x.name.size+4+x.on.size+1:=by omega
   have s6:¬ 9223372036854775807<T.size+10+x.name.size+4+x.on.size+1+x.sels.text.size:=by omega
   have c0:((wr.alloc (.cells #[.string x.name,.string x.on,.slice a' x.sels.len cap'] 51)).drew).cell? ⟨wr.heap.size,0,none⟩=some (.string x.name):=by show (wr.alloc _).cell? _=_;simp
   have c1:((wr.alloc (.cells #[.string x.name,.string x.on,.slice a' x.sels.len cap'] 51)).drew).cell? ⟨wr.heap.size,1,none⟩=some (.string x.on):=by show (wr.alloc _).cell? _=_;simp
   have c2:((wr.alloc (.cells #[.string x.name,.string x.on,.slice a' x.sels.len cap'] 51)).drew).cell? ⟨wr.heap.size,2,none⟩=some (.slice a' x.sels.len cap'):=by show (wr.alloc _).cell? _=_;simp
   have hlz:wr.heap.size<((wr.alloc (.cells #[.string x.name,.string x.on,.slice a' x.sels.len cap'] 51)).drew).heap.size:=by show _<(wr.alloc _).heap.size;simp
   have HD4:Hid (Below wr.heap.size wr ((wr.alloc (.cells #[.string x.name,.string x.on,.slice a' x.sels.len cap'] 51)).drew)):=hid (HA4.out _).drew
   go_region_held3 (fun w'=>w'.cell? ⟨wr.heap.size,0,none⟩=some (.string x.name)∧w'.cell? ⟨wr.heap.size,1,none⟩=some (.string x.on)∧w'.cell? ⟨wr.heap.size,2,none⟩=some (.slice a' x.sels.len cap')) (go_keep)
    (first | (go_at_call 50;refine(CX.out _ (HA4.out _).drew).mono ?_;rintro e w3 ⟨rfl,hb3⟩;have q0:=kcell hb3 hlz c0;have q1:=kcell hb3 hlz c1;have q2:=kcell hb3 hlz c2))
   all_goals
    have HX3:=HD4.out.trans (hb3.mono HD4.out.size)
    obtain ⟨B3,z3,k3,j3⟩:=kstep HB.out hz hk0 hk1 HX3
    have HB3:=hid B3
    clear hb3 HX3 B3 hk0 hk1 c0 c1 c2 HD4
    go_wp2_with fail
    go_roundw
    case rel=>exact⟨i+1,_,by omega,rfl,hid (by rw[←hT.out,hst.out];simp[fragT,sB,ByteArray.append_assoc]),Nat.le_trans (Nat.le_of_eq (congrArg ByteArray.size (by simp[fragT,sB,ByteArray.append_assoc]:_=T++fragT x))) (by rw[ByteArray.size_append];omega),by go_num,k3,j3,z3,HB3.out⟩
    case measure=>simp[intOf];omega
  ·obtain rfl:i=d.frags.length:=by omega
   have hfin:Hid (T=docT d):=hid (by have:=hT.out;rw[List.drop_length] at this;simpa [fragsT] using this)
   clear hlt hb
   go_wp2_with fail
   go_ret
   exact⟨Decs.ret_string hfin.out,HB.out⟩
end Go.Proofs.YtmembhpoidcmlaaGreatDoor.Selss
namespace Go.Proofs.YtmembhpoidcmlaaGreatDoor.Selss
open Go.RowKit Words Decs Splits
set_option linter.unusedVariables false
set_option maxRecDepth 100000
abbrev Tok:=List UInt8
def bl(b:ByteArray):Tok:=b.data.toList
theorem bl_append(a b:ByteArray):bl (a++b)=bl a++bl b:=by simp[bl]
theorem bl_sB(l:List UInt8):bl (sB l)=l:=by simp[bl,sB]
theorem bl_empty:bl ByteArray.empty=[]:=rfl
theorem bl_inj{a b:ByteArray}(h:bl a=bl b):a=b:=ByteArray.ext (Array.toList_inj.1 h)
def flat:List Tok→List UInt8
 | []=>[]
 | t::r=>(t++[32])++flat r
theorem flat_append(a b:List Tok):flat (a++b)=flat a++flat b:=by
 induction a with
 | nil=>rfl
 | cons t r ih=>simp[flat,ih]
def Sels.toks:Sels→List Tok
 | .nil=>[]
 | .cons k key nm f u r =>
  (if k=3 then [[46,46,46]++bl nm]
  else (if k=2 then [[46,46,46,111,110],bl nm] else [bl (fieldT key nm f)])++(if u.len=0 then [] else [123]::(u.toks++[[125]])))++r.toks
theorem body_flat:∀ s:Sels,bl s.body=flat s.toks
 | .nil=>rfl
 | .cons k key nm f u r=>by
  have hu:=body_flat u
  have hr:=body_flat r
  simp only[Sels.body,Sels.toks,bl_append,hr,flat_append]
  congr 1
  unfold headT
  by_cases h3:k=3
  ·simp[h3,flat,bl_append,bl_sB,bl_empty]
  ·by_cases hl:u.len=0
   ·by_cases h2:k=2
    ·simp[h2,hl,flat,bl_append,bl_sB,bl_empty]
    ·simp[h3,h2,hl,flat,bl_append,bl_sB,bl_empty]
   ·by_cases h2:k=2
    ·simp[h2,hl,flat,flat_append,bl_append,bl_sB,hu]
    ·simp[h3,h2,hl,flat,flat_append,bl_append,bl_sB,hu]
theorem text_flat(s:Sels):bl s.text++[32]=flat ([123]::(s.toks++[[125]])):=by
 simp[Sels.text,bl_append,bl_sB,body_flat,flat,flat_append]
def fragToks(x:FragP):List Tok:=[[102,114,97,103,109,101,110,116],bl x.name,[111,110],bl x.on]++([123]::(x.sels.toks++[[125]]))
def fragsToks:List FragP→List Tok
 | []=>[]
 | x::l=>fragToks x++fragsToks l
theorem fragT_flat(x:FragP):bl (fragT x)++[32]=32::flat (fragToks x):=by
 have:=text_flat x.sels
 simp only[fragT,bl_append,bl_sB,fragToks,flat_append,flat,List.append_assoc] at this ⊢
 simp[this]
theorem fragsT_flat:∀ l:List FragP,bl (fragsT l)++[32]=32::flat (fragsToks l)
 | []=>rfl
 | x::l=>by
  have h1:=fragT_flat x
  have h2:=fragsT_flat l
  simp only[fragsT,fragsToks,bl_append,flat_append,List.append_assoc]
  rw[h2,←List.singleton_append,←List.append_assoc,h1];rfl
def docToks(d:DocP):List Tok:=[123]::(d.sels.toks++[[125]])++fragsToks d.frags
theorem docT_flat{d:DocP}(h:docB d=true):bl (docT d)++[32]=flat (docToks d):=by
 rw[←docT_yes h,bl_append,List.append_assoc,fragsT_flat]
 have:=text_flat d.sels
 unfold docToks
 rw[flat_append,←this];simp
theorem splitL_word{c:UInt8}:∀ {t:Tok},c∉t→∀ rest,splitL c (t++c::rest)=t::splitL c rest
 | [],_,rest=>by simp[splitL]
 | x::t,h,rest=>by
  have hx:x≠c:=fun e=>h (by simp[e])
  have ht:c∉t:=fun e=>h (by simp[e])
  rw[List.cons_append,splitL,if_neg hx,splitL_word ht rest];rfl
theorem splitL_last{c:UInt8}:∀ {t:Tok},c∉t→splitL c t=[t]
 | [],_=>rfl
 | x::t,h=>by
  have hx:x≠c:=fun e=>h (by simp[e])
  have ht:c∉t:=fun e=>h (by simp[e])
  rw[splitL,if_neg hx,splitL_last ht];rfl
theorem splitL_flat:∀{ts:List Tok},(∀ t∈ts,(32:UInt8)∉t)→ts≠[]→∀ l,l++[32]=flat ts→splitL 32 l=ts
 | [],_,h,_,_=>absurd rfl h
 | [t],hs,_,l,hl=>by
  simp only[flat,List.append_nil] at hl
  have:l=t:=List.append_cancel_right hl
  subst this
  exact splitL_last (hs _ (by simp))
 | t::t2::r,hs,_,l,hl=>by
  have ht:(32:UInt8)∉t:=hs t (by simp)
  have hne:flat (t2::r)≠[]:=by simp[flat]
  obtain ⟨l2,hl2⟩:∃ l2,flat (t2::r)=l2++[32]:=by
   have key:∀ q:List Tok,q≠[]→∃ l2,flat q=l2++[32]:=by
    intro q
    induction q with
    | nil=>intro h;exact absurd rfl h
    | cons a q ih =>
     intro _
     cases q with
     | nil=>exact⟨a,by simp[flat]⟩
     | cons b q' =>
      obtain ⟨m,hm⟩:=ih (by simp)
      exact⟨(a++[32])++m,by rw[flat,hm];simp⟩
   exact key _ (by simp)
  have e:l=t++32::l2:=by
   rw[flat,hl2,←List.append_assoc] at hl
   have:=List.append_cancel_right hl
   rw[this];simp
  rw[e,splitL_word ht,splitL_flat (fun x hx=>hs x (by simp only[List.mem_cons] at hx ⊢;exact .inr hx)) (by simp) l2 hl2.symm]
end Go.Proofs.YtmembhpoidcmlaaGreatDoor.Selss
