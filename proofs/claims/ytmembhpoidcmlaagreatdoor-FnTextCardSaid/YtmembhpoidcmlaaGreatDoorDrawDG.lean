/-
  A question that was drawn, when one thing of it is written anew, or a selection more stands within one of its selections, or of its Frags. Conditions: as each theorem says.
-/
import Derived.Test.YtmembhpoidcmlaaGreatDoorRows
import Derived.Test.YtmembhpoidcmlaaGreatDoorDrawDD
namespace Go.Proofs.YtmembhpoidcmlaaGreatDoor.Draws
open Go.RowKit Texts Bytes Rw Words
open Selss (OwnSel RowS rowsSels SelsX Sels OwnFrag RowF FragP SelsAt FragsAt)
set_option linter.unusedVariables false
set_option maxRecDepth 100000
theorem OwnIn.own{w:World}{lo hi:Nat}{v:Value}{L:List RowS}(h:OwnIn w lo hi v L)(hh:hi≤w.heap.size):OwnSel w lo v L:=by
 obtain ⟨w0,rfl,h2,h3,h4⟩:=h
 exact h2.frame hh h4
theorem lie_rows{w:World}{A B b:Nat}(hb:b<B):∀ {R:List RowS} {off:Nat},(∀ r∈R,(Selss.OkI r.k∧Selss.OkS r.key∧Selss.OkS r.nm∧Selss.OkI r.f)∧SelsAt w A B r.a r.u.len r.u)→(∀ j u,(R.flatMap RowS.cells)[j]?=some u→w.cell? ⟨b,off+j,none⟩=some u)→Selss.Lie w A B (rowsSels R) b off
 | [],off,_,_=>trivial
 | r::R,off,hok,hc=>by
  have h1:=hok r (by simp)
  have hq:∀ q u,r.cells[q]?=some u→w.cell? ⟨b,off+q,none⟩=some u:=fun q u hq=>by
   have:=hc (0 * 5+q) u (flat_at (R:=r::R) (i:=0) rfl hq)
   rwa [Nat.zero_mul,Nat.zero_add] at this
  refine⟨h1.1,hb,by have:=hq 0 _ rfl;rwa [Nat.add_zero] at this,hq 1 _ rfl,hq 2 _ rfl,hq 3 _ rfl,⟨r.a,r.cap,hq 4 _ rfl,h1.2.2.1,h1.2.2.2⟩,lie_rows hb (fun x hx=>hok x (by simp[hx])) fun j u hj=>?_⟩
  have e:r.cells.length=5:=rfl
  have:=hc (5+j) u (by rw[List.flatMap_cons,List.getElem?_append_right (by rw[e];omega),e,show 5+j - 5=j by omega];exact hj)
  rwa [show off+5+j=off+(5+j) by omega]
theorem flat_set:∀{R:List RowS}{i q:Nat}{r r':RowS}{u:Value},R[i]?=some r→r'.cells=r.cells.set q u→q<5→((R.set i r').flatMap RowS.cells)=(R.flatMap RowS.cells).set (i * 5+q) u
 | x::R,0,q,r,r',u,h,hc,hq=>by
  cases h
  have e:x.cells.length=5:=rfl
  rw[List.set_cons_zero,List.flatMap_cons,List.flatMap_cons,hc,Nat.zero_mul,Nat.zero_add,List.set_append_left _ _ (by rw[e];exact hq)]
 | x::R,i+1,q,r,r',u,h,hc,hq=>by
  have e:x.cells.length=5:=rfl
  rw[List.set_cons_succ,List.flatMap_cons,List.flatMap_cons,flat_set (by simpa using h) hc hq,List.set_append_right _ _ (by rw[e];omega),e,show (i+1) * 5+q - 5=i * 5+q by omega]
theorem sels_rows{A:Nat}{w:World}{gb n:Nat}{C:Array Value}{T:TypeId}{L:List RowS}(hg:w.heap[gb]?=some (.cells C T (0,0)))(hn:n=L.length)(ht:C.toList.take (n * 5)=L.flatMap RowS.cells)(hl:L.length≤1000)(hA:A≤gb)
  (hok:∀ r∈L,(Selss.OkI r.k∧Selss.OkS r.key∧Selss.OkS r.nm∧Selss.OkI r.f)∧SelsAt w A w.heap.size r.a r.u.len r.u):SelsAt w A w.heap.size (some ⟨gb,0,none⟩) n (rowsSels L):=by
 refine⟨by rw[Selss.rowsSels_len,hn],by rw[Selss.rowsSels_len];omega,.inr ⟨gb,0,rfl,hA,lie_rows (lt_of_get hg) hok fun j u hj=>?_⟩⟩
 rw[Nat.zero_add]
 rw[←ht] at hj
 have h2:=(List.getElem?_eq_some_iff.1 hj).1
 rw[List.length_take] at h2
 rw[List.getElem?_take_of_lt (by omega)] at hj
 exact cell_of hg (by rw[←hj];simp)
theorem sels_put{A:Nat}{W W':World}{lo M:Nat}{a:Option Addr}{n c:Nat}{L:List RowS}(hA:A≤lo)(h:OwnIn W lo M (.slice a n c) L)(hM:M≤W.heap.size)(hl:L.length≤1000){i q gb:Nat}{r r':RowS}{u:Value}(hi:L[i]?=some r)(ha:a=some ⟨gb,0,none⟩)(hq:q<5)(hc:r'.cells=r.cells.set q u)
  (hgb:W'.heap[gb]?=(W.setCell ⟨gb,i * 5+q,none⟩ u).heap[gb]?) (hz:W.heap.size≤W'.heap.size) (hok:Selss.OkI r'.k∧Selss.OkS r'.key∧Selss.OkS r'.nm∧Selss.OkI r'.f) (hin:SelsAt W' A W'.heap.size r'.a r'.u.len r'.u)
  (hoth:∀ x∈L,∀ j,L[j]?=some x→j≠i→∀ d,x.lo≤d→d<x.hi→W'.heap[d]?=W.heap[d]?):SelsAt W' A W'.heap.size a n (rowsSels (L.set i r')):=by
 have ho:=h.own hM
 obtain ⟨gb',C,e,hb,hg,hn,hs,hcc,ht⟩:=OwnSel.place ho (by rintro rfl;simp at hi)
 obtain rfl:gb'=gb:=by rw[ha] at e;cases e;rfl
 have hlt:i<L.length:=(List.getElem?_eq_some_iff.1 hi).1
 have hg':=hgb.trans (heap_setCell_same W gb' (i * 5+q) _ _ u hg)
 rw[ha]
 refine sels_rows hg' (by rw[List.length_set];exact hn) ?_ (by rw[List.length_set];exact hl) (by omega) fun x hx=>?_
 ·rw[flat_set hi hc hq,←ht,Array.toList_setIfInBounds,List.take_set]
 ·obtain ⟨j,hj⟩:=List.mem_iff_getElem?.1 hx
  by_cases e:j=i
  ·subst e
   rw[List.getElem?_set_self hlt] at hj
   cases hj
   exact⟨hok,hin⟩
  ·rw[List.getElem?_set_ne (fun h=>e h.symm)] at hj
   have hm:=List.mem_of_getElem? hj
   obtain ⟨g1,g2,g3,g4,g5⟩:=ho.ok x hm
   exact⟨g1,(g2.block (hoth x hm j hj e)).sels.wide (by omega) (by omega)⟩
theorem sels_of{A:Nat}{W:World}{lo M:Nat}{a:Option Addr}{n c:Nat}{L:List RowS}(hA:A≤lo)(h:OwnIn W lo M (.slice a n c) L)(hM:M≤W.heap.size)(hl:L.length≤1000)(hn:n=L.length):SelsAt W A W.heap.size a n (rowsSels L):=by
 obtain ⟨w0,rfl,h2,h3,h4⟩:=h
 obtain ⟨a9,c9,e9,_,hx⟩:=h2.selsX (by omega) h3
 subst hn
 obtain ⟨rfl,rfl⟩:a=a9∧c=c9:=by cases e9;exact⟨rfl,rfl⟩
 exact(hx.block h4).sels.wide hA hM
end Go.Proofs.YtmembhpoidcmlaaGreatDoor.Draws
namespace Go.Proofs.YtmembhpoidcmlaaGreatDoor.Draws
open Go.RowKit Texts Bytes Rw Words
open Selss (OwnSel RowS rowsSels SelsX Sels OwnFrag RowF FragP DocP DocAt SelsAt FragsAt FragLie)
set_option linter.unusedVariables false
set_option maxRecDepth 100000
theorem flatF_at:∀{R:List RowF}{i q:Nat}{r:RowF}{u:Value},R[i]?=some r→r.cells[q]?=some u→(R.flatMap RowF.cells)[i * 3+q]?=some u
 | x::R,0,q,r,u,h,hq=>by
  cases h
  rw[List.flatMap_cons,Nat.zero_mul,Nat.zero_add,List.getElem?_append_left (List.getElem?_eq_some_iff.1 hq).1];exact hq
 | x::R,i+1,q,r,u,h,hq=>by
  have e:x.cells.length=3:=rfl
  rw[List.flatMap_cons,List.getElem?_append_right (by rw[e];omega),e,show (i+1) * 3+q - 3=i * 3+q by omega]
  exact flatF_at (by simpa using h) hq
theorem flatF_set:∀{R:List RowF}{i q:Nat}{r r':RowF}{u:Value},R[i]?=some r→r'.cells=r.cells.set q u→q<3→((R.set i r').flatMap RowF.cells)=(R.flatMap RowF.cells).set (i * 3+q) u
 | x::R,0,q,r,r',u,h,hc,hq=>by
  cases h
  have e:x.cells.length=3:=rfl
  rw[List.set_cons_zero,List.flatMap_cons,List.flatMap_cons,hc,Nat.zero_mul,Nat.zero_add,List.set_append_left _ _ (by rw[e];exact hq)]
 | x::R,i+1,q,r,r',u,h,hc,hq=>by
  have e:x.cells.length=3:=rfl
  rw[List.set_cons_succ,List.flatMap_cons,List.flatMap_cons,flatF_set (by simpa using h) hc hq,List.set_append_right _ _ (by rw[e];omega),e,show (i+1) * 3+q - 3=i * 3+q by omega]
def FragIn(w:World)(lo hi:Nat)(v:Value)(L:List RowF):Prop:=∃ w0:World,w0.heap.size=hi∧OwnFrag w0 lo v L∧lo≤hi∧∀ c,lo≤c→c<hi→w.heap[c]?=w0.heap[c]?
theorem FragIn.frame{w w':World}{lo hi:Nat}{v:Value}{L:List RowF}(h:FragIn w lo hi v L)(g:∀ c,lo≤c→c<hi→w'.heap[c]?=w.heap[c]?):FragIn w' lo hi v L:=by
 obtain ⟨w0,h1,h2,h3,h4⟩:=h
 exact⟨w0,h1,h2,h3,fun c c1 c2=>(g c c1 c2).trans (h4 c c1 c2)⟩
theorem FragIn.own{w:World}{lo hi:Nat}{v:Value}{L:List RowF}(h:FragIn w lo hi v L)(hh:hi≤w.heap.size):OwnFrag w lo v L:=by
 obtain ⟨w0,rfl,h2,h3,h4⟩:=h
 exact h2.frame hh h4
theorem FragIn.place{w:World}{lo hi:Nat}{a:Option Addr}{n c:Nat}{L:List RowF}(h:FragIn w lo hi (.slice a n c) L)(hL:L≠[]) :
  ∃ gb C,a=some ⟨gb,0,none⟩∧lo≤gb∧gb<hi∧w.heap[gb]?=some (.cells C 51 (0,0))∧n=L.length∧n≤c∧C.toList.take (n * 3)=L.flatMap RowF.cells:=by
 obtain ⟨w0,rfl,h2,h3,h4⟩:=h
 obtain ⟨hl,⟨hv,hn⟩|⟨gb,cap,cur,hv,hb,hg,hc,hm,hs,ht⟩⟩:=h2.own
 ·exact absurd (List.eq_nil_of_length_eq_zero hn) hL
 ·cases hv
  exact⟨gb,cur,rfl,hb,lt_of_get hg,(h4 gb hb (lt_of_get hg)).trans hg,rfl,hc,ht⟩
theorem FragIn.cell{w:World}{lo hi:Nat}{a:Option Addr}{n c:Nat}{L:List RowF}(h:FragIn w lo hi (.slice a n c) L){i:Nat}{r:RowF}(hi':L[i]?=some r) :
  ∃ gb,a=some ⟨gb,0,none⟩∧lo≤gb∧gb<hi∧n=L.length∧n≤c∧(∀ q u,r.cells[q]?=some u→w.cell? ⟨gb,i * 3+q,none⟩=some u)∧∀ j,w.frozen? ⟨gb,j,none⟩=false:=by
 obtain ⟨gb,C,e,hb,hlt,hg,hn,hc,ht⟩:=FragIn.place h (by rintro rfl;simp at hi')
 refine⟨gb,e,hb,hlt,hn,hc,fun q u hq=>?_,fun j=>frozen_of_row w gb j _ _ hg⟩
 have hf:=flatF_at hi' hq
 rw[←ht] at hf
 have h2:=(List.getElem?_eq_some_iff.1 hf).1
 rw[List.length_take] at h2
 rw[List.getElem?_take_of_lt (by omega)] at hf
 exact cell_of hg (by rw[←hf];simp)
theorem frags_rows{A:Nat}{w:World}{gb n:Nat}{C:Array Value}{T:TypeId}{L:List RowF}(hg:w.heap[gb]?=some (.cells C T (0,0)))(hn:n=L.length)(ht:C.toList.take (n * 3)=L.flatMap RowF.cells)(hl:L.length≤1000)(hA:A≤gb)
  (hok:∀ r∈L,(Selss.OkS r.nm∧Selss.OkS r.on)∧SelsAt w A w.heap.size r.a r.u.len r.u):FragsAt w A w.heap.size (some ⟨gb,0,none⟩) n (L.map RowF.frag):=by
 refine⟨by rw[List.length_map,hn],by omega,.inr ⟨gb,0,rfl,hA,lt_of_get hg,fun i x hx=>?_⟩⟩
 rw[List.getElem?_map] at hx
 obtain ⟨r,hr,rfl⟩:=Option.map_eq_some_iff.1 hx
 obtain ⟨⟨h1,h2⟩,h3⟩:=hok r (List.mem_of_getElem? hr)
 have hq:∀ q u,r.cells[q]?=some u→w.cell? ⟨gb,i * 3+q,none⟩=some u:=fun q u hq=>by
  have hf:=flatF_at hr hq
  rw[←ht] at hf
  have h2:=(List.getElem?_eq_some_iff.1 hf).1
  rw[List.length_take] at h2
  rw[List.getElem?_take_of_lt (by omega)] at hf
  exact cell_of hg (by rw[←hf];simp)
 exact⟨h1,h2,by rw[Nat.zero_add];exact hq 0 _ rfl,by rw[Nat.zero_add];exact hq 1 _ rfl,r.a,r.cap,by rw[Nat.zero_add];exact hq 2 _ rfl,h3⟩
theorem frags_put{A:Nat}{W W':World}{lo M:Nat}{a:Option Addr}{n c:Nat}{L:List RowF}(hA:A≤lo)(h:FragIn W lo M (.slice a n c) L)(hM:M≤W.heap.size)(hl:L.length≤1000){i q gb:Nat}{r r':RowF}{u:Value}(hi:L[i]?=some r)(ha:a=some ⟨gb,0,none⟩)(hq:q<3)(hc:r'.cells=r.cells.set q u)
  (hgb:W'.heap[gb]?=(W.setCell ⟨gb,i * 3+q,none⟩ u).heap[gb]?) (hz:W.heap.size≤W'.heap.size) (hok:Selss.OkS r'.nm∧Selss.OkS r'.on) (hin:SelsAt W' A W'.heap.size r'.a r'.u.len r'.u)
  (hoth:∀ x∈L,∀ j,L[j]?=some x→j≠i→∀ d,x.lo≤d→d<x.hi→W'.heap[d]?=W.heap[d]?):FragsAt W' A W'.heap.size a n ((L.set i r').map RowF.frag):=by
 have ho:=h.own hM
 obtain ⟨gb',C,e,hb,hlt',hg,hn,hcc,ht⟩:=FragIn.place h (by rintro rfl;simp at hi)
 obtain rfl:gb'=gb:=by rw[ha] at e;cases e;rfl
 have hlt:i<L.length:=(List.getElem?_eq_some_iff.1 hi).1
 have hg':=hgb.trans (heap_setCell_same W gb' (i * 3+q) _ _ u hg)
 rw[ha]
 refine frags_rows hg' (by rw[List.length_set];exact hn) ?_ (by rw[List.length_set];exact hl) (by omega) fun x hx=>?_
 ·rw[flatF_set hi hc hq,←ht,Array.toList_setIfInBounds,List.take_set]
 ·obtain ⟨j,hj⟩:=List.mem_iff_getElem?.1 hx
  by_cases e:j=i
  ·subst e
   rw[List.getElem?_set_self hlt] at hj
   cases hj
   exact⟨hok,hin⟩
  ·rw[List.getElem?_set_ne (fun h=>e h.symm)] at hj
   have hm:=List.mem_of_getElem? hj
   obtain ⟨⟨g1,g2⟩,g3,g4,g5⟩:=ho.ok x hm
   exact⟨g1,(g2.block (hoth x hm j hj e)).sels.wide (by omega) (by omega)⟩
theorem frags_of{A:Nat}{W:World}{lo M:Nat}{a:Option Addr}{n c:Nat}{L:List RowF}(hA:A≤lo)(h:FragIn W lo M (.slice a n c) L)(hM:M≤W.heap.size)(hl:L.length≤1000)(hL:L≠[]):FragsAt W A W.heap.size a n (L.map RowF.frag):=by
 have ho:=h.own hM
 obtain ⟨gb,C,e,hb,hlt,hg,hn,hcc,ht⟩:=FragIn.place h hL
 rw[e]
 refine frags_rows hg hn ht hl (by omega) fun x hx=>?_
 obtain ⟨⟨g1,g2⟩,g3,g4,g5⟩:=ho.ok x hx
 exact⟨g1,g2.sels.wide (by omega) g4⟩
structure DocT(w W:World)(p len cap:Nat)(a:Option Addr)(db:Nat)(ra:Option Addr)(rc:Nat)(L:List RowS)(lo M E:Nat)(fa:Option Addr)(fc:Nat)(F:List RowF):Prop where
 src:Src W p a len cap
 only:Only p w W
 res:W.heap[w.heap.size+1]?=some (.cells #[.slice none 0 0,.slice none 0 0] 26 (0,0))
 dbox:W.heap[db]?=some (.cells #[.slice ra L.length rc,.slice fa F.length fc] 26 (0,0))
 sels:OwnIn W lo M (.slice ra L.length rc) L
 rows:RowsD W L
 frags:FragIn W E db (.slice fa F.length fc) F
 fragsD:FragsD W F
 l1:1≤L.length
 l3:L.length≤3
 f2:F.length=2
 lo1:w.heap.size+2≤lo
 lo2:lo≤M
 M1:M≤E
 E1:E≤db
 db1:db<W.heap.size
 pw:p<w.heap.size
section
variable {w W W':World} {p len cap:Nat} {a:Option Addr} {db:Nat} {ra:Option Addr} {rc:Nat} {L:List RowS} {lo M E:Nat} {fa:Option Addr} {fc:Nat} {F:List RowF}
theorem DocT.rowIn(h:DocT w W p len cap a db ra rc L lo M E fa fc F){r:RowS}(hr:r∈L):lo≤r.lo∧r.hi≤M:=by
 obtain ⟨w0,e1,e2,e3,e4⟩:=h.sels
 obtain ⟨_,_,g3,g4,_⟩:=e2.ok r hr
 exact⟨g3,by omega⟩
theorem DocT.fragRow(h:DocT w W p len cap a db ra rc L lo M E fa fc F){r:RowF}(hr:r∈F):E≤r.lo∧r.hi≤db:=by
 obtain ⟨w0,e1,e2,e3,e4⟩:=h.frags
 obtain ⟨_,g3,g4,_⟩:=e2.ok r hr
 exact⟨g3,by omega⟩
theorem DocT.step(h:DocT w W p len cap a db ra rc L lo M E fa fc F)(g:Only p W W')(hs:Src W' p a len cap):DocT w W' p len cap a db ra rc L lo M E fa fc F:=by
 have h1:=h.only.size
 have hk:∀ c,c<W.heap.size→c≠p→W'.heap[c]?=W.heap[c]?:=g.block
 have hrow:=fun r hr=>h.rowIn (r:=r) hr
 have hfrow:=fun r hr=>h.fragRow (r:=r) hr
 obtain ⟨e1,e2,e3,e4,e5,e6,e7,e8,l1,l3,f2,q1,q2,q3,q4,q5,q6⟩:=h
 refine⟨hs,e2.trans g,(hk _ (by omega) (by omega)).trans e3,(hk _ (by omega) (by omega)).trans e4,e5.frame fun c c1 c2=>hk c (by omega) (by omega),e6.frame fun r hr c c1 c2=>hk c ?_ ?_,e7.frame fun c c1 c2=>hk c (by omega) (by omega),e8.frame fun r hr c c1 c2=>hk c ?_ ?_,l1,l3,f2,q1,q2,q3,q4,Nat.lt_of_lt_of_le q5 g.size,q6⟩
 ·have:=hrow r hr;omega
 ·have:=hrow r hr;omega
 ·have:=hfrow r hr;omega
 ·have:=hfrow r hr;omega
theorem DocT.below(h:DocT w W p len cap a db ra rc L lo M E fa fc F)(g:Below W.heap.size W W'):DocT w W' p len cap a db ra rc L lo M E fa fc F :=
 h.step ((Only.refl p W).of_below (Nat.le_refl _) g) (h.src.below h.src.lt g)
theorem DocT.drew(h:DocT w W p len cap a db ra rc L lo M E fa fc F):DocT w W.drew p len cap a db ra rc L lo M E fa fc F:=h.below (Below.refl _ _).drew
def DocF(w W:World)(p len cap:Nat)(a:Option Addr)(db:Nat):Prop:=∃ (ra:Option Addr) (n rc:Nat) (fa:Option Addr) (nf fc:Nat) (d:DocP),W.heap[db]?=some (.cells #[.slice ra n rc,.slice fa nf fc] 26 (0,0))∧n=d.sels.len∧nf=d.frags.length ∧
 SelsAt W (w.heap.size+2) W.heap.size ra n d.sels∧FragsAt W (w.heap.size+2) W.heap.size fa nf d.frags∧nf≤fc∧W.heap[w.heap.size+1]?=some (.cells #[.slice none 0 0,.slice none 0 0] 26 (0,0))∧Src W p a len cap∧Only p w W∧w.heap.size+2≤db
theorem DocT.capF(h:DocT w W p len cap a db ra rc L lo M E fa fc F):F.length≤fc:=by
 obtain ⟨gb,C,_,_,_,_,_,hc,_⟩:=FragIn.place h.frags (by intro e;have:=h.f2;rw[e] at this;simp at this)
 exact hc
theorem DocT.fin(h:DocT w W p len cap a db ra rc L lo M E fa fc F):DocF w W p len cap a db:=by
 have h1:=h.lo1;have h2:=h.lo2;have h3:=h.M1;have h4:=h.E1;have h5:=h.db1;have h6:=h.l3;have h7:=h.f2
 refine⟨ra,L.length,rc,fa,F.length,fc,⟨rowsSels L,F.map RowF.frag⟩,h.dbox,(Selss.rowsSels_len L).symm,by simp,sels_of (by omega) h.sels (by omega) (by omega) rfl,frags_of (by omega) h.frags (by omega) (by omega) (by intro e;rw[e] at h7;simp at h7),h.capF,h.res,h.src,h.only,by omega⟩
theorem DocT.apart(h:DocT w W p len cap a db ra rc L lo M E fa fc F){i j:Nat}{r x:RowS}(hi:L[i]?=some r)(hj:L[j]?=some x)(hne:j≠i){d:Nat}(h1:x.lo≤d)(h2:d<x.hi):¬ (r.lo≤d∧d<r.hi):=by
 obtain ⟨w0,e1,e2,e3,e4⟩:=h.sels
 obtain ⟨a1,rfl⟩:=List.getElem?_eq_some_iff.1 hi
 obtain ⟨a2,rfl⟩:=List.getElem?_eq_some_iff.1 hj
 rcases Nat.lt_or_gt_of_ne hne with g|g
 ·have:=List.pairwise_iff_getElem.1 e2.order j i a2 a1 g;omega
 ·have:=List.pairwise_iff_getElem.1 e2.order i j a1 a2 g;omega
theorem DocT.apartF(h:DocT w W p len cap a db ra rc L lo M E fa fc F){i j:Nat}{r x:RowF}(hi:F[i]?=some r)(hj:F[j]?=some x)(hne:j≠i){d:Nat}(h1:x.lo≤d)(h2:d<x.hi):¬ (r.lo≤d∧d<r.hi):=by
 obtain ⟨w0,e1,e2,e3,e4⟩:=h.frags
 obtain ⟨a1,rfl⟩:=List.getElem?_eq_some_iff.1 hi
 obtain ⟨a2,rfl⟩:=List.getElem?_eq_some_iff.1 hj
 rcases Nat.lt_or_gt_of_ne hne with g|g
 ·have:=List.pairwise_iff_getElem.1 e2.order j i a2 a1 g;omega
 ·have:=List.pairwise_iff_getElem.1 e2.order i j a1 a2 g;omega
theorem DocT.newSel(h:DocT w W p len cap a db ra rc L lo M E fa fc F){i q gb:Nat}{r r':RowS}{u:Value}(hi:L[i]?=some r)(ha:ra=some ⟨gb,0,none⟩)(hq:q<5)(hc:r'.cells=r.cells.set q u)
  (hgb:W'.heap[gb]?=(W.setCell ⟨gb,i * 5+q,none⟩ u).heap[gb]?) (hok:Selss.OkI r'.k∧Selss.OkS r'.key∧Selss.OkS r'.nm∧Selss.OkI r'.f) (hin:SelsAt W' (w.heap.size+2) W'.heap.size r'.a r'.u.len r'.u)
  (hbel:Below (w.heap.size+2) W W') (hsafe:∀ c,c<W.heap.size→c≠gb→¬ (r.lo≤c∧c<r.hi)→W'.heap[c]?=W.heap[c]?):DocF w W' p len cap a db:=by
 have h1:=h.lo1;have h2:=h.lo2;have h3:=h.M1;have h4:=h.E1;have h5:=h.db1;have h6:=h.l3;have h7:=h.f2;have h8:=h.pw
 have hz:=hbel.size
 have hrr:=h.rowIn (List.mem_of_getElem? hi)
 obtain ⟨gb',C,e,hb1,hg,hn,hs,hcc,ht⟩:=OwnSel.place (h.sels.own (by omega)) (by rintro rfl;simp at hi)
 obtain rfl:gb'=gb:=by rw[ha] at e;cases e;rfl
 obtain ⟨gb2,e2,hg1,hg2,_,_,_,_⟩:=h.sels.cell hi
 obtain rfl:gb2=gb':=by rw[ha] at e2;cases e2;rfl
 have hout:∀ c,c<W.heap.size→(c<lo∨M≤c)→W'.heap[c]?=W.heap[c]?:=fun c c1 c2=>hsafe c c1 (by omega) (by omega)
 have hgap:∀ x∈L,x.lo≤gb2→gb2<x.hi→False:=fun x hx x1 x2=>by
  obtain ⟨_,_,_,_,g5⟩:=(h.sels.own (by omega)).ok x hx
  have:=g5 gb2 (by rw[ha];rfl);omega
 refine⟨ra,L.length,rc,fa,F.length,fc,⟨rowsSels (L.set i r'),F.map RowF.frag⟩,(hout _ (by omega) (by omega)).trans h.dbox,by rw[Selss.rowsSels_len,List.length_set],by simp,sels_put (by omega) h.sels (by omega) (by omega) hi ha hq hc hgb hz hok hin fun x hx j hj hne d d1 d2=>hsafe d ?_ (fun e=>?_) (h.apart hi hj hne d1 d2),frags_of (by omega) (h.frags.frame fun c c1 c2=>hout c (by omega) (by omega)) (by omega) (by omega) (by intro e;rw[e] at h7;simp at h7),h.capF,(hout _ (by omega) (by omega)).trans h.res,h.src.below (by omega) hbel,h.only.of_below (by omega) hbel,by omega⟩
 ·have:=h.rowIn hx;omega
 ·subst e;exact hgap x hx d1 d2
theorem DocT.newFrag(h:DocT w W p len cap a db ra rc L lo M E fa fc F){i q gb:Nat}{r r':RowF}{u:Value}(hi:F[i]?=some r)(ha:fa=some ⟨gb,0,none⟩)(hq:q<3)(hc:r'.cells=r.cells.set q u)
  (hgb:W'.heap[gb]?=(W.setCell ⟨gb,i * 3+q,none⟩ u).heap[gb]?) (hok:Selss.OkS r'.nm∧Selss.OkS r'.on) (hin:SelsAt W' (w.heap.size+2) W'.heap.size r'.a r'.u.len r'.u)
  (hbel:Below (w.heap.size+2) W W') (hsafe:∀ c,c<W.heap.size→c≠gb→¬ (r.lo≤c∧c<r.hi)→W'.heap[c]?=W.heap[c]?):DocF w W' p len cap a db:=by
 have h1:=h.lo1;have h2:=h.lo2;have h3:=h.M1;have h4:=h.E1;have h5:=h.db1;have h6:=h.l3;have h7:=h.f2;have h8:=h.pw
 have hz:=hbel.size
 have hrr:=h.fragRow (List.mem_of_getElem? hi)
 obtain ⟨gb2,e2,hg1,hg2,_,_,_,_⟩:=h.frags.cell hi
 obtain rfl:gb2=gb:=by rw[ha] at e2;cases e2;rfl
 have hout:∀ c,c<W.heap.size→(c<E∨db≤c)→W'.heap[c]?=W.heap[c]?:=fun c c1 c2=>hsafe c c1 (by omega) (by omega)
 have hgap:∀ x∈F,x.lo≤gb2→gb2<x.hi→False:=fun x hx x1 x2=>by
  obtain ⟨_,_,_,g5⟩:=(h.frags.own (by omega)).ok x hx
  have:=g5 gb2 (by rw[ha];rfl);omega
 refine⟨ra,L.length,rc,fa,F.length,fc,⟨rowsSels L,(F.set i r').map RowF.frag⟩,(hout _ (by omega) (by omega)).trans h.dbox,(Selss.rowsSels_len L).symm,by simp,?_,frags_put (by omega) h.frags (by omega) (by omega) hi ha hq hc hgb hz hok hin fun x hx j hj hne d d1 d2=>hsafe d ?_ (fun e=>?_) (h.apartF hi hj hne d1 d2),h.capF,(hout _ (by omega) (by omega)).trans h.res,h.src.below (by omega) hbel,h.only.of_below (by omega) hbel,by omega⟩
 ·exact sels_of (by omega) (h.sels.frame fun c c1 c2=>hout c (by omega) (by omega)) (by omega) (by omega) rfl
 ·have:=h.fragRow hx;omega
 ·subst e;exact hgap x hx d1 d2
theorem DocT.putSel(h:DocT w W p len cap a db ra rc L lo M E fa fc F){i q gb:Nat}{r r':RowS}{u:Value}(hi:L[i]?=some r)(ha:ra=some ⟨gb,0,none⟩)(hq:q<5)(hc:r'.cells=r.cells.set q u)(hu:r'.a=r.a∧r'.u=r.u)
  (hok:Selss.OkI r'.k∧Selss.OkS r'.key∧Selss.OkS r'.nm∧Selss.OkI r'.f):DocF w (W.setCell ⟨gb,i * 5+q,none⟩ u) p len cap a db:=by
 have h1:=h.lo1;have h2:=h.lo2;have h3:=h.M1;have h4:=h.E1;have h5:=h.db1
 have hoth:∀ c,c≠gb→(W.setCell ⟨gb,i * 5+q,none⟩ u).heap[c]?=W.heap[c]?:=fun c hc=>Go.Deep.blk_setCell_other _ ⟨gb,i * 5+q,none⟩ _ _ hc
 obtain ⟨gb2,e2,hg1,hg2,_,_,_,_⟩:=h.sels.cell hi
 obtain rfl:gb2=gb:=by rw[ha] at e2;cases e2;rfl
 obtain ⟨g1,g2,g3,g4,g5⟩:=(h.sels.own (by omega)).ok r (List.mem_of_getElem? hi)
 refine h.newSel hi ha hq hc rfl hok ?_ ((Below.refl _ W).setCell (p:=⟨gb2,i * 5+q,none⟩) (by show w.heap.size+2≤gb2;omega) u) fun c _ c2 _=>hoth c c2
 rw[hu.1,hu.2]
 refine(g2.block fun c c1 c2=>hoth c fun e=>?_).sels.wide (by omega) (by simp;omega)
 have:=g5 gb2 (by rw[ha];rfl);omega
theorem DocT.putFrag(h:DocT w W p len cap a db ra rc L lo M E fa fc F){i q gb:Nat}{r r':RowF}{u:Value}(hi:F[i]?=some r)(ha:fa=some ⟨gb,0,none⟩)(hq:q<3)(hc:r'.cells=r.cells.set q u)(hu:r'.a=r.a∧r'.u=r.u)
  (hok:Selss.OkS r'.nm∧Selss.OkS r'.on):DocF w (W.setCell ⟨gb,i * 3+q,none⟩ u) p len cap a db:=by
 have h1:=h.lo1;have h2:=h.lo2;have h3:=h.M1;have h4:=h.E1;have h5:=h.db1
 have hoth:∀ c,c≠gb→(W.setCell ⟨gb,i * 3+q,none⟩ u).heap[c]?=W.heap[c]?:=fun c hc=>Go.Deep.blk_setCell_other _ ⟨gb,i * 3+q,none⟩ _ _ hc
 obtain ⟨gb2,e2,hg1,hg2,_,_,_,_⟩:=h.frags.cell hi
 obtain rfl:gb2=gb:=by rw[ha] at e2;cases e2;rfl
 obtain ⟨⟨g1,g2⟩,g3,g4,g5⟩:=(h.frags.own (by omega)).ok r (List.mem_of_getElem? hi)
 refine h.newFrag hi ha hq hc rfl hok ?_ ((Below.refl _ W).setCell (p:=⟨gb2,i * 3+q,none⟩) (by show w.heap.size+2≤gb2;omega) u) fun c _ c2 _=>hoth c c2
 rw[hu.1,hu.2]
 refine(g2.block fun c c1 c2=>hoth c fun e=>?_).sels.wide (by omega) (by simp;omega)
 have:=g5 gb2 (by rw[ha];rfl);omega
end
theorem OwnSel.at_{w w':World}{base:Nat}{v:Value}{L:List RowS}(h:OwnSel w base v L)(hz:w.heap.size≤w'.heap.size)(h1:∀ c,v.ownBlock=some c→w'.heap[c]?=w.heap[c]?)(h2:∀ r∈L,∀ c,r.lo≤c→c<r.hi→w'.heap[c]?=w.heap[c]?):OwnSel w' base v L:=by
 refine⟨?_,h.order,fun r hr=>?_⟩
 ·obtain ⟨hl,⟨hv,hn⟩|⟨gb,cap,cur,hv,hb,hg,hc,hm,hs,ht⟩⟩:=h.own
  ·exact⟨hl,.inl ⟨hv,hn⟩⟩
  ·exact⟨hl,.inr ⟨gb,cap,cur,hv,hb,(h1 gb (by rw[hv];rfl)).trans hg,hc,hm,hs,ht⟩⟩
 ·obtain ⟨g1,g2,g3,g4,g5⟩:=h.ok r hr
  exact⟨g1,g2.block (h2 r hr),g3,by omega,g5⟩
theorem OwnSel.set1{w:World}{base g n c:Nat}{L:List RowS}(h:OwnSel w base (.slice (some ⟨g,0,none⟩) n c) L){i q:Nat}{r r':RowS}{u:Value}(hi:L[i]?=some r)(hq:q<5)(hc:r'.cells=r.cells.set q u)(hu:r'.a=r.a∧r'.u=r.u∧r'.lo=r.lo∧r'.hi=r.hi)
  (hok:Selss.OkI r'.k∧Selss.OkS r'.key∧Selss.OkS r'.nm∧Selss.OkI r'.f):OwnSel (w.setCell ⟨g,i * 5+q,none⟩ u) base (.slice (some ⟨g,0,none⟩) n c) (L.set i r'):=by
 obtain ⟨hl,⟨hv,hn⟩|⟨gb,cap,cur,hv,hb,hg,hcc,hm,hs,ht⟩⟩:=h.own
 ·cases hv
 cases hv
 have hlt:=(List.getElem?_eq_some_iff.1 hi).1
 have hoth:∀ c,c≠g→(w.setCell ⟨g,i * 5+q,none⟩ u).heap[c]?=w.heap[c]?:=fun c hc=>Go.Deep.blk_setCell_other _ ⟨g,i * 5+q,none⟩ _ _ hc
 have hord:=h.order
 refine⟨⟨by rw[flat_set hi hc hq,List.length_set,List.length_set];exact hl,.inr ⟨g,c,cur.setIfInBounds (i * 5+q) u,by rw[List.length_set],hb,heap_setCell_same w g (i * 5+q) _ _ u hg,by rw[List.length_set];exact hcc,hm,by rw[Array.size_setIfInBounds];exact hs,?_⟩⟩,?_,fun x hx=>?_⟩
 ·rw[flat_set hi hc hq,←ht,Array.toList_setIfInBounds,List.length_set,List.take_set]
 ·refine List.pairwise_iff_getElem.2 fun a b ha hb' hab=>?_
  rw[List.length_set] at ha hb'
  have:=List.pairwise_iff_getElem.1 hord a b ha hb' hab
  obtain ⟨hlt',rfl⟩:=List.getElem?_eq_some_iff.1 hi
  rw[List.getElem_set,List.getElem_set]
  split <;> split <;> simp_all
 ·obtain ⟨j,hj⟩:=List.mem_iff_getElem?.1 hx
  by_cases e:j=i
  ·subst e
   rw[List.getElem?_set_self hlt] at hj
   cases hj
   obtain ⟨g1,g2,g3,g4,g5⟩:=h.ok r (List.mem_of_getElem? hi)
   rw[hu.1,hu.2.1,hu.2.2.1,hu.2.2.2]
   refine⟨hok,g2.block fun c c1 c2=>hoth c fun e=>?_,g3,by simp;exact g4,g5⟩
   have:=g5 g rfl;omega
  ·rw[List.getElem?_set_ne (fun h=>e h.symm)] at hj
   obtain ⟨g1,g2,g3,g4,g5⟩:=h.ok x (List.mem_of_getElem? hj)
   refine⟨g1,g2.block fun c c1 c2=>hoth c fun e=>?_,g3,by simp;exact g4,g5⟩
   have:=g5 g rfl;omega
section
variable {w:World} {ops:Array Oper} {o:Oper} {a:Act}
theorem step_app_selG{K:Act→World→Prop}{Q:Exit→Act→World→Prop}{E:Prop}(hgd:o.guard=none)(s x:Operand)
  (ho:o.op=.call { callee:=.builtin .append,args:=#[s,x],argTypes:=#[23,23] })
  (base:Nat) (v:Value) (L:List RowS) (hs:a.eval s=v) (hown:OwnSel w base v L)
  (B c:Nat) (hx:a.eval x=.slice (some ⟨B,0,none⟩) 1 c) (r:RowS) (hc:w.heap[B]?=some (.cells r.cells.toArray 97 (0,0)))
  (hr:(Selss.OkI r.k∧Selss.OkS r.key∧Selss.OkS r.nm∧Selss.OkI r.f)∧SelsX w r.lo r.hi r.a r.u.len r.u∧base≤r.lo∧r.hi≤w.heap.size∧∀ g,v.ownBlock=some g→g<r.lo∨r.hi≤g) (hord:∀ q∈L,q.hi≤r.lo)
  (hsize:L.length+1≤1048576) (hbase:base≤w.heap.size)
  (h:∀ g cap w',OwnSel w' base (.slice (some ⟨g,0,none⟩) (L.length+1) cap) (L++[r])→w.grownBy w' v.ownBlock→(v.ownBlock=some g∨g=w.heap.size)→K (a.put o.dst (.slice (some ⟨g,0,none⟩) (L.length+1) cap)) w'):if Region.wanted o (yielded ops a.tmps)=true then Oper.wp Tryz.prog o a w K Q else E:=by
 obtain ⟨i0,hi,hz0,hz1,hz2⟩:=info_parts Selss.infoSel5
 refine step_append_lies w hgd s x 23 ho base 97 i0 _ 5 72 Tryz.underlying23 hi hz0 hz1 hz2 rfl (by decide) v L.length (L.flatMap RowS.cells) hs hown.own ⟨B,0,none⟩ 1 c r.cells hx rfl
  (fun j u hj=>World.news_of_block hc j u (by simpa using hj)) (fun u hu=>?_) (by omega) (by unfold maxLen;omega) (by omega) hbase _ rfl ?_
 ·simp[RowS.cells] at hu
  rcases hu with rfl|rfl|rfl|rfl|rfl <;> rfl
 ·intro g cap w' hown' hgrow hat hlt
  have hblk:∀ c,c<w.heap.size→some c≠v.ownBlock→w'.heap[c]?=w.heap[c]?:=fun c h1 h2=>hgrow.block c h1 h2
  refine h g cap w' ⟨?_,List.pairwise_append.2 ⟨hown.order,List.pairwise_singleton _ _,fun q hq r' hr'=>by rw[List.mem_singleton] at hr';subst hr';exact hord q hq⟩,fun q hq=>?_⟩ hgrow hat
  ·rw[List.flatMap_append,List.length_append];simpa using hown'
  ·have hq2:(Selss.OkI q.k∧Selss.OkS q.key∧Selss.OkS q.nm∧Selss.OkI q.f)∧SelsX w q.lo q.hi q.a q.u.len q.u∧base≤q.lo∧q.hi≤w.heap.size∧∀ g,v.ownBlock=some g→g<q.lo∨q.hi≤g:=by
    rcases List.mem_append.1 hq with hq|hq
    ·exact hown.ok q hq
    ·rw[List.mem_singleton] at hq;subst hq;exact hr
   obtain ⟨h1,h2,h3,h4,h5⟩:=hq2
   have far:∀ c,q.lo≤c→c<q.hi→w'.heap[c]?=w.heap[c]?:=fun c c1 c2=>hblk c (by omega) fun e=>by
    have:=h5 c e.symm;omega
   have last:∀ g',(Value.slice (some ⟨g,0,none⟩) (L.length+1) cap).ownBlock=some g'→g' < q.lo∨q.hi≤g':=fun g' hg'=>by
    have e:g'=g:=by simpa [Value.ownBlock] using hg'.symm
    subst e
    rcases hat with hat|hat
    ·exact h5 _ hat
    ·right;omega
   exact⟨h1,h2.block far,h3,Nat.le_trans h4 hgrow.size,last⟩
end
theorem OwnIn.ready{W W1:World}{lo hi:Nat}{v:Value}{inn:List RowS}(hin:OwnIn W lo hi v inn)(hh:hi≤W.heap.size)(hb:Below W.heap.size W W1)(k:Int)(key nm:ByteArray)(f:Int)(hok:Selss.OkI k∧Selss.OkS key∧Selss.OkS nm∧Selss.OkI f) :
  OwnSel W1 lo v inn∧((Selss.OkI k∧Selss.OkS key∧Selss.OkS nm∧Selss.OkI f)∧SelsX W1 W.heap.size W.heap.size none 0 .nil∧lo≤W.heap.size∧W.heap.size≤W1.heap.size∧∀ g,v.ownBlock=some g→g<W.heap.size∨W.heap.size≤g)∧(∀ q∈inn,q.hi≤W.heap.size)∧lo≤W1.heap.size ∧
  ∀ g,v.ownBlock=some g→lo≤g∧g<hi:=by
 have hz:=hb.size
 obtain ⟨w0,rfl,h2,h3,h4⟩:=id hin
 refine⟨(hin.frame fun c c1 c2=>hb.block c (by omega)).own (by omega),⟨hok,⟨rfl,Nat.zero_le _,Nat.le_refl _,.inl rfl⟩,by omega,hz,fun g hg=>?_⟩,fun q hq=>?_,by omega,fun g hg=>h2.own.lt g hg⟩
 ·have:=(h2.own.lt g hg).2;omega
 ·obtain ⟨_,_,_,g4,_⟩:=h2.ok q hq;omega
theorem OwnIn.far{W:World}{lo hi gb g Z:Nat}{v:Value}{inn:List RowS}(hin:OwnIn W lo hi v inn)(hgb:¬ (lo≤gb∧gb<hi))(hz:gb<Z)(hat:v.ownBlock=some g∨g=Z):gb≠g∧∀ q∈inn,¬ (q.lo≤gb∧gb<q.hi):=by
 obtain ⟨w0,rfl,h2,h3,h4⟩:=hin
 refine⟨fun e=>?_,fun q hq=>?_⟩
 ·subst e
  rcases hat with h|h
  ·have:=h2.own.lt gb h;exact hgb this
  ·omega
 ·obtain ⟨_,_,g3,g4,_⟩:=h2.ok q hq;omega
theorem OwnSel.last{w:World}{base g c:Nat}{inn:List RowS}{z:Nat}(h:OwnSel w base (.slice (some ⟨g,0,none⟩) (inn.length+1) c) (inn++[⟨0,⟨#[]⟩,⟨#[]⟩,0,none,0,.nil,z,z⟩]))(k:Int)(key nm:ByteArray)(f:Int)(hok:Selss.OkI k∧Selss.OkS key∧Selss.OkS nm∧Selss.OkI f) :
  OwnSel (putL w g (inn.length * 5) [.int .i64 k,.string key,.string nm,.int .i64 f,.slice none 0 0]) base (.slice (some ⟨g,0,none⟩) (inn.length+1) c) (inn++[⟨k,key,nm,f,none,0,.nil,z,z⟩]):=by
 have hI:Selss.OkI 0:=by unfold Selss.OkI;omega
 have hS:Selss.OkS ⟨#[]⟩:=by unfold Selss.OkS;decide
 have st:∀ (w:World) (x y:RowS) (q:Nat) (u:Value),OwnSel w base (.slice (some ⟨g,0,none⟩) (inn.length+1) c) (inn++[x])→q<5→y.cells=x.cells.set q u→(y.a=x.a∧y.u=x.u∧y.lo=x.lo∧y.hi=x.hi)→(Selss.OkI y.k∧Selss.OkS y.key∧Selss.OkS y.nm∧Selss.OkI y.f) →
   OwnSel (w.setCell ⟨g,inn.length * 5+q,none⟩ u) base (.slice (some ⟨g,0,none⟩) (inn.length+1) c) (inn++[y]):=fun w x y q u h hq hc hu hok=>by
  have:=OwnSel.set1 h (i:=inn.length) (r:=x) (r':=y) (by simp) hq hc hu hok
  rwa [show (inn++[x]).set inn.length y=inn++[y] by simp] at this
 have h0:=st w _ ⟨k,⟨#[]⟩,⟨#[]⟩,0,none,0,.nil,z,z⟩ 0 (.int .i64 k) h (by omega) rfl ⟨rfl,rfl,rfl,rfl⟩ ⟨hok.1,hS,hS,hI⟩
 have h1:=st _ _ ⟨k,key,⟨#[]⟩,0,none,0,.nil,z,z⟩ 1 (.string key) h0 (by omega) rfl ⟨rfl,rfl,rfl,rfl⟩ ⟨hok.1,hok.2.1,hS,hI⟩
 have h2:=st _ _ ⟨k,key,nm,0,none,0,.nil,z,z⟩ 2 (.string nm) h1 (by omega) rfl ⟨rfl,rfl,rfl,rfl⟩ ⟨hok.1,hok.2.1,hok.2.2.1,hI⟩
 have h3:=st _ _ ⟨k,key,nm,f,none,0,.nil,z,z⟩ 3 (.int .i64 f) h2 (by omega) rfl ⟨rfl,rfl,rfl,rfl⟩ hok
 exact st _ _ ⟨k,key,nm,f,none,0,.nil,z,z⟩ 4 (.slice none 0 0) h3 (by omega) rfl ⟨rfl,rfl,rfl,rfl⟩ hok
section
variable {w W W':World} {p len cap:Nat} {a:Option Addr} {db:Nat} {ra:Option Addr} {rc:Nat} {L:List RowS} {lo M E:Nat} {fa:Option Addr} {fc:Nat} {F:List RowF}
theorem DocT.rowAt(h:DocT w W p len cap a db ra rc L lo M E fa fc F){i:Nat}{r:RowS}(hi:L[i]?=some r):(Selss.OkI r.k∧Selss.OkS r.key∧Selss.OkS r.nm∧Selss.OkI r.f)∧lo≤r.lo∧r.lo≤r.hi∧r.hi≤M∧M≤W.heap.size∧(∃ inn:List RowS,OwnIn W r.lo r.hi (.slice r.a r.u.len r.cap) inn∧rowsSels inn=r.u∧inn.length≤4) ∧
  ∃ gb,ra=some ⟨gb,0,none⟩∧lo≤gb∧gb<M∧¬ (r.lo≤gb∧gb<r.hi)∧(∀ q u,r.cells[q]?=some u→W.cell? ⟨gb,i * 5+q,none⟩=some u)∧∀ j,W.frozen? ⟨gb,j,none⟩=false:=by
 have h3:=h.M1;have h4:=h.E1;have h5:=h.db1
 obtain ⟨g1,g2,g3,g4,g5⟩:=(h.sels.own (by omega)).ok r (List.mem_of_getElem? hi)
 obtain ⟨inn,hin,e1,e2⟩:=h.rows r (List.mem_of_getElem? hi)
 have hlh:r.lo≤r.hi:=by obtain ⟨_,_,_,q,_⟩:=hin;exact q
 have hrr:=h.rowIn (List.mem_of_getElem? hi)
 obtain ⟨gb,e,b1,b2,_,_,hcell,hfz⟩:=h.sels.cell hi
 exact⟨g1,g3,hlh,hrr.2,by omega,⟨inn,hin,e1,e2⟩,gb,e,b1,b2,by have:=g5 gb (by rw[e];rfl);omega,hcell,hfz⟩
theorem DocT.fragAt(h:DocT w W p len cap a db ra rc L lo M E fa fc F){i:Nat}{r:RowF}(hi:F[i]?=some r):(Selss.OkS r.nm∧Selss.OkS r.on)∧E≤r.lo∧r.lo≤r.hi∧r.hi≤db∧db<W.heap.size∧(∃ inn:List RowS,OwnIn W r.lo r.hi (.slice r.a r.u.len r.cap) inn∧rowsSels inn=r.u∧inn.length≤4) ∧
  ∃ gb,fa=some ⟨gb,0,none⟩∧E≤gb∧gb<db∧¬ (r.lo≤gb∧gb<r.hi)∧(∀ q u,r.cells[q]?=some u→W.cell? ⟨gb,i * 3+q,none⟩=some u)∧∀ j,W.frozen? ⟨gb,j,none⟩=false:=by
 have h4:=h.E1;have h5:=h.db1
 obtain ⟨⟨g1,_⟩,g3,g4,g5⟩:=(h.frags.own (by omega)).ok r (List.mem_of_getElem? hi)
 obtain ⟨inn,hin,e1,e2,_⟩:=h.fragsD r (List.mem_of_getElem? hi)
 have hlh:r.lo≤r.hi:=by obtain ⟨_,_,_,q,_⟩:=hin;exact q
 have hrr:=h.fragRow (List.mem_of_getElem? hi)
 obtain ⟨gb,e,b1,b2,_,_,hcell,hfz⟩:=h.frags.cell hi
 exact⟨g1,g3,hlh,hrr.2,h5,⟨inn,hin,e1,e2⟩,gb,e,b1,b2,by have:=g5 gb (by rw[e];rfl);omega,hcell,hfz⟩
theorem DocT.intoS{gb:Nat}(h:DocT w W p len cap a db (some ⟨gb,0,none⟩) rc L lo M E fa fc F){i:Nat}{r:RowS}(hi:L[i]?=some r){inn K:List RowS}(hin:OwnIn W r.lo r.hi (.slice r.a r.u.len r.cap) inn){W1 w9:World}{g n cp:Nat}(hb1:Below W.heap.size W W1)
  (hgrow:W1.grownBy w9 (Value.slice r.a r.u.len r.cap).ownBlock) (hat:(Value.slice r.a r.u.len r.cap).ownBlock=some g∨g=W1.heap.size) (hK:OwnSel W' r.lo (.slice (some ⟨g,0,none⟩) n cp) K) (hn:n=K.length) (hKl:K.length≤1000)
  (hgb:W'.heap[gb]?=(w9.setCell ⟨gb,i * 5+4,none⟩ (.slice (some ⟨g,0,none⟩) n cp)).heap[gb]?) (hbel:Below (w.heap.size+2) w9 W') (hoth:∀ c,c≠gb→c≠g→W'.heap[c]?=w9.heap[c]?):DocF w W' p len cap a db:=by
 have h1:=h.lo1;have h2:=h.lo2
 obtain ⟨hok,r1,r2,r3,r4,_,gb',e,b1,b2,b3,_,_⟩:=h.rowAt hi
 cases e
 obtain ⟨_,_,_,_,hlt⟩:=hin.ready (by omega) hb1 0 ⟨#[]⟩ ⟨#[]⟩ 0 ⟨by unfold Selss.OkI;omega,by unfold Selss.OkS;decide,by unfold Selss.OkS;decide,by unfold Selss.OkI;omega⟩
 have hz1:=hb1.size
 have hz9:=hgrow.size
 have hzW:=hbel.size
 have hgo:(Value.slice r.a r.u.len r.cap).ownBlock≠some gb:=fun e=>b3 (hlt gb e)
 have k9:w9.heap[gb]?=W.heap[gb]?:=(hgrow.block gb (by omega) (fun e=>hgo e.symm)).trans (hb1.block gb (by omega))
 obtain ⟨gb2,C,e2,_,hg,_⟩:=OwnSel.place (h.sels.own (by omega)) (by rintro rfl;simp at hi)
 cases e2
 subst hn
 obtain ⟨x1,x2,e3,x3,hx⟩:=hK.selsX (by omega) (by omega)
 cases e3
 refine h.newSel (r':=⟨r.k,r.key,r.nm,r.f,some ⟨g,0,none⟩,cp,rowsSels K,r.lo,r.hi⟩) hi rfl (show 4<5 by omega) (u:=.slice (some ⟨g,0,none⟩) K.length cp) (by simp[RowS.cells,Selss.rowsSels_len]) ?_ hok ?_ ?_ fun c c1 c2 c3=>?_
 ·rw[hgb,heap_setCell_same _ _ _ _ _ _ (k9.trans hg),heap_setCell_same _ _ _ _ _ _ hg]
 ·have:=hx.sels.wide (show w.heap.size+2≤r.lo by omega) (Nat.le_refl _)
  rw[←Selss.rowsSels_len] at this
  exact this
 ·exact((hb1.mono (by omega)).grown hgrow (by omega) (fun k hk=>by have:=hlt k hk;omega)).trans hbel
 ·have hcg:c≠g:=by
   rintro rfl
   rcases hat with q|q
   ·exact c3 (hlt _ q)
   ·omega
  exact(hoth c c2 hcg).trans ((hgrow.block c (by omega) (fun e=>c3 (hlt c e.symm))).trans (hb1.block c c1))
theorem DocT.intoF{gb:Nat}(h:DocT w W p len cap a db ra rc L lo M E (some ⟨gb,0,none⟩) fc F){i:Nat}{r:RowF}(hi:F[i]?=some r){inn K:List RowS}(hin:OwnIn W r.lo r.hi (.slice r.a r.u.len r.cap) inn){W1 w9:World}{g n cp:Nat}(hb1:Below W.heap.size W W1)
  (hgrow:W1.grownBy w9 (Value.slice r.a r.u.len r.cap).ownBlock) (hat:(Value.slice r.a r.u.len r.cap).ownBlock=some g∨g=W1.heap.size) (hK:OwnSel W' r.lo (.slice (some ⟨g,0,none⟩) n cp) K) (hn:n=K.length) (hKl:K.length≤1000)
  (hgb:W'.heap[gb]?=(w9.setCell ⟨gb,i * 3+2,none⟩ (.slice (some ⟨g,0,none⟩) n cp)).heap[gb]?) (hbel:Below (w.heap.size+2) w9 W') (hoth:∀ c,c≠gb→c≠g→W'.heap[c]?=w9.heap[c]?):DocF w W' p len cap a db:=by
 have h1:=h.lo1;have h2:=h.lo2;have h3:=h.M1
 obtain ⟨hok,r1,r2,r3,r4,_,gb',e,b1,b2,b3,_,_⟩:=h.fragAt hi
 cases e
 obtain ⟨_,_,_,_,hlt⟩:=hin.ready (by omega) hb1 0 ⟨#[]⟩ ⟨#[]⟩ 0 ⟨by unfold Selss.OkI;omega,by unfold Selss.OkS;decide,by unfold Selss.OkS;decide,by unfold Selss.OkI;omega⟩
 have hz1:=hb1.size
 have hz9:=hgrow.size
 have hzW:=hbel.size
 have hgo:(Value.slice r.a r.u.len r.cap).ownBlock≠some gb:=fun e=>b3 (hlt gb e)
 have k9:w9.heap[gb]?=W.heap[gb]?:=(hgrow.block gb (by omega) (fun e=>hgo e.symm)).trans (hb1.block gb (by omega))
 obtain ⟨gb2,C,e2,_,_,hg,_⟩:=FragIn.place h.frags (by rintro rfl;simp at hi)
 cases e2
 subst hn
 obtain ⟨x1,x2,e3,x3,hx⟩:=hK.selsX (by omega) (by omega)
 cases e3
 refine h.newFrag (r':=⟨r.nm,r.on,some ⟨g,0,none⟩,cp,rowsSels K,r.lo,r.hi⟩) hi rfl (show 2<3 by omega) (u:=.slice (some ⟨g,0,none⟩) K.length cp) (by simp[RowF.cells,Selss.rowsSels_len]) ?_ hok ?_ ?_ fun c c1 c2 c3=>?_
 ·rw[hgb,heap_setCell_same _ _ _ _ _ _ (k9.trans hg),heap_setCell_same _ _ _ _ _ _ hg]
 ·have:=hx.sels.wide (show w.heap.size+2≤r.lo by omega) (Nat.le_refl _)
  rw[←Selss.rowsSels_len] at this
  exact this
 ·exact((hb1.mono (by omega)).grown hgrow (by omega) (fun k hk=>by have:=hlt k hk;omega)).trans hbel
 ·have hcg:c≠g:=by
   rintro rfl
   rcases hat with q|q
   ·exact c3 (hlt _ q)
   ·omega
  exact(hoth c c2 hcg).trans ((hgrow.block c (by omega) (fun e=>c3 (hlt c e.symm))).trans (hb1.block c c1))
theorem DocT.appS{gb:Nat}(h:DocT w W p len cap a db (some ⟨gb,0,none⟩) rc L lo M E fa fc F){i:Nat}{r:RowS}(hi:L[i]?=some r){inn:List RowS}(hin:OwnIn W r.lo r.hi (.slice r.a r.u.len r.cap) inn)(hl:inn.length≤4){W1 w9:World}(hb1:Below W.heap.size W W1){g cp:Nat}{r9:RowS}(hr9:r9.hi≤r9.lo)
  (hown:OwnSel w9 r.lo (.slice (some ⟨g,0,none⟩) (inn.length+1) cp) (inn++[r9])) (hgrow:W1.grownBy w9 (Value.slice r.a r.u.len r.cap).ownBlock) (hat:(Value.slice r.a r.u.len r.cap).ownBlock=some g∨g=W1.heap.size) :
  w9.heap[db]?=W.heap[db]?∧w9.heap[gb]?=W.heap[gb]?∧OwnSel (w9.setCell ⟨gb,i * 5+4,none⟩ (.slice (some ⟨g,0,none⟩) (inn.length+1) cp)) r.lo (.slice (some ⟨g,0,none⟩) (inn.length+1) cp) (inn++[r9])∧DocF w (w9.setCell ⟨gb,i * 5+4,none⟩ (.slice (some ⟨g,0,none⟩) (inn.length+1) cp)) p len cap a db ∧
  ∀ (z:Nat) (k:Int) (key nm:ByteArray) (f:Int),r9=⟨0,⟨#[]⟩,⟨#[]⟩,0,none,0,.nil,z,z⟩→(Selss.OkI k∧Selss.OkS key∧Selss.OkS nm∧Selss.OkI f)→DocF w (putL (w9.setCell ⟨gb,i * 5+4,none⟩ (.slice (some ⟨g,0,none⟩) (inn.length+1) cp)) g (inn.length * 5) [.int .i64 k,.string key,.string nm,.int .i64 f,.slice none 0 0]) p len cap a db:=by
 have h1:=h.lo1;have h2:=h.lo2;have h3:=h.M1;have h4:=h.E1;have h5:=h.db1
 obtain ⟨hok,r1,r2,r3,r4,_,gb',e,b1,b2,b3,_,_⟩:=h.rowAt hi
 cases e
 obtain ⟨_,_,_,_,hlt⟩:=hin.ready (by omega) hb1 0 ⟨#[]⟩ ⟨#[]⟩ 0 ⟨by unfold Selss.OkI;omega,by unfold Selss.OkS;decide,by unfold Selss.OkS;decide,by unfold Selss.OkI;omega⟩
 have hz1:=hb1.size
 have hz9:=hgrow.size
 obtain ⟨hne,hfr⟩:=hin.far b3 (show gb<W1.heap.size by omega) hat
 have hk9:∀ c,c<W.heap.size→¬ (r.lo≤c∧c<r.hi)→w9.heap[c]?=W.heap[c]?:=fun c c1 c2=>(hgrow.block c (by omega) (fun e=>c2 (hlt c e.symm))).trans (hb1.block c c1)
 have hoth:∀ c,c≠gb→(w9.setCell ⟨gb,i * 5+4,none⟩ (.slice (some ⟨g,0,none⟩) (inn.length+1) cp)).heap[c]?=w9.heap[c]?:=fun c hc=>Go.Deep.blk_setCell_other _ ⟨gb,i * 5+4,none⟩ _ _ hc
 have hK:OwnSel (w9.setCell ⟨gb,i * 5+4,none⟩ (.slice (some ⟨g,0,none⟩) (inn.length+1) cp)) r.lo (.slice (some ⟨g,0,none⟩) (inn.length+1) cp) (inn++[r9]):=OwnSel.at_ hown (by simp) (fun c hc=>hoth c fun e=>by
   have e2:c=g:=by simpa [Value.ownBlock] using hc.symm
   exact hne (e▸e2)) fun q hq c c1 c2=>hoth c fun e=>by
  subst e
  rcases List.mem_append.1 hq with hq|hq
  ·exact hfr q hq ⟨c1,c2⟩
  ·rw[List.mem_singleton] at hq;subst hq;omega
 have hb9:Below (w.heap.size+2) w9 (w9.setCell ⟨gb,i * 5+4,none⟩ (.slice (some ⟨g,0,none⟩) (inn.length+1) cp)):=(Below.refl _ w9).setCell (p:=⟨gb,i * 5+4,none⟩) (by show w.heap.size+2≤gb;omega) _
 have hg2:w.heap.size+2≤g:=by
  rcases hat with q|q
  ·have:=hlt g q;omega
  ·omega
 refine⟨hk9 db h5 (by omega),hk9 gb (by omega) b3,hK,h.intoS hi hin hb1 hgrow hat hK (by simp) (by simp;omega) rfl hb9 fun c c1 _=>hoth c c1,fun z k key nm f e hok'=>?_⟩
 subst e
 have hp:=putL_other [.int .i64 k,.string key,.string nm,.int .i64 f,.slice none 0 0] (w9.setCell ⟨gb,i * 5+4,none⟩ (.slice (some ⟨g,0,none⟩) (inn.length+1) cp)) g (inn.length * 5)
 exact h.intoS hi hin hb1 hgrow hat (OwnSel.last hK k key nm f hok') (by simp) (by simp;omega) (hp gb hne) (putL_below hg2 _ _ hb9) fun c c1 c2=>(hp c c2).trans (hoth c c1)
theorem DocT.appF{gb:Nat}(h:DocT w W p len cap a db ra rc L lo M E (some ⟨gb,0,none⟩) fc F){i:Nat}{r:RowF}(hi:F[i]?=some r){inn:List RowS}(hin:OwnIn W r.lo r.hi (.slice r.a r.u.len r.cap) inn)(hl:inn.length≤4){W1 w9:World}(hb1:Below W.heap.size W W1){g cp:Nat}{r9:RowS}(hr9:r9.hi≤r9.lo)
  (hown:OwnSel w9 r.lo (.slice (some ⟨g,0,none⟩) (inn.length+1) cp) (inn++[r9])) (hgrow:W1.grownBy w9 (Value.slice r.a r.u.len r.cap).ownBlock) (hat:(Value.slice r.a r.u.len r.cap).ownBlock=some g∨g=W1.heap.size) :
  w9.heap[db]?=W.heap[db]?∧w9.heap[gb]?=W.heap[gb]?∧OwnSel (w9.setCell ⟨gb,i * 3+2,none⟩ (.slice (some ⟨g,0,none⟩) (inn.length+1) cp)) r.lo (.slice (some ⟨g,0,none⟩) (inn.length+1) cp) (inn++[r9])∧DocF w (w9.setCell ⟨gb,i * 3+2,none⟩ (.slice (some ⟨g,0,none⟩) (inn.length+1) cp)) p len cap a db ∧
  ∀ (z:Nat) (k:Int) (key nm:ByteArray) (f:Int),r9=⟨0,⟨#[]⟩,⟨#[]⟩,0,none,0,.nil,z,z⟩→(Selss.OkI k∧Selss.OkS key∧Selss.OkS nm∧Selss.OkI f)→DocF w (putL (w9.setCell ⟨gb,i * 3+2,none⟩ (.slice (some ⟨g,0,none⟩) (inn.length+1) cp)) g (inn.length * 5) [.int .i64 k,.string key,.string nm,.int .i64 f,.slice none 0 0]) p len cap a db:=by
 have h1:=h.lo1;have h2:=h.lo2;have h3:=h.M1;have h4:=h.E1;have h5:=h.db1
 obtain ⟨hok,r1,r2,r3,r4,_,gb',e,b1,b2,b3,_,_⟩:=h.fragAt hi
 cases e
 obtain ⟨_,_,_,_,hlt⟩:=hin.ready (by omega) hb1 0 ⟨#[]⟩ ⟨#[]⟩ 0 ⟨by unfold Selss.OkI;omega,by unfold Selss.OkS;decide,by unfold Selss.OkS;decide,by unfold Selss.OkI;omega⟩
 have hz1:=hb1.size
 have hz9:=hgrow.size
 obtain ⟨hne,hfr⟩:=hin.far b3 (show gb<W1.heap.size by omega) hat
 have hk9:∀ c,c<W.heap.size→¬ (r.lo≤c∧c<r.hi)→w9.heap[c]?=W.heap[c]?:=fun c c1 c2=>(hgrow.block c (by omega) (fun e=>c2 (hlt c e.symm))).trans (hb1.block c c1)
 have hoth:∀ c,c≠gb→(w9.setCell ⟨gb,i * 3+2,none⟩ (.slice (some ⟨g,0,none⟩) (inn.length+1) cp)).heap[c]?=w9.heap[c]?:=fun c hc=>Go.Deep.blk_setCell_other _ ⟨gb,i * 3+2,none⟩ _ _ hc
 have hK:OwnSel (w9.setCell ⟨gb,i * 3+2,none⟩ (.slice (some ⟨g,0,none⟩) (inn.length+1) cp)) r.lo (.slice (some ⟨g,0,none⟩) (inn.length+1) cp) (inn++[r9]):=OwnSel.at_ hown (by simp) (fun c hc=>hoth c fun e=>by
   have e2:c=g:=by simpa [Value.ownBlock] using hc.symm
   exact hne (e▸e2)) fun q hq c c1 c2=>hoth c fun e=>by
  subst e
  rcases List.mem_append.1 hq with hq|hq
  ·exact hfr q hq ⟨c1,c2⟩
  ·rw[List.mem_singleton] at hq;subst hq;omega
 have hb9:Below (w.heap.size+2) w9 (w9.setCell ⟨gb,i * 3+2,none⟩ (.slice (some ⟨g,0,none⟩) (inn.length+1) cp)):=(Below.refl _ w9).setCell (p:=⟨gb,i * 3+2,none⟩) (by show w.heap.size+2≤gb;omega) _
 have hg2:w.heap.size+2≤g:=by
  rcases hat with q|q
  ·have:=hlt g q;omega
  ·omega
 refine⟨hk9 db h5 (by omega),hk9 gb (by omega) b3,hK,h.intoF hi hin hb1 hgrow hat hK (by simp) (by simp;omega) rfl hb9 fun c c1 _=>hoth c c1,fun z k key nm f e hok'=>?_⟩
 subst e
 have hp:=putL_other [.int .i64 k,.string key,.string nm,.int .i64 f,.slice none 0 0] (w9.setCell ⟨gb,i * 3+2,none⟩ (.slice (some ⟨g,0,none⟩) (inn.length+1) cp)) g (inn.length * 5)
 exact h.intoF hi hin hb1 hgrow hat (OwnSel.last hK k key nm f hok') (by simp) (by simp;omega) (hp gb hne) (putL_below hg2 _ _ hb9) fun c c1 c2=>(hp c c2).trans (hoth c c1)
theorem DocT.rdyF{gb:Nat}(h:DocT w W p len cap a db ra rc L lo M E (some ⟨gb,0,none⟩) fc F){r:RowF}(hi:F[0]?=some r){inn:List RowS}(hin:OwnIn W r.lo r.hi (.slice r.a r.u.len r.cap) inn)(hl:inn.length≤4)(hnl:r.u.len=inn.length){W1:World}(hb:Below W.heap.size W W1)(k:Int)(key nm:ByteArray)(f:Int)(hok:Selss.OkI k∧Selss.OkS key∧Selss.OkS nm∧Selss.OkI f) :
  OwnSel W1 r.lo (.slice r.a inn.length r.cap) inn∧((Selss.OkI k∧Selss.OkS key∧Selss.OkS nm∧Selss.OkI f)∧SelsX W1 W.heap.size W.heap.size none 0 .nil∧r.lo≤W.heap.size∧W.heap.size≤W1.heap.size∧∀ g,(Value.slice r.a inn.length r.cap).ownBlock=some g→g<W.heap.size∨W.heap.size≤g)∧(∀ q∈inn,q.hi≤W.heap.size)∧r.lo≤W1.heap.size ∧
  ∀ (g cp:Nat) (w9:World),OwnSel w9 r.lo (.slice (some ⟨g,0,none⟩) (inn.length+1) cp) (inn++[⟨k,key,nm,f,none,0,.nil,W.heap.size,W.heap.size⟩])→W1.grownBy w9 (Value.slice r.a inn.length r.cap).ownBlock→((Value.slice r.a inn.length r.cap).ownBlock=some g∨g=W1.heap.size) →
   w9.heap[db]?=W.heap[db]?∧w9.heap[gb]?=W.heap[gb]?∧OwnSel (w9.setCell ⟨gb,2,none⟩ (.slice (some ⟨g,0,none⟩) (inn.length+1) cp)) r.lo (.slice (some ⟨g,0,none⟩) (inn.length+1) cp) (inn++[⟨k,key,nm,f,none,0,.nil,W.heap.size,W.heap.size⟩])∧DocF w (w9.setCell ⟨gb,2,none⟩ (.slice (some ⟨g,0,none⟩) (inn.length+1) cp)) p len cap a db ∧
   ∀ (k':Int) (key' nm':ByteArray) (f':Int),k=0→key=⟨#[]⟩→nm=⟨#[]⟩→f=0→(Selss.OkI k'∧Selss.OkS key'∧Selss.OkS nm'∧Selss.OkI f')→DocF w (putL (w9.setCell ⟨gb,2,none⟩ (.slice (some ⟨g,0,none⟩) (inn.length+1) cp)) g (inn.length * 5) [.int .i64 k',.string key',.string nm',.int .i64 f',.slice none 0 0]) p len cap a db:=by
 obtain ⟨_,_,_,r3,r4,_⟩:=h.fragAt hi
 have hin':=hin
 rw[hnl] at hin'
 obtain ⟨g1,g2,g3,g4,_⟩:=OwnIn.ready hin' (by omega) hb k key nm f hok
 refine⟨g1,g2,g3,g4,fun g cp w9 z1 z2 z3=>?_⟩
 rw[←hnl] at z2 z3
 obtain ⟨y1,y2,y3,y4,y5⟩:=h.appF hi hin hl hb (Nat.le_refl _) z1 z2 z3
 exact⟨y1,y2,y3,y4,fun k' key' nm' f' e1 e2 e3 e4 hok'=>y5 _ k' key' nm' f' (by subst e1 e2 e3 e4;rfl) hok'⟩
end
end Go.Proofs.YtmembhpoidcmlaaGreatDoor.Draws
