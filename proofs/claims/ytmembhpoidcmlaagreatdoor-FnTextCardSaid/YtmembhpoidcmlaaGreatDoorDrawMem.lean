/-
  A member more of the last type of a schema that is being drawn; a law of append that tells which block has grown. Conditions: as each theorem says.
-/
import Derived.Test.YtmembhpoidcmlaaGreatDoorRows
import Derived.Test.YtmembhpoidcmlaaGreatDoorSch
import Derived.Test.YtmembhpoidcmlaaGreatDoorDrawSch
import Derived.Deep.RegionLaw
namespace Go.Proofs.YtmembhpoidcmlaaGreatDoor.Rw
open Go.RowKit
set_option linter.unusedVariables false
set_option maxRecDepth 100000
section
variable {α:Type} {n:Nat} {LX:World→Nat→Nat→Nat→Nat→α→Prop}
theorem LieRX.put(P:Lies n LX){w:World}:∀ {l:List α} {A B b off i:Nat} {x:α},LieRX n LX w l A B b off→l[i]?=some x →
  ∃ lo hi,A≤lo∧lo≤hi∧hi≤B∧(b<lo∨hi≤b)∧Free w b∧LX w lo hi b (off+i * n) x ∧
   ∀ (w':World) (y:α),(∀ c,A≤c→c<B→c≠b→(c<lo∨hi≤c)→w'.heap[c]?=w.heap[c]?)→Free w' b →
    (∀ j,off≤j→(j<off+i * n∨off+i * n+n≤j)→w'.cell? ⟨b,j,none⟩=w.cell? ⟨b,j,none⟩)→LX w' lo hi b (off+i * n) y→LieRX n LX w' (l.set i y) A B b off
 | [],_,_,_,_,_,_,_,h=>by simp at h
 | z::l,A,B,b,off,0,x,⟨hb,lo,hi,g1,g2,g3,g4,hs,hr⟩,hx=>by
  simp at hx;subst hx
  rw[Nat.zero_mul,Nat.add_zero]
  refine⟨lo,hi,g1,g2,g3,g4,hb,hs,fun w' y hw hf hc hy=>?_⟩
  refine⟨hf,lo,hi,g1,g2,g3,g4,hy,LieRX.frame P (fun c c1 c2 c3=>hw c (by omega) c2 c3 (.inr c1)) (fun _=>hf) (fun j j1 _=>hc j (by omega) (.inr (by omega))) hr⟩
 | z::l,A,B,b,off,i+1,x,⟨hb,lo0,hi0,g1,g2,g3,g4,hs,hr⟩,hx=>by
  obtain ⟨lo,hi,k1,k2,k3,k4,k5,k6,k7⟩:=LieRX.put P (i:=i) hr (by simpa using hx)
  have e:off+(i+1) * n=off+n+i * n:=by rw[Nat.succ_mul];omega
  rw[e]
  refine⟨lo,hi,by omega,k2,k3,k4,k5,k6,fun w' y hw hf hc hy=>?_⟩
  refine⟨hf,lo0,hi0,g1,g2,g3,g4,P.frame hs (fun c c1 c2=>hw c (by omega) (by omega) (by omega) (.inl (by omega))) (fun j j1 j2=>hc j j1 (.inl (by omega))),?_⟩
  exact k7 w' y (fun c c1 c2 c3 c4=>hw c (by omega) c2 c3 c4) hf (fun j j1 j2=>hc j (by omega) j2) hy
theorem RowsX.put(P:Lies n LX){w:World}{l:List α}{A B len i:Nat}{a:Option Addr}{x:α}(h:RowsX n LX w A B a len l)(hi:l[i]?=some x) :
  ∃ b off lo hi,a=some ⟨b,off,none⟩∧A≤b∧b<B∧A≤lo∧lo≤hi∧hi≤B∧(b<lo∨hi≤b)∧Free w b∧LX w lo hi b (off+i * n) x ∧
   ∀ (w':World) (y:α),(∀ c,A≤c→c<B→c≠b→(c<lo∨hi≤c)→w'.heap[c]?=w.heap[c]?)→Free w' b →
    (∀ j,off≤j→(j<off+i * n∨off+i * n+n≤j)→w'.cell? ⟨b,j,none⟩=w.cell? ⟨b,j,none⟩)→LX w' lo hi b (off+i * n) y→RowsX n LX w' A B a len (l.set i y):=by
 obtain ⟨h1,h2,h3,h4⟩:=h
 rcases h4 with rfl|⟨b,off,ha,hA,hB,hl⟩
 ·simp at hi
 ·obtain ⟨lo,hi,k1,k2,k3,k4,k5,k6,k7⟩:=hl.put P hi
  exact⟨b,off,lo,hi,ha,hA,hB,k1,k2,k3,k4,k5,k6,fun w' y hw hf hc hy=>⟨by rw[List.length_set];exact h1,h2,h3,.inr ⟨b,off,ha,hA,hB,k7 w' y hw hf hc hy⟩⟩⟩
end
theorem cell_other{w:World}{b i j:Nat}{v:Value}(h:j≠i):(w.setCell ⟨b,i,none⟩ v).cell? ⟨b,j,none⟩=w.cell? ⟨b,j,none⟩:=World.cell?_setCell_other _ _ _ _ (by simp)
theorem TypesX.setScalar{w:World}{s:List TypeP}{A B len i k:Nat}{a:Option Addr}{x y:TypeP}(h:TypesX w A B a len s)(hi:s[i]?=some x)(hk:k<3)(hf:y.fields=x.fields)(hm:y.members=x.members)(hy:y.ok)
  {v:Value} (hv:∀ a ca c cc,y.cells a ca c cc=(x.cells a ca c cc).set k v) :
  ∃ b off,a=some ⟨b,off,none⟩∧A≤b∧b<B∧Free w b∧(∃ u,w.cell? ⟨b,off+i * 5+k,none⟩=some u)∧TypesX (w.setCell ⟨b,off+i * 5+k,none⟩ v) A B a len (s.set i y):=by
 obtain ⟨b,off,lo,hi',ha,hA,hB,k1,k2,k3,k4,k5,k6,k7⟩:=RowsX.put typeLiesX h hi
 obtain ⟨g1,fa,ca,fc,cc,M,g2,⟨g3,g4⟩,g5,g6⟩:=k6
 have e1:=g3.2.2.1
 have e2:=g5.2.2.1
 have hoth:∀ c,c≠b→(w.setCell ⟨b,off+i * 5+k,none⟩ v).heap[c]?=w.heap[c]?:=fun c hc=>Go.Deep.blk_setCell_other _ ⟨b,off+i * 5+k,none⟩ _ _ hc
 refine⟨b,off,ha,hA,hB,k5,⟨_,g2 k _ (List.getElem?_eq_getElem (by simp[TypeP.cells];omega))⟩,k7 _ y (fun c _ _ hc _=>hoth c hc) (k5.set _ _ _) (fun j _ hj=>cell_other (by omega)) ⟨hy,fa,ca,fc,cc,M,?_,?_,?_⟩⟩
 ·rw[hv];exact g2.put (by simp[TypeP.cells];omega) v
 ·rw[hf];exact⟨g3.block fieldLies fun c c1 c2=>hoth c (by omega),g4⟩
 ·rw[hm];exact⟨g5.block textLies fun c c1 c2=>hoth c (by omega),g6⟩
theorem TypesX.setField{w:World}{s:List TypeP}{A B len i q k:Nat}{a:Option Addr}{x:TypeP}{f g:FieldP}(h:TypesX w A B a len s)(hi:s[i]?=some x)(hq:x.fields[q]?=some f)(hk:k<6)(hg:g.ok)
  {v:Value} (hv:g.cells=f.cells.set k v) :
  ∃ b off fb fo ca,a=some ⟨b,off,none⟩∧w.cell? ⟨b,off+i * 5+3,none⟩=some (.slice (some ⟨fb,fo,none⟩) x.fields.length ca)∧x.fields.length≤ca∧A≤fb∧fb<B∧Free w fb∧(∃ u,w.cell? ⟨fb,fo+q * 6+k,none⟩=some u) ∧
   TypesX (w.setCell ⟨fb,fo+q * 6+k,none⟩ v) A B a len (s.set i { x with fields:=x.fields.set q g }):=by
 obtain ⟨b,off,lo,hi',ha,hA,hB,k1,k2,k3,k4,k5,k6,k7⟩:=RowsX.put typeLiesX h hi
 obtain ⟨g1,fa,ca,fc,cc,M,g2,⟨g3,g4⟩,g5,g6⟩:=k6
 have e1:=g3.2.2.1
 have e2:=g5.2.2.1
 obtain ⟨fb,fo,lo2,hi2,hfa,hA2,hB2,m1,m2,m3,m4,m5,m6,m7⟩:=RowsX.put fieldLies g3 hq
 subst hfa
 have hoth:∀ c,c≠fb→(w.setCell ⟨fb,fo+q * 6+k,none⟩ v).heap[c]?=w.heap[c]?:=fun c hc=>Go.Deep.blk_setCell_other _ ⟨fb,fo+q * 6+k,none⟩ _ _ hc
 have hbb:b≠fb:=by omega
 have hcb:∀ j,(w.setCell ⟨fb,fo+q * 6+k,none⟩ v).cell? ⟨b,j,none⟩=w.cell? ⟨b,j,none⟩:=fun j=>World.cell?_of_block (w:=w) (hoth b hbb)
 refine⟨b,off,fb,fo,ca,ha,g2 3 _ rfl,g4,by omega,by omega,m5,⟨_,m6.2 k _ (List.getElem?_eq_getElem (by simp[FieldP.cells];omega))⟩,k7 _ _ (fun c _ _ _ hc=>hoth c (by omega)) (k5.of (hoth b hbb)) (fun j _ _=>hcb j) ⟨g1,some ⟨fb,fo,none⟩,ca,fc,cc,M,?_,?_,?_⟩⟩
 ·have:=g2.same (w':=w.setCell ⟨fb,fo+q * 6+k,none⟩ v) fun j _ _=>hcb j
  simpa [TypeP.cells] using this
 ·refine⟨?_,by simpa using g4⟩
  have:=m7 (w.setCell ⟨fb,fo+q * 6+k,none⟩ v) g (fun c _ _ hc _=>hoth c hc) (m5.set _ _ _) (fun j _ hj=>cell_other (by omega)) ⟨hg,by rw[hv];exact m6.2.put (by simp[FieldP.cells];omega) v⟩
  simpa using this
 ·exact⟨g5.block textLies fun c c1 c2=>hoth c (by omega),g6⟩
end Go.Proofs.YtmembhpoidcmlaaGreatDoor.Rw
namespace Go.Proofs.YtmembhpoidcmlaaGreatDoor.Draws
open Lib (hid)
open Go.RowKit Texts Bytes Rw Words
set_option linter.unusedVariables false
set_option maxRecDepth 100000
structure StS(w W:World)(p len cap:Nat)(a:Option Addr)(g E:Nat)(sa:Option Addr)(ca:Nat)(s:List TypeP):Prop where
 ty:TypesX W (w.heap.size+1) E sa 5 s
 cap5:5≤ca
 res:W.heap[w.heap.size]?=some (.cells #[.slice none 0 0] 35 (0,0))
 box:W.heap[g]?=some (.cells #[.slice sa 5 ca] 35 (0,0))
 src:Src W p a len cap
 only:Only p w W
 plt:p<w.heap.size
 end_:E≤W.heap.size
 far:w.heap.size<g
theorem StS.drew{w W:World}{p len cap g E ca:Nat}{a sa:Option Addr}{s:List TypeP}(h:StS w W p len cap a g E sa ca s):StS w W.drew p len cap a g E sa ca s :=
 ⟨RowsX.block (w:=W) (w':=W.drew) typeLiesX h.ty (fun _ _ _=>rfl),h.cap5,h.res,h.box,⟨h.src.ex,h.src.row,h.src.small,h.src.lt⟩,h.only.drew,h.plt,h.end_,h.far⟩
theorem StS.keep{w W W':World}{p len cap g E ca:Nat}{a sa:Option Addr}{s:List TypeP}(h:StS w W p len cap a g E sa ca s)(ho:Only p W W')(hs:Src W' p a len cap):StS w W' p len cap a g E sa ca s:=by
 have hp:=h.plt
 have hw:=h.only.size
 have e:=h.end_
 exact⟨h.ty.block typeLiesX fun c c1 c2=>ho.block c (by omega) (by omega),h.cap5,(ho.block _ (lt_of_get h.res) (by omega)).trans h.res,(ho.block _ (lt_of_get h.box) (by have:=h.far;omega)).trans h.box,hs,h.only.trans ho,hp,Nat.le_trans e ho.size,h.far⟩
theorem StS.alloc{w W:World}{p len cap g E ca:Nat}{a sa:Option Addr}{s:List TypeP}(h:StS w W p len cap a g E sa ca s)(o:Obj):StS w (W.alloc o) p len cap a g E sa ca s:=by
 have hb:Below W.heap.size W (W.alloc o):=(Below.refl _ _).alloc (Nat.le_refl _) o
 have hp:=h.plt
 have hw:=h.only.size
 exact h.keep ((Only.refl p W).of_below (Nat.le_refl _) hb) (h.src.below (by omega) hb)
theorem StS.fin{w W:World}{p len cap g E ca:Nat}{a sa:Option Addr}{s:List TypeP}(h:StS w W p len cap a g E sa ca s) :
  (W.setCell ⟨w.heap.size,0,none⟩ (.slice sa 5 ca)).heap[w.heap.size]?=some (.cells #[.slice sa 5 ca] 35 (0,0)) ∧
  SchemaX (W.setCell ⟨w.heap.size,0,none⟩ (.slice sa 5 ca)) w.heap.size (W.setCell ⟨w.heap.size,0,none⟩ (.slice sa 5 ca)).heap.size (.agg #[.slice sa 5 ca]) s ∧
  Src (W.setCell ⟨w.heap.size,0,none⟩ (.slice sa 5 ca)) p a len cap∧Only p w (W.setCell ⟨w.heap.size,0,none⟩ (.slice sa 5 ca)):=by
 have hBW:Below w.heap.size W (W.setCell ⟨w.heap.size,0,none⟩ (.slice sa 5 ca)):=(Below.refl w.heap.size W).setCell (Nat.le_refl _) _
 have hl:=h.ty.1
 have e:=h.end_
 refine⟨heap_setCell_same W w.heap.size 0 _ _ _ h.res,⟨sa,ca,by rw[hl],?_,by rw[hl];exact h.cap5⟩,h.src.below h.plt hBW,h.only.of_below (Nat.le_refl _) hBW⟩
 rw[hl]
 exact(h.ty.block typeLiesX fun c c1 _=>Go.Deep.blk_setCell_other _ ⟨w.heap.size,0,none⟩ _ _ (by show c≠w.heap.size;omega)).wide (by omega) (by simp;exact e)
theorem StS.at{w W:World}{p len cap g E ca:Nat}{a sa:Option Addr}{s:List TypeP}(h:StS w W p len cap a g E sa ca s){i:Nat}(hi:i<5):∃ x,s[i]?=some x∧x∈s:=by
 have hl:=h.ty.1
 exact⟨s[i]'(by omega),List.getElem?_eq_getElem (by omega),List.getElem_mem _⟩
theorem StS.place{w W:World}{p len cap g E ca:Nat}{a sa:Option Addr}{s:List TypeP}(h:StS w W p len cap a g E sa ca s)(hg:E≤g):∃ b off,sa=some ⟨b,off,none⟩∧b≠g∧g≠b∧b≠w.heap.size∧w.heap.size≠b:=by
 obtain ⟨h1,_,_,h2⟩:=h.ty
 rcases h2 with rfl|⟨b,off,rfl,hA,hB,_⟩
 ·simp at h1
 ·exact⟨b,off,rfl,by omega,by omega,by omega,by omega⟩
theorem StS.scalar{w W:World}{p len cap g E ca b off i k:Nat}{a:Option Addr}{s:List TypeP}{x y:TypeP}(h:StS w W p len cap a g E (some ⟨b,off,none⟩) ca s)(hg:E≤g)(hi:s[i]?=some x)(hk:k<3)(hf:y.fields=x.fields)(hm:y.members=x.members)(hy:y.ok)
  {v:Value} (hv:∀ a ca c cc,y.cells a ca c cc=(x.cells a ca c cc).set k v) :
  (∃ u,W.cell? ⟨b,off+i * 5+k,none⟩=some u)∧W.frozen? ⟨b,off+i * 5+k,none⟩=false∧StS w (W.setCell ⟨b,off+i * 5+k,none⟩ v) p len cap a g E (some ⟨b,off,none⟩) ca (s.set i y):=by
 obtain ⟨b',off',ha,hA,hB,hfr,hu,hset⟩:=h.ty.setScalar hi hk hf hm hy hv
 cases ha
 have hoth:∀ c,c≠b→(W.setCell ⟨b,off+i * 5+k,none⟩ v).heap[c]?=W.heap[c]?:=fun c hc=>Go.Deep.blk_setCell_other _ ⟨b,off+i * 5+k,none⟩ _ _ hc
 have hp:=h.plt
 have hBl:Below (w.heap.size+1) W (W.setCell ⟨b,off+i * 5+k,none⟩ v):=(Below.refl _ W).setCell hA v
 exact⟨hu,hfr.frozen _,hset,h.cap5,(hoth _ (by omega)).trans h.res,(hoth _ (by omega)).trans h.box,h.src.below (by omega) hBl,h.only.of_below (by omega) hBl,hp,by simp;exact h.end_,h.far⟩
theorem StS.field{w W:World}{p len cap g E ca b off i q k:Nat}{a:Option Addr}{s:List TypeP}{x:TypeP}{f y:FieldP}(h:StS w W p len cap a g E (some ⟨b,off,none⟩) ca s)(hg:E≤g)(hi:s[i]?=some x)(hq:x.fields[q]?=some f)(hk:k<6)(hy:y.ok)
  {v:Value} (hv:y.cells=f.cells.set k v) :
  ∃ fb fo fc,W.cell? ⟨b,off+i * 5+3,none⟩=some (.slice (some ⟨fb,fo,none⟩) x.fields.length fc)∧x.fields.length≤fc∧fb≠g∧g≠fb∧(∃ u,W.cell? ⟨fb,fo+q * 6+k,none⟩=some u)∧W.frozen? ⟨fb,fo+q * 6+k,none⟩=false ∧
   StS w (W.setCell ⟨fb,fo+q * 6+k,none⟩ v) p len cap a g E (some ⟨b,off,none⟩) ca (s.set i { x with fields:=x.fields.set q y }):=by
 obtain ⟨b',off',fb,fo,fc,ha,hc,hl,hA,hB,hfr,hu,hset⟩:=h.ty.setField hi hq hk hy hv
 cases ha
 have hoth:∀ c,c≠fb→(W.setCell ⟨fb,fo+q * 6+k,none⟩ v).heap[c]?=W.heap[c]?:=fun c hc=>Go.Deep.blk_setCell_other _ ⟨fb,fo+q * 6+k,none⟩ _ _ hc
 have hp:=h.plt
 have hBl:Below (w.heap.size+1) W (W.setCell ⟨fb,fo+q * 6+k,none⟩ v):=(Below.refl _ W).setCell hA v
 exact⟨fb,fo,fc,hc,hl,by omega,by omega,hu,hfr.frozen _,hset,h.cap5,(hoth _ (by omega)).trans h.res,(hoth _ (by omega)).trans h.box,h.src.below (by omega) hBl,h.only.of_below (by omega) hBl,hp,by simp;exact h.end_,h.far⟩
theorem StS.apart{w W:World}{p len cap g E ca b off:Nat}{a:Option Addr}{s:List TypeP}(h:StS w W p len cap a g E (some ⟨b,off,none⟩) ca s):b≠p:=by
 obtain ⟨h1,_,_,h2⟩:=h.ty
 have hp:=h.plt
 rcases h2 with rfl|⟨b',off',e,hA,hB,_⟩
 ·simp at h1
 ·cases e;omega
theorem StS.field2{w W:World}{p len cap g E ca b off i q k:Nat}{a:Option Addr}{s:List TypeP}{x:TypeP}{f:FieldP}(h:StS w W p len cap a g E (some ⟨b,off,none⟩) ca s)(hg:E≤g)(hi:s[i]?=some x)(hq:x.fields[q]?=some f)(hk:k<6)(hfo:f.ok) :
  ∃ fb fo fc,W.cell? ⟨b,off+i * 5+3,none⟩=some (.slice (some ⟨fb,fo,none⟩) x.fields.length fc)∧x.fields.length≤fc∧fb≠g∧g≠fb ∧
   ∀ (W':World) (y:FieldP) (v:Value),StS w W' p len cap a g E (some ⟨b,off,none⟩) ca s→Only p W W'→y.ok→y.cells=f.cells.set k v →
    W'.cell? ⟨b,off+i * 5+3,none⟩=some (.slice (some ⟨fb,fo,none⟩) x.fields.length fc)∧(∃ u,W'.cell? ⟨fb,fo+q * 6+k,none⟩=some u)∧W'.frozen? ⟨fb,fo+q * 6+k,none⟩=false ∧
    StS w (W'.setCell ⟨fb,fo+q * 6+k,none⟩ v) p len cap a g E (some ⟨b,off,none⟩) ca (s.set i { x with fields:=x.fields.set q y }):=by
 obtain ⟨fb,fo,fc,hc,hl,h1,h2,_⟩:=h.field hg hi hq hk hfo (v:=f.cells.getD k .nilIface) (by
  match k,hk with
  | 0,_=>rfl
  | 1,_=>rfl
  | 2,_=>rfl
  | 3,_=>rfl
  | 4,_=>rfl
  | 5,_=>rfl)
 refine⟨fb,fo,fc,hc,hl,h1,h2,fun W' y v h' ho hy hv=>?_⟩
 have hc':=(World.cell?_of_block (w:=W) (a:=⟨b,off+i * 5+3,none⟩) (ho.block b (lt_of_cell hc) h.apart)).trans hc
 obtain ⟨fb',fo',fc',hcx,_,_,_,hu,hfz,hst⟩:=h'.field hg hi hq hk hy hv
 rw[hc'] at hcx
 cases hcx
 exact⟨hc',hu,hfz,hst⟩
theorem MembersO.keep{W W':World}{B p:Nat}{v:Value}{s:List TypeP}(h:MembersO W B v s)(ho:Only p W W')(hp:p<B):MembersO W' B v s:=fun i x hi=>by
 obtain ⟨gb,cap',c,cc,base,e1,e2,e3,e4,e5⟩:=h i x hi
 exact⟨gb,cap',c,cc,base,e1,e2,e3,(World.cell?_of_block (w:=W) (ho.block gb (lt_of_cell e4) (by omega))).trans e4,OwnTs.frame e5 fun q q1 q2=>ho.block q q2 (by omega)⟩
theorem sumOf_set{α:Type}(f:α→Nat)(y:α):∀ (l:List α) (i:Nat),sumOf f (l.set i y)≤sumOf f l+f y
 | [],i=>by simp[sumOf]
 | x::l,0=>by simp only[List.set_cons_zero,sumOf];omega
 | x::l,i+1=>by have:=sumOf_set f y l i;simp only[List.set_cons_succ,sumOf];omega
theorem three_wt{s:List TypeP}(h:IsThree s):s.length=5∧schWt s≤400:=by
 rcases h with rfl|rfl|rfl <;> exact⟨rfl,by decide⟩
theorem wt_set{s:List TypeP}{i:Nat}{y:TypeP}(h:schWt s≤400)(hy:y.wt≤5000):schWt (s.set i y)≤10000:=by
 unfold schWt at *
 have:=sumOf_set TypeP.wt y s i
 rw[List.length_set];omega
theorem wt_mem{s:List TypeP}{x:TypeP}{i:Nat}(h:schWt s≤400)(hx:s[i]?=some x):x.wt≤400:=by
 have:=sumOf_mem (f:=TypeP.wt) hx
 unfold schWt at h;omega
theorem three_ok{s:List TypeP}(h:IsThree s):∀ x∈s,x.ok∧∀ f∈x.fields,f.ok:=by
 have key:∀ s:List TypeP,(s.all fun x=>(decide (x.name.size≤9223372036854775807) && (decide (-9223372036854775808≤x.kind) && decide (x.kind≤9223372036854775807))) && ((decide (-9223372036854775808≤x.bytes) && decide (x.bytes≤9223372036854775807)) && x.fields.all fun f=>(decide (f.name.size≤9223372036854775807) && decide (f.typ.size≤9223372036854775807)) && ((decide (-9223372036854775808≤f.size) && decide (f.size≤9223372036854775807)) && (decide (-9223372036854775808≤f.cap) && decide (f.cap≤9223372036854775807)))))=true→∀ x∈s,x.ok∧∀ f∈x.fields,f.ok:=fun s hs x hx=>by
  simp only[List.all_eq_true,Bool.and_eq_true,decide_eq_true_eq] at hs
  have:=hs x hx
  refine⟨⟨this.1.1,this.1.2,this.2.1⟩,fun f hf=>?_⟩
  have:=this.2.2 f hf
  exact⟨this.1.1,this.1.2,this.2.1,this.2.2⟩
 rcases h with rfl|rfl|rfl <;> exact key _ (by decide)
theorem three_fields{s:List TypeP}(h:IsThree s):∃ x f0 f1,s[0]?=some x∧x.fields[0]?=some f0∧x.fields[1]?=some f1:=by
 rcases h with rfl|rfl|rfl <;> exact⟨_,_,_,rfl,rfl,rfl⟩
theorem wt_field{x:TypeP}{f g:FieldP}{q:Nat}(h:x.wt≤400)(_hq:x.fields[q]?=some f)(hg:g.wt≤f.wt+100):({ x with fields:=x.fields.set q g }:TypeP).wt≤5000:=by
 have h1:=sumOf_set FieldP.wt g x.fields q
 have h2:=sumOf_mem (f:=FieldP.wt) _hq
 unfold TypeP.wt at *
 simp only[List.length_set]
 omega
theorem small3{r:ByteArray}(h:r∈([⟨#[81]⟩,⟨#[113]⟩,⟨#[78,69,87]⟩]:List ByteArray)):r.size≤4:=by
 simp only[List.mem_cons,List.not_mem_nil,or_false] at h
 rcases h with rfl|rfl|rfl <;> decide
theorem small4{r:ByteArray}(h:r∈([⟨#[78,79]⟩,⟨#[83,84,82]⟩,⟨#[65,78,89]⟩]:List ByteArray)):r.size≤4:=by
 simp only[List.mem_cons,List.not_mem_nil,or_false] at h
 rcases h with rfl|rfl|rfl <;> decide
theorem four_at{W:World}{g m:Nat}(h:W.heap[g]?=some (.cells #[.int .i64 (-1),.int .i64 0,.int .i64 100,.int .i64 101] 2 (0,0)))(hm:m<4):∃ v:Int,Hid (-1≤v∧v≤101)∧W.cell? ⟨g,m,none⟩=some (.int .i64 v):=by
 match m,hm with
 | 0,_=>exact⟨-1,hid (by omega),cell_of h rfl⟩
 | 1,_=>exact⟨0,hid (by omega),cell_of h rfl⟩
 | 2,_=>exact⟨100,hid (by omega),cell_of h rfl⟩
 | 3,_=>exact⟨101,hid (by omega),cell_of h rfl⟩
end Go.Proofs.YtmembhpoidcmlaaGreatDoor.Draws
namespace Go.Proofs.YtmembhpoidcmlaaGreatDoor.Draws
open Go.RowKit Texts Bytes Rw Words
set_option linter.unusedVariables false
set_option maxRecDepth 100000
section
variable {w:World} {ops:Array Oper} {o:Oper} {a:Act}
theorem step_app_textG{K:Act→World→Prop}{Q:Exit→Act→World→Prop}{E:Prop}(hgd:o.guard=none)(s x:Operand)
  (ho:o.op=.call { callee:=.builtin .append,args:=#[s,x],argTypes:=#[48,48] })
  (base:Nat) (v:Value) (l:List ByteArray) (hs:a.eval s=v) (hown:OwnTs w base v l)
  (B c:Nat) (hx:a.eval x=.slice (some ⟨B,0,none⟩) 1 c) (y:ByteArray) (hc:w.cell? ⟨B,0,none⟩=some (.string y))
  (hsize:l.length+1≤1048576) (hbase:base≤w.heap.size)
  (h:∀ g cap w',OwnTs w' base (.slice (some ⟨g,0,none⟩) (l.length+1) cap) (l++[y])→w.grownBy w' v.ownBlock→(v.ownBlock=some g∨g=w.heap.size)→Below base w w'→K (a.put o.dst (.slice (some ⟨g,0,none⟩) (l.length+1) cap)) w'):if Region.wanted o (yielded ops a.tmps)=true then Oper.wp Tryz.prog o a w K Q else E:=by
 obtain ⟨i0,hi,hz0,hz1,hz2⟩:=info_parts infoStr
 refine step_append_lies w hgd s x 48 ho base 9 i0 _ 1 16 Tryz.underlying48 hi hz0 hz1 hz2 rfl (by decide) v l.length (l.map Value.string) hs hown ⟨B,0,none⟩ 1 c [.string y] hx rfl
  (fun j u hj=>by
   have e:j=0:=by have:=(List.getElem?_eq_some_iff.1 hj).1;simp at this;exact this
   subst e;cases hj
   rw[add_plain];exact hc) (fun u hu=>?_) (by omega) (by unfold maxLen;omega) (by omega) hbase _ rfl ?_
 ·simp at hu;subst hu;rfl
 ·intro g cap w' hown' hgrow hat _
  exact h _ cap w' (by unfold OwnTs;rw[List.length_append,List.map_append];exact hown') hgrow hat ((Below.refl base w).grown hgrow hbase (fun k hk=>(World.ownsRow.lt hown k hk).1))
end
theorem OwnTs.alone{w:World}{base g n cap:Nat}{l:List ByteArray}(h:OwnTs w base (.slice (some ⟨g,0,none⟩) n cap) l)(hl:l.length=n)(hok:∀ x∈l,OkS x)(hL:n≤1048576):n≤cap∧g<w.heap.size∧TextsX w g (g+1) (some ⟨g,0,none⟩) n l:=by
 obtain ⟨hl',⟨hv,hn⟩|⟨gb,cap',cur,hv,hb,hg,hc,hm,hs,ht⟩⟩:=h
 ·cases hv
 ·cases hv
  have hlt:=lt_of_get hg
  refine⟨by omega,hlt,hl,by omega,by omega,.inr ⟨g,0,rfl,Nat.le_refl _,by omega,LieRX.flat ⟨cur,_,hg⟩ (by omega) (by omega) fun i x hx=>⟨hok x (List.mem_of_getElem? hx),?_⟩⟩⟩
  have hj:(l.map Value.string)[i]?=some (.string x):=by rw[List.getElem?_map,hx];rfl
  rw[←ht] at hj
  have hj2:=(List.getElem?_eq_some_iff.1 hj).1
  rw[List.length_take] at hj2
  rw[List.getElem?_take_of_lt (by omega)] at hj
  exact cell_of hg (by rw[Nat.zero_add,Nat.mul_one,←hj];simp)
theorem three_last{s:List TypeP}(h:IsThree s):∃ x,s[4]?=some x∧x.fields=[]∧x.members≠[]∧x.members.length≤5∧(∀ m∈x.members,OkS m)∧x.ok:=by
 have key:∀ x:TypeP,(x.members.all fun m=>decide (m.size≤9223372036854775807))=true→∀ m∈x.members,OkS m:=fun x hx m hm=>by
  simp only[List.all_eq_true,decide_eq_true_eq] at hx
  exact hx m hm
 rcases h with rfl|rfl|rfl
 ·exact⟨_,rfl,rfl,by simp,by decide,key _ (by decide),(three_ok (.inl rfl) _ (List.mem_of_getElem? (i:=4) rfl)).1⟩
 ·exact⟨_,rfl,rfl,by simp,by decide,key _ (by decide),(three_ok (.inr (.inl rfl)) _ (List.mem_of_getElem? (i:=4) rfl)).1⟩
 ·exact⟨_,rfl,rfl,by simp,by decide,key _ (by decide),(three_ok (.inr (.inr rfl)) _ (List.mem_of_getElem? (i:=4) rfl)).1⟩
theorem small5{r:ByteArray}(h:r∈([⟨#[83,84,82]⟩,⟨#[85,83,69,82]⟩,⟨#[81]⟩]:List ByteArray)):r.size≤4:=by
 simp only[List.mem_cons,List.not_mem_nil,or_false] at h
 rcases h with rfl|rfl|rfl <;> decide
theorem sumOf_snoc{α:Type}(f:α→Nat)(y:α):∀ l:List α,sumOf f (l++[y])=sumOf f l+f y
 | []=>by simp[sumOf]
 | x::l=>by have:=sumOf_snoc f y l;simp only[List.cons_append,sumOf];omega
theorem wt_member{x:TypeP}{m:ByteArray}(h:x.wt≤400)(hm:m.size≤100):(⟨x.name,x.kind,x.bytes,x.fields,x.members++[m]⟩:TypeP).wt≤5000:=by
 have h1:=sumOf_snoc ByteArray.size m x.members
 unfold TypeP.wt at *
 simp only[List.length_append,List.length_singleton]
 omega
theorem StS.member{w W W':World}{p len cap g E ca b off base g' cap' cc:Nat}{a c:Option Addr}{s:List TypeP}{x:TypeP}{m:ByteArray}(h:StS w W p len cap a g E (some ⟨b,off,none⟩) ca s)(hg:E≤g)(hi:s[4]?=some x)(hfx:x.fields=[])(hne:x.members≠[])(hml:x.members.length≤5)(hmo:∀ m∈x.members,OkS m)(hxo:x.ok)(hm:OkS m)
  (hcell:W.cell? ⟨b,off+4 * 5+4,none⟩=some (.slice c x.members.length cc)) (hown:OwnTs W base (.slice c x.members.length cc) x.members) (hbase:w.heap.size+1≤base)
  (hown':OwnTs W' base (.slice (some ⟨g',0,none⟩) (x.members.length+1) cap') (x.members++[m])) (hgrow:W.grownBy W' (Value.slice c x.members.length cc).ownBlock) (hat:(Value.slice c x.members.length cc).ownBlock=some g'∨g'=W.heap.size) (hbel:Below base W W') :
  W'.cell? ⟨g,0,none⟩=some (.slice (some ⟨b,off,none⟩) 5 ca)∧W'.cell? ⟨b,off+4 * 5+4,none⟩=some (.slice c x.members.length cc)∧W'.frozen? ⟨b,off+4 * 5+4,none⟩=false ∧
   StS w (W'.setCell ⟨b,off+4 * 5+4,none⟩ (.slice (some ⟨g',0,none⟩) (x.members.length+1) cap')) p len cap a g W'.heap.size (some ⟨b,off,none⟩) ca (s.set 4 ⟨x.name,x.kind,x.bytes,x.fields,x.members++[m]⟩):=by
 have hl5:=h.ty.1
 have hp:=h.plt
 obtain ⟨_,hn5,hAE,hrow⟩:=h.ty
 rcases hrow with hnil|⟨b',off',e,hA,hB,hlie⟩
 ·rw[hnil] at hl5;simp at hl5
 cases e
 obtain ⟨M,ht,hd⟩:=hlie.split 4
 have hd4:s.drop 4=[x]:=by
  obtain ⟨hlt,he⟩:=List.getElem?_eq_some_iff.1 hi
  rw[List.drop_eq_getElem_cons hlt,he,List.drop_eq_nil_of_le (by omega)]
 rw[hd4] at hd
 obtain ⟨hfree,lo,hi',q1,q2,q3,q4,⟨_,fa,fca,c0,cc0,M',hcells,hflds,htx,hcc0⟩,_⟩:=hd
 have hc4:=hcells 4 _ rfl
 rw[hcell] at hc4
 cases hc4
 have eM:=htx.2.2.1
 have eF:=hflds.1.2.2.1
 -- the members' block
 obtain ⟨gb,goff,hcb,hgb1,hgb2⟩:∃ gb goff,c=some ⟨gb,goff,none⟩∧M'≤gb∧gb<hi':=by
  rcases htx.2.2.2 with hn|⟨gb,goff,e,g1,g2,_⟩
  ·exact absurd hn hne
  ·exact⟨gb,goff,e,g1,g2⟩
 subst hcb
 have howb:(Value.slice (some ⟨gb,goff,none⟩) x.members.length cc).ownBlock=some gb:=rfl
 rw[howb] at hgrow hat
 have hblk:∀ q,q<W.heap.size→q≠gb→W'.heap[q]?=W.heap[q]?:=fun q h1 h2=>hgrow.block q h1 (by simp[h2])
 have hEW:=h.end_
 have hgbne:gb≠b:=by omega
 have hbW:b<W.heap.size:=hfree.lt
 have hgW:=lt_of_get h.box
 have hrW:=lt_of_get h.res
 have hfar:=h.far
 have hsz:W.heap.size≤W'.heap.size:=hgrow.size
 obtain ⟨hcap',hg'W,htx'⟩:=OwnTs.alone hown' (by simp) (fun y hy=>(List.mem_append.1 hy).elim (hmo y) (fun e=>by rw[List.mem_singleton] at e;rw[e];exact hm)) (by omega)
 have hg'ne:g'≠b:=by rcases hat with e|e;(· cases e;omega);(· omega)
 have hg'lo:M≤g':=by rcases hat with e|e;(· cases e;omega);(· omega)
 have hoth:∀ q,q≠b→(W'.setCell ⟨b,off+4 * 5+4,none⟩ (.slice (some ⟨g',0,none⟩) (x.members.length+1) cap')).heap[q]?=W'.heap[q]?:=fun q hq=>Go.Deep.blk_setCell_other _ ⟨b,off+4 * 5+4,none⟩ _ _ hq
 have hfreeW':Free W' b:=hfree.of (hblk b hbW hgbne.symm)
 have hbcell:∀ j,W'.cell? ⟨b,j,none⟩=W.cell? ⟨b,j,none⟩:=fun j=>World.cell?_of_block (w:=W) (a:=⟨b,j,none⟩) (hblk b hbW hgbne.symm)
 have hrowW':RowN W' b (off+4 * 5) (x.cells fa fca (some ⟨gb,goff,none⟩) cc):=hcells.block (hblk b hbW hgbne.symm)
 have hBel:Below (w.heap.size+1) W (W'.setCell ⟨b,off+4 * 5+4,none⟩ (.slice (some ⟨g',0,none⟩) (x.members.length+1) cap')):=(hbel.mono hbase).setCell (by omega) _
 refine⟨(World.cell?_of_block (w:=W) (a:=⟨g,0,none⟩) (hblk g hgW (by omega))).trans (cell_of h.box rfl),(hbcell _).trans hcell,hfreeW'.frozen _,?_⟩
 refine⟨?_,h.cap5,(hBel.block _ (by omega)).trans h.res,((hoth g (by omega)).trans (hblk g hgW (by omega))).trans h.box,h.src.below (by omega) hBel,h.only.of_below (by omega) hBel,hp,by simp,hfar⟩
 refine⟨by rw[List.length_set];exact hl5,hn5,by omega,.inr ⟨b,off,rfl,hA,by omega,?_⟩⟩
 have hset:s.set 4 (⟨x.name,x.kind,x.bytes,x.fields,x.members++[m]⟩:TypeP)=s.take 4++[⟨x.name,x.kind,x.bytes,x.fields,x.members++[m]⟩]:=by
  apply List.ext_getElem?
  intro j
  rw[List.getElem?_set]
  by_cases hj:4=j
  ·subst hj
   rw[if_pos rfl,if_pos (by omega),List.getElem?_append_right (by rw[List.length_take];omega),List.length_take,Nat.min_eq_left (by omega)]
   rfl
  ·rw[if_neg hj]
   by_cases hj2:j<4
   ·rw[List.getElem?_append_left (by rw[List.length_take];omega),List.getElem?_take_of_lt hj2]
   ·rw[List.getElem?_eq_none (by omega),List.getElem?_eq_none (by rw[List.length_append,List.length_take];simp;omega)]
 rw[hset]
 have htl:(s.take 4).length=4:=by rw[List.length_take];omega
 refine LieRX.join (M:=M) (LieRX.frame typeLiesX (fun q q1' q2' q3'=>(hoth q q3').trans (hblk q (by omega) (by omega))) (fun _=>hfreeW'.set _ _ _) (fun j j1 j2=>?_) ht) ?_
 ·rw[htl] at j2
  rw[cell_other (by omega)];exact hbcell j
 ·rw[htl]
  have htxF:TextsX (W'.setCell ⟨b,off+4 * 5+4,none⟩ (.slice (some ⟨g',0,none⟩) (x.members.length+1) cap')) g' (g'+1) (some ⟨g',0,none⟩) (x.members++[m]).length (x.members++[m]):=by
   rw[List.length_append]
   exact htx'.block textLies fun q q1' q2'=>hoth q (by omega)
  refine⟨hfreeW'.set _ _ _,g',g'+1,hg'lo,by omega,by omega,by rcases hat with e|e;(· cases e;omega);(· omega),⟨hxo,fa,fca,some ⟨g',0,none⟩,cap',g',?_,⟨?_,?_⟩,htxF,by rw[List.length_append];exact hcap'⟩,by show g'+1≤W'.heap.size;omega⟩
  ·have:=hrowW'.put (j:=4) (by simp[TypeP.cells]) (.slice (some ⟨g',0,none⟩) (x.members.length+1) cap')
   simpa [TypeP.cells] using this
  ·rw[hfx];exact RowsX.nil (Nat.le_refl _)
  ·rw[hfx];exact Nat.zero_le _
end Go.Proofs.YtmembhpoidcmlaaGreatDoor.Draws
