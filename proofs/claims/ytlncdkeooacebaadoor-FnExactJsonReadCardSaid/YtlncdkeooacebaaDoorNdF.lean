/-
  Nodes in memory with the blocks that they lie in, one by one; a row of nodes of the call's own, and one of texts beside it, grown by append; no program's function. Conditions: as each theorem says.
-/
import Derived.Test.YtlncdkeooacebaaDoorRows
import Derived.Test.YtlncdkeooacebaaDoorNodeP
import Derived.Test.YtlncdkeooacebaaDoorOwnT
import Derived.Deep.AppendLies
namespace Go.Proofs.YtlncdkeooacebaaDoor.Rw
open Go.RowKit
open Nm (OwnTs)
set_option linter.unusedVariables false
set_option maxRecDepth 100000

def TxF (w : World) (F : List Nat) (a : Option Addr) (l : List ByteArray) : Prop := (l = [] ∧ F = []) ∨ ∃ b off, a = some ⟨b, off, none⟩ ∧ F = [b] ∧ Free w b ∧ ∀ j y, l[j]? = some y → OkS y ∧ w.cell? ⟨b, off + j, none⟩ = some (.string y)
def LsF (L : World → List Nat → Nat → Nat → NodeP → Prop) (w : World) : List Nat → Nat → Nat → List NodeP → Prop
  | G, _, _, [] => G = []
  | G, b, off, x :: l => ∃ G1 G2, G = G1 ++ G2 ∧ L w G1 b off x ∧ LsF L w G2 b (off + 4) l
def RwF (L : World → List Nat → Nat → Nat → NodeP → Prop) (w : World) (F : List Nat) (c : Option Addr) (l : List NodeP) : Prop := (l = [] ∧ F = []) ∨ ∃ b off G, c = some ⟨b, off, none⟩ ∧ F = b :: G ∧ Free w b ∧ LsF L w G b off l
def BodyF (L : World → List Nat → Nat → Nat → NodeP → Prop) (w : World) (F : List Nat) (x : NodeP) (a : Option Addr) (ca : Nat) (c : Option Addr) (cc : Nat) : Prop :=
  x.ok ∧ x.keys.length ≤ ca ∧ x.kids.length ≤ cc ∧ x.keys.length ≤ 1048576 ∧ x.kids.length ≤ 1048576 ∧ ∃ F1 F2, F = F1 ++ F2 ∧ TxF w F1 a x.keys ∧ RwF L w F2 c x.kids
/-- A node in memory, in the blocks F beside its own four cells. -/
def NdF : Nat → World → List Nat → Nat → Nat → NodeP → Prop
  | 0, _, _, _, _, _ => False
  | n + 1, w, F, b, o, x => ∃ a ca c cc, RowN w b o (x.cells a ca c cc) ∧ BodyF (NdF n) w F x a ca c cc

theorem TxF.frame {w w' : World} {F : List Nat} {a : Option Addr} {l : List ByteArray} (h : TxF w F a l) (hw : ∀ b ∈ F, w'.heap[b]? = w.heap[b]?) : TxF w' F a l := by
  rcases h with h | ⟨b, off, ha, rfl, hf, hl⟩
  · exact .inl h
  · have e := hw b (by simp)
    exact .inr ⟨b, off, ha, rfl, hf.of e, fun j y hj => ⟨(hl j y hj).1, (World.cell?_of_block (w := w) e).trans (hl j y hj).2⟩⟩
theorem LsF.frame {L : World → List Nat → Nat → Nat → NodeP → Prop} {w w' : World} (hL : ∀ F b o x, L w F b o x → (∀ c ∈ F, w'.heap[c]? = w.heap[c]?) → w'.heap[b]? = w.heap[b]? → L w' F b o x) : ∀ {l : List NodeP} {G : List Nat} {b off : Nat}, LsF L w G b off l → (∀ c ∈ G, w'.heap[c]? = w.heap[c]?) → w'.heap[b]? = w.heap[b]? → LsF L w' G b off l
  | [], _, _, _, h, _, _ => h
  | x :: l, G, b, off, ⟨G1, G2, e, h1, h2⟩, hw, hb => by
    subst e
    exact ⟨G1, G2, rfl, hL _ _ _ _ h1 (fun c hc => hw c (by simp [hc])) hb, h2.frame hL (fun c hc => hw c (by simp [hc])) hb⟩
theorem RwF.frame {L : World → List Nat → Nat → Nat → NodeP → Prop} {w w' : World} (hL : ∀ F b o x, L w F b o x → (∀ c ∈ F, w'.heap[c]? = w.heap[c]?) → w'.heap[b]? = w.heap[b]? → L w' F b o x) {F : List Nat} {c : Option Addr} {l : List NodeP} (h : RwF L w F c l) (hw : ∀ b ∈ F, w'.heap[b]? = w.heap[b]?) : RwF L w' F c l := by
  rcases h with h | ⟨b, off, G, hc, rfl, hf, hl⟩
  · exact .inl h
  · have e := hw b (by simp)
    exact .inr ⟨b, off, G, hc, rfl, hf.of e, hl.frame hL (fun c hc => hw c (by simp [hc])) e⟩
theorem BodyF.frame {L : World → List Nat → Nat → Nat → NodeP → Prop} {w w' : World} (hL : ∀ F b o x, L w F b o x → (∀ c ∈ F, w'.heap[c]? = w.heap[c]?) → w'.heap[b]? = w.heap[b]? → L w' F b o x) {F : List Nat} {x : NodeP} {a c : Option Addr} {ca cc : Nat} (h : BodyF L w F x a ca c cc) (hw : ∀ b ∈ F, w'.heap[b]? = w.heap[b]?) : BodyF L w' F x a ca c cc := by
  obtain ⟨h1, h2, h3, h4, h5, F1, F2, rfl, h6, h7⟩ := h
  exact ⟨h1, h2, h3, h4, h5, F1, F2, rfl, h6.frame fun b hb => hw b (by simp [hb]), h7.frame hL fun b hb => hw b (by simp [hb])⟩
theorem NdF.frame : ∀ {n : Nat} {w w' : World} {F : List Nat} {b o : Nat} {x : NodeP}, NdF n w F b o x → (∀ c ∈ F, w'.heap[c]? = w.heap[c]?) → w'.heap[b]? = w.heap[b]? → NdF n w' F b o x
  | 0, _, _, _, _, _, _, h, _, _ => h.elim
  | n + 1, w, w', F, b, o, x, ⟨a, ca, c, cc, h1, h2⟩, hw, hb => ⟨a, ca, c, cc, fun j v hj => (World.cell?_of_block (w := w) hb).trans (h1 j v hj), h2.frame (fun _ _ _ _ g g1 g2 => NdF.frame g g1 g2) hw⟩
theorem BodyF.frameN {n : Nat} {w w' : World} {F : List Nat} {x : NodeP} {a c : Option Addr} {ca cc : Nat} (h : BodyF (NdF n) w F x a ca c cc) (hw : ∀ b ∈ F, w'.heap[b]? = w.heap[b]?) : BodyF (NdF n) w' F x a ca c cc := h.frame (fun _ _ _ _ g g1 g2 => NdF.frame g g1 g2) hw
theorem TxF.at_ {w : World} {F : List Nat} {A B : Nat} {a : Option Addr} {l : List ByteArray} (h : TxF w F a l) (hw : ∀ b ∈ F, A ≤ b ∧ b < B) (hl : l.length ≤ 1048576) : TextsAt w A B a l.length l := by
  refine ⟨rfl, by omega, ?_⟩
  rcases h with h | ⟨b, off, ha, rfl, hf, hr⟩
  · exact .inl h.1
  · have := hw b (by simp)
    exact .inr ⟨b, off, ha, this.1, this.2, fun i y hy => by rw [Nat.mul_one]; exact hr i y hy⟩
theorem LsF.get {L : World → List Nat → Nat → Nat → NodeP → Prop} {w : World} : ∀ {l : List NodeP} {G : List Nat} {b off : Nat}, LsF L w G b off l → ∀ i x, l[i]? = some x → ∃ G1, (∀ c ∈ G1, c ∈ G) ∧ L w G1 b (off + i * 4) x
  | [], _, _, _, _, i, x, hx => by simp at hx
  | y :: l, G, b, off, ⟨G1, G2, e, h1, h2⟩, i, x, hx => by
    subst e
    cases i with
    | zero =>
      simp at hx; subst hx
      exact ⟨G1, fun c hc => by simp [hc], by rw [Nat.zero_mul, Nat.add_zero]; exact h1⟩
    | succ i =>
      obtain ⟨G3, g1, g2⟩ := h2.get i x (by simpa using hx)
      exact ⟨G3, fun c hc => by simp [g1 c hc], by rw [show off + (i + 1) * 4 = off + 4 + i * 4 by omega]; exact g2⟩
theorem BodyF.nodes {n : Nat} (IH : ∀ {w : World} {F : List Nat} {A B b o : Nat} {x : NodeP}, NdF n w F b o x → (∀ c ∈ F, A ≤ c ∧ c < B) → NodeLie n w A B b o x) {w : World} {F : List Nat} {A B : Nat} {x : NodeP} {a c : Option Addr} {ca cc : Nat} (h : BodyF (NdF n) w F x a ca c cc) (hw : ∀ b ∈ F, A ≤ b ∧ b < B) :
    x.ok ∧ (TextsAt w A B a x.keys.length x.keys ∧ x.keys.length ≤ ca) ∧ NodesAt n w A B c x.kids.length x.kids ∧ x.kids.length ≤ cc := by
  obtain ⟨h1, h2, h3, h4, h5, F1, F2, rfl, h6, h7⟩ := h
  refine ⟨h1, ⟨h6.at_ (fun b hb => hw b (by simp [hb])) h4, h2⟩, ⟨rfl, by omega, ?_⟩, h3⟩
  rcases h7 with h7 | ⟨b, off, G, hc, rfl, hf, hl⟩
  · exact .inl h7.1
  · have := hw b (by simp)
    refine .inr ⟨b, off, hc, this.1, this.2, fun i y hy => ?_⟩
    obtain ⟨G1, g1, g2⟩ := hl.get i y hy
    exact IH g2 fun c hc => hw c (by simp [g1 c hc])
theorem NdF.lie : ∀ {n : Nat} {w : World} {F : List Nat} {A B b o : Nat} {x : NodeP}, NdF n w F b o x → (∀ c ∈ F, A ≤ c ∧ c < B) → NodeLie n w A B b o x
  | 0, _, _, _, _, _, _, _, h, _ => h.elim
  | n + 1, w, F, A, B, b, o, x, ⟨a, ca, c, cc, h1, h2⟩, hw => by
    obtain ⟨g1, g2, g3, g4⟩ := h2.nodes (fun g hg => NdF.lie g hg) hw
    exact ⟨g1, a, ca, c, cc, h1, g2, g3, g4⟩
/-- A node as a value. -/
theorem BodyF.val {n : Nat} {w : World} {F : List Nat} {A B : Nat} {x : NodeP} {a c : Option Addr} {ca cc : Nat} (h : BodyF (NdF n) w F x a ca c cc) (hw : ∀ b ∈ F, A ≤ b ∧ b < B) : NodeV (n + 1) w A B (.agg #[.int .i64 x.kind, .string x.text, .slice a x.keys.length ca, .slice c x.kids.length cc]) x := by
  obtain ⟨g1, g2, g3, g4⟩ := h.nodes (fun g hg => NdF.lie g hg) hw
  exact ⟨a, ca, c, cc, rfl, g1, g2, g3, g4⟩

/-! ### Rows of the call's own -/
structure RowD where
  x : NodeP
  a : Option Addr
  ca : Nat
  c : Option Addr
  cc : Nat
  F : List Nat
  lo : Nat
  hi : Nat
def RowD.cells (r : RowD) : List Value := r.x.cells r.a r.ca r.c r.cc
def OkD (n : Nat) (w : World) (r : RowD) : Prop := BodyF (NdF n) w r.F r.x r.a r.ca r.c r.cc ∧ r.F.Nodup ∧ r.lo ≤ r.hi ∧ ∀ b ∈ r.F, r.lo ≤ b ∧ b < r.hi
theorem OkD.block {n : Nat} {w w' : World} {r : RowD} (h : OkD n w r) (hw : ∀ c, r.lo ≤ c → c < r.hi → w'.heap[c]? = w.heap[c]?) : OkD n w' r :=
  ⟨h.1.frameN fun b hb => hw b (h.2.2.2 b hb).1 (h.2.2.2 b hb).2, h.2.1, h.2.2.1, h.2.2.2⟩
structure OwnD (n : Nat) (w : World) (base : Nat) (v : Value) (L : List RowD) : Prop where
  own : w.ownsRow base 53 4 v L.length (L.flatMap RowD.cells)
  order : L.Pairwise (fun r q => r.hi ≤ q.lo)
  ok : ∀ r ∈ L, OkD n w r ∧ base ≤ r.lo ∧ r.hi ≤ w.heap.size ∧ ∀ g, v.ownBlock = some g → g < r.lo ∨ r.hi ≤ g
theorem OwnD.nil (n : Nat) (w : World) (base : Nat) : OwnD n w base (.slice none 0 0) [] := ⟨World.ownsRow_nil w base _ _, List.Pairwise.nil, fun r hr => by cases hr⟩
theorem OwnD.frame {n : Nat} {w w' : World} {base : Nat} {v : Value} {L : List RowD} (h : OwnD n w base v L) (hz : w.heap.size ≤ w'.heap.size) (hw : ∀ c, base ≤ c → c < w.heap.size → w'.heap[c]? = w.heap[c]?) : OwnD n w' base v L := by
  refine ⟨?_, h.order, fun r hr => ?_⟩
  · obtain ⟨hl, ⟨hv, hn⟩ | ⟨gb, cap, cur, hv, hb, hg, hc, hm, hs, ht⟩⟩ := h.own
    · exact ⟨hl, .inl ⟨hv, hn⟩⟩
    · exact ⟨hl, .inr ⟨gb, cap, cur, hv, hb, (hw gb hb (lt_of_get hg)).trans hg, hc, hm, hs, ht⟩⟩
  · obtain ⟨h1, h3, h4, h5⟩ := h.ok r hr
    exact ⟨h1.block (fun c c1 c2 => hw c (by omega) (by omega)), h3, by omega, h5⟩
theorem OwnD.below {n : Nat} {w w' : World} {base : Nat} {v : Value} {L : List RowD} (h : OwnD n w base v L) (g : Below w.heap.size w w') : OwnD n w' base v L := h.frame g.size fun c _ hc => g.block c hc
theorem OwnD.slice {n : Nat} {w : World} {base : Nat} {v : Value} {L : List RowD} (h : OwnD n w base v L) : ∃ a cap, v = .slice a L.length cap := by
  rcases h.own.2 with ⟨rfl, h0⟩ | ⟨g, cap, cur, rfl, _⟩
  · exact ⟨none, 0, by rw [h0]⟩
  · exact ⟨_, _, rfl⟩
theorem infoNode4 : (Tryd.prog.info? 53).map (fun i => (i.zero, i.size, i.bytes)) = some (some (.agg #[.int .i64 0, .string ⟨#[]⟩, .slice none 0 0, .slice none 0 0]), 4, 72) := by kernel_rfl
theorem OwnD.grown {n : Nat} {w w' : World} {base : Nat} {v : Value} {L : List RowD} {r : RowD} {g cap : Nat} (hown : OwnD n w base v L)
    (hr : OkD n w r ∧ base ≤ r.lo ∧ r.hi ≤ w.heap.size ∧ ∀ g, v.ownBlock = some g → g < r.lo ∨ r.hi ≤ g) (hord : ∀ q ∈ L, q.hi ≤ r.lo)
    (hown' : w'.ownsRow base 53 4 (.slice (some ⟨g, 0, none⟩) (L.length + 1) cap) (L.length + 1) (L.flatMap RowD.cells ++ r.cells)) (hgrow : w.grownBy w' v.ownBlock) (hat : v.ownBlock = some g ∨ g = w.heap.size) :
    OwnD n w' base (.slice (some ⟨g, 0, none⟩) (L.length + 1) cap) (L ++ [r]) := by
  have hblk : ∀ c, c < w.heap.size → some c ≠ v.ownBlock → w'.heap[c]? = w.heap[c]? := fun c h1 h2 => hgrow.block c h1 h2
  refine ⟨?_, List.pairwise_append.2 ⟨hown.order, List.pairwise_singleton _ _, fun q hq r' hr' => by rw [List.mem_singleton] at hr'; subst hr'; exact hord q hq⟩, fun q hq => ?_⟩
  · rw [List.flatMap_append, List.length_append]; simpa using hown'
  · have hq2 : OkD n w q ∧ base ≤ q.lo ∧ q.hi ≤ w.heap.size ∧ ∀ g, v.ownBlock = some g → g < q.lo ∨ q.hi ≤ g := by
      rcases List.mem_append.1 hq with hq | hq
      · exact hown.ok q hq
      · rw [List.mem_singleton] at hq; subst hq; exact hr
    obtain ⟨h1, h3, h4, h5⟩ := hq2
    have far : ∀ c, q.lo ≤ c → c < q.hi → w'.heap[c]? = w.heap[c]? := fun c c1 c2 => hblk c (by omega) fun e => by
      have := h5 c e.symm; omega
    have last : ∀ g', (Value.slice (some ⟨g, 0, none⟩) (L.length + 1) cap).ownBlock = some g' → g' < q.lo ∨ q.hi ≤ g' := fun g' hg' => by
      have e : g' = g := by simpa [Value.ownBlock] using hg'.symm
      subst e
      rcases hat with hat | hat
      · exact h5 _ hat
      · right; omega
    exact ⟨h1.block far, h3, Nat.le_trans h4 hgrow.size, last⟩
/-- The blocks of all nodes of a row. -/
def footD (L : List RowD) : List Nat := L.flatMap RowD.F
theorem foot_mem {n : Nat} {w : World} {base : Nat} {v : Value} {L : List RowD} (h : OwnD n w base v L) : ∀ b ∈ footD L, base ≤ b ∧ b < w.heap.size ∧ ∀ g, v.ownBlock = some g → g ≠ b := by
  intro b hb
  obtain ⟨r, hr, hbr⟩ := List.mem_flatMap.1 hb
  obtain ⟨⟨_, _, _, h1⟩, h3, h4, h5⟩ := h.ok r hr
  have := h1 b hbr
  exact ⟨by omega, by omega, fun g hg e => by have := h5 g hg; omega⟩
theorem foot_nodup {n : Nat} {w : World} : ∀ {L : List RowD}, L.Pairwise (fun r q => r.hi ≤ q.lo) → (∀ r ∈ L, OkD n w r) → (footD L).Nodup
  | [], _, _ => List.nodup_nil
  | r :: L, hp, hk => by
    have hc := List.pairwise_cons.1 hp
    show (r.F ++ footD L).Nodup
    refine List.nodup_append.2 ⟨(hk r (by simp)).2.1, foot_nodup hc.2 fun q hq => hk q (by simp [hq]), fun b hb c hcm e => ?_⟩
    subst e
    obtain ⟨q, hq, hbq⟩ := List.mem_flatMap.1 hcm
    have e1 := (hk r (by simp)).2.2.2 b hb
    have e2 := (hk q (by simp [hq])).2.2.2 b hbq
    have := hc.1 q hq
    omega
theorem rows_lsF {n : Nat} {w : World} {b : Nat} : ∀ {L : List RowD} {off : Nat}, (∀ r ∈ L, OkD n w r) → (∀ j v, (L.flatMap RowD.cells)[j]? = some v → w.cell? ⟨b, off + j, none⟩ = some v) → LsF (NdF (n + 1)) w (footD L) b off (L.map RowD.x)
  | [], _, _, _ => rfl
  | r :: L, off, hok, hc => by
    have hcell : ∀ j v, r.cells[j]? = some v → w.cell? ⟨b, off + j, none⟩ = some v := fun j v hv => hc j v (by
      rw [List.flatMap_cons, List.getElem?_append_left (List.getElem?_eq_some_iff.1 hv).1]; exact hv)
    refine ⟨r.F, footD L, rfl, ⟨r.a, r.ca, r.c, r.cc, hcell, (hok r (by simp)).1⟩, rows_lsF (fun q hq => hok q (by simp [hq])) fun j v hj => ?_⟩
    have e : off + 4 + j = off + (4 + j) := by omega
    rw [e]
    refine hc (4 + j) v ?_
    rw [List.flatMap_cons, List.getElem?_append_right (by simp [RowD.cells, NodeP.cells])]
    have : 4 + j - r.cells.length = j := by simp [RowD.cells, NodeP.cells]
    rw [this]; exact hj
/-- The row of nodes as a row in memory. -/
theorem OwnD.rwF {n : Nat} {w : World} {base : Nat} {v : Value} {L : List RowD} (h : OwnD n w base v L) : ∃ a cap F, v = .slice a L.length cap ∧ L.length ≤ cap ∧ RwF (NdF (n + 1)) w F a (L.map RowD.x) ∧ F.Nodup ∧ ∀ b ∈ F, v.ownBlock = some b ∨ b ∈ footD L := by
  obtain ⟨hl, ⟨rfl, hn⟩ | ⟨gb, cap, cur, rfl, hb, hg, hc, hm, hs, ht⟩⟩ := h.own
  · obtain rfl : L = [] := List.eq_nil_of_length_eq_zero hn
    exact ⟨none, 0, [], rfl, Nat.le_refl _, .inl ⟨rfl, rfl⟩, List.nodup_nil, fun b hb => by cases hb⟩
  · refine ⟨_, _, gb :: footD L, rfl, hc, .inr ⟨gb, 0, footD L, rfl, rfl, ⟨cur, _, hg⟩, rows_lsF (fun r hr => (h.ok r hr).1) fun j u hj => ?_⟩, List.nodup_cons.2 ⟨fun hm2 => (foot_mem h gb hm2).2.2 gb rfl rfl, foot_nodup h.order fun r hr => (h.ok r hr).1⟩, fun b hb2 => ?_⟩
    · rw [Nat.zero_add]
      rw [← ht] at hj
      have hj2 := (List.getElem?_eq_some_iff.1 hj).1
      rw [List.length_take] at hj2
      rw [List.getElem?_take_of_lt (by omega)] at hj
      exact cell_of hg (by rw [← hj]; simp)
    · rcases List.mem_cons.1 hb2 with rfl | hb2
      · exact .inl rfl
      · exact .inr hb2
theorem ownT_txF {w : World} {base : Nat} {v : Value} {l : List ByteArray} (h : OwnTs w base v l) (hok : ∀ x ∈ l, OkS x) : ∃ a cap F, v = .slice a l.length cap ∧ l.length ≤ cap ∧ TxF w F a l ∧ F.Nodup ∧ ∀ b ∈ F, v.ownBlock = some b := by
  obtain ⟨hl, ⟨rfl, hn⟩ | ⟨gb, cap, cur, rfl, hb, hg, hc, hm, hs, ht⟩⟩ := h
  · obtain rfl : l = [] := List.eq_nil_of_length_eq_zero hn
    exact ⟨none, 0, [], rfl, Nat.le_refl _, .inl ⟨rfl, rfl⟩, List.nodup_nil, fun b hb => by cases hb⟩
  · refine ⟨_, _, [gb], rfl, hc, .inr ⟨gb, 0, rfl, rfl, ⟨cur, _, hg⟩, fun j y hj => ⟨hok y (List.mem_of_getElem? hj), ?_⟩⟩, by simp, fun b hb2 => by simp at hb2; subst hb2; rfl⟩
    rw [Nat.zero_add]
    have hj2 : (l.map Value.string)[j]? = some (.string y) := by rw [List.getElem?_map, hj]; rfl
    rw [← ht] at hj2
    have hj3 := (List.getElem?_eq_some_iff.1 hj2).1
    rw [List.length_take] at hj3
    rw [List.getElem?_take_of_lt (by omega)] at hj2
    exact cell_of hg (by rw [← hj2]; simp)
end Go.Proofs.YtlncdkeooacebaaDoor.Rw
