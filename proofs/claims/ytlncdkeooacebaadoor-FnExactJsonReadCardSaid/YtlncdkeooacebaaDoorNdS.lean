/-
  A node that is being read, in a block of its own, its keys and what is within it rows of the call's own; append to them; no program's function. Conditions: as each theorem says.
-/
import Derived.Test.YtlncdkeooacebaaDoorRows
import Derived.Test.YtlncdkeooacebaaDoorJsU
namespace Go.Proofs.YtlncdkeooacebaaDoor.Rw
open Go.RowKit
open Nm (OwnTs)
set_option linter.unusedVariables false
set_option maxRecDepth 100000

structure StN (d nb base p : Nat) (kd : Int) (w : World) (sk sn : Value) (ks : List ByteArray) (L : List RowD) : Prop where
  node : w.heap[nb]? = some (.cells #[.int .i64 kd, .string ⟨#[]⟩, sk, sn] 53 (0, 0))
  size : base ≤ w.heap.size
  lt : nb < base
  pb : p < base
  pn : p ≠ nb
  keys : OwnTs w base sk ks
  kok : ∀ y ∈ ks, OkS y
  kids : OwnD d w base sn L
  apart : ∀ g, sk.ownBlock = some g → ∀ r ∈ L, g < r.lo ∨ r.hi ≤ g
theorem own_str {w : World} {base : Nat} {v : Value} {l : List ByteArray} (h : OwnTs w base v l) : ∀ g, v.ownBlock = some g → base ≤ g ∧ ∃ c, w.heap[g]? = some (.cells c 9 (0, 0)) := by
  intro g hg
  rcases h.2 with ⟨rfl, _⟩ | ⟨gb, cap, cur, rfl, hb, hh, _⟩
  · simp [Value.ownBlock] at hg
  · simp [Value.ownBlock] at hg; subst hg; exact ⟨hb, _, hh⟩
theorem own_nod {d : Nat} {w : World} {base : Nat} {v : Value} {L : List RowD} (h : OwnD d w base v L) : ∀ g, v.ownBlock = some g → base ≤ g ∧ ∃ c, w.heap[g]? = some (.cells c 53 (0, 0)) := by
  intro g hg
  rcases h.own.2 with ⟨rfl, _⟩ | ⟨gb, cap, cur, rfl, hb, hh, _⟩
  · simp [Value.ownBlock] at hg
  · simp [Value.ownBlock] at hg; subst hg; exact ⟨hb, _, hh⟩
theorem StN.ne {d nb base p : Nat} {kd : Int} {w : World} {sk sn : Value} {ks : List ByteArray} {L : List RowD} (h : StN d nb base p kd w sk sn ks L) : ∀ g, sk.ownBlock = some g → sn.ownBlock ≠ some g := by
  intro g hg hn
  obtain ⟨_, c1, e1⟩ := own_str h.keys g hg
  obtain ⟨_, c2, e2⟩ := own_nod h.kids g hn
  rw [e1] at e2; simp at e2
/-- What is from base on, and the node's own block, goes on as it was. -/
theorem StN.frame {d nb base p : Nat} {kd : Int} {w w' : World} {sk sn : Value} {ks : List ByteArray} {L : List RowD} (h : StN d nb base p kd w sk sn ks L) (hz : w.heap.size ≤ w'.heap.size) (hw : ∀ c, base ≤ c → c < w.heap.size → w'.heap[c]? = w.heap[c]?) (hn : w'.heap[nb]? = w.heap[nb]?) : StN d nb base p kd w' sk sn ks L :=
  ⟨hn.trans h.node, Nat.le_trans h.size hz, h.lt, h.pb, h.pn, h.keys.frame hw, h.kok, h.kids.frame hz hw, h.apart⟩
theorem StN.only {d nb base p : Nat} {kd : Int} {w w' : World} {sk sn : Value} {ks : List ByteArray} {L : List RowD} (h : StN d nb base p kd w sk sn ks L) (o : Onl p w w') : StN d nb base p kd w' sk sn ks L :=
  h.frame o.size (fun c c1 c2 => o.block c c2 (by have := h.pb; omega)) (o.block nb (lt_of_get h.node) (fun e => h.pn e.symm))
theorem StN.below {d nb base p : Nat} {kd : Int} {w w' : World} {sk sn : Value} {ks : List ByteArray} {L : List RowD} (h : StN d nb base p kd w sk sn ks L) (g : Below w.heap.size w w') : StN d nb base p kd w' sk sn ks L :=
  h.frame g.size (fun c _ c2 => g.block c c2) (g.block nb (lt_of_get h.node))
theorem StN.new {w : World} {d nb base p : Nat} {kd : Int} (hn : w.heap[nb]? = some (.cells #[.int .i64 kd, .string ⟨#[]⟩, .slice none 0 0, .slice none 0 0] 53 (0, 0))) (hb : base ≤ w.heap.size) (h1 : nb < base) (h2 : p < base) (h3 : p ≠ nb) : StN d nb base p kd w (.slice none 0 0) (.slice none 0 0) [] [] :=
  ⟨hn, hb, h1, h2, h3, OwnTs.nil w base, fun y hy => (by cases hy), OwnD.nil d w base, fun g hg => (by simp [Value.ownBlock] at hg)⟩
theorem node_set2 {w : World} {g : Nat} {x0 x1 x2 x3 : Value} {T : TypeId} (h : w.heap[g]? = some (.cells #[x0, x1, x2, x3] T (0, 0))) (v : Value) : (w.setCell ⟨g, 2, none⟩ v).heap[g]? = some (.cells #[x0, x1, v, x3] T (0, 0)) := by
  rw [heap_setCell_same w g 2 _ T v h]; simp
theorem node_set3 {w : World} {g : Nat} {x0 x1 x2 x3 : Value} {T : TypeId} (h : w.heap[g]? = some (.cells #[x0, x1, x2, x3] T (0, 0))) (v : Value) : (w.setCell ⟨g, 3, none⟩ v).heap[g]? = some (.cells #[x0, x1, x2, v] T (0, 0)) := by
  rw [heap_setCell_same w g 3 _ T v h]; simp
/-- One key more. -/
theorem StN.key {d nb base p : Nat} {kd : Int} {w w' : World} {sk sn : Value} {ks : List ByteArray} {L : List RowD} {k : ByteArray} {g cap : Nat} (h : StN d nb base p kd w sk sn ks L) (hk : OkS k)
    (ho : OwnTs w' base (.slice (some ⟨g, 0, none⟩) (ks.length + 1) cap) (ks ++ [k])) (hg : w.grownBy w' sk.ownBlock) (hat : sk.ownBlock = some g ∨ g = w.heap.size) :
    StN d nb base p kd (w'.setCell ⟨nb, 2, none⟩ (.slice (some ⟨g, 0, none⟩) (ks.length + 1) cap)) (.slice (some ⟨g, 0, none⟩) (ks.length + 1) cap) sn (ks ++ [k]) L ∧
      ∀ c, c < base → c ≠ nb → (w'.setCell ⟨nb, 2, none⟩ (.slice (some ⟨g, 0, none⟩) (ks.length + 1) cap)).heap[c]? = w.heap[c]? := by
  have hlt := h.lt
  have hsz := h.size
  have hown := own_str h.keys
  have hnb : w'.heap[nb]? = w.heap[nb]? := hg.block nb (lt_of_get h.node) fun e => by have := (hown nb e.symm).1; omega
  have hfr : ∀ v c, base ≤ c → (w'.setCell ⟨nb, 2, none⟩ v).heap[c]? = w'.heap[c]? := fun v c hc => Below.heap_setCell _ _ _ _ (by simp only; omega)
  refine ⟨⟨node_set2 (hnb.trans h.node) _, Nat.le_trans hsz (by simpa [World.setCell] using hg.size), hlt, h.pb, h.pn, ho.frame fun c c1 _ => hfr _ c c1, ?_, ?_, ?_⟩, fun c c1 c2 => ?_⟩
  · intro y hy
    rcases List.mem_append.1 hy with hy | hy
    · exact h.kok y hy
    · rw [List.mem_singleton] at hy; subst hy; exact hk
  · -- the nodes' row has another block, and none of its nodes lies in the keys' block
    have step : OwnD d w' base sn L := by
      refine ⟨?_, h.kids.order, fun r hr => ?_⟩
      · obtain ⟨hl, ⟨hv, hn⟩ | ⟨gb, cap2, cur, hv, hb, hgg, hc, hm, hs, ht⟩⟩ := h.kids.own
        · exact ⟨hl, .inl ⟨hv, hn⟩⟩
        · exact ⟨hl, .inr ⟨gb, cap2, cur, hv, hb, (hg.block gb (lt_of_get hgg) (fun e => h.ne gb e.symm (by rw [hv]; rfl))).trans hgg, hc, hm, hs, ht⟩⟩
      · obtain ⟨h1, h3, h4, h5⟩ := h.kids.ok r hr
        exact ⟨h1.block fun c c1 c2 => hg.block c (by omega) fun e => by have := h.apart c e.symm r hr; omega, h3, Nat.le_trans h4 hg.size, h5⟩
    exact step.frame (by simp [World.setCell]) fun c c1 _ => hfr _ c c1
  · intro g2 hg2 r hr
    have e : g2 = g := by simpa [Value.ownBlock] using hg2.symm
    subst e
    rcases hat with hat | hat
    · exact h.apart _ hat r hr
    · right; have := (h.kids.ok r hr).2.2.1; omega
  · rw [Below.heap_setCell _ _ _ _ (by simpa using c2)]
    exact hg.block c (by omega) fun e => by have := (hown c e.symm).1; omega
/-- One node more within. -/
theorem StN.kid {d nb base p : Nat} {kd : Int} {w w' : World} {sk sn : Value} {ks : List ByteArray} {L : List RowD} {r : RowD} {g cap : Nat} (h : StN d nb base p kd w sk sn ks L)
    (hr : OkD d w r ∧ base ≤ r.lo ∧ r.hi ≤ w.heap.size ∧ ∀ g, sn.ownBlock = some g → g < r.lo ∨ r.hi ≤ g) (hrk : ∀ g, sk.ownBlock = some g → g < r.lo ∨ r.hi ≤ g)
    (ho : OwnD d w' base (.slice (some ⟨g, 0, none⟩) (L.length + 1) cap) (L ++ [r])) (hg : w.grownBy w' sn.ownBlock) :
    StN d nb base p kd (w'.setCell ⟨nb, 3, none⟩ (.slice (some ⟨g, 0, none⟩) (L.length + 1) cap)) sk (.slice (some ⟨g, 0, none⟩) (L.length + 1) cap) ks (L ++ [r]) ∧
      ∀ c, c < base → c ≠ nb → (w'.setCell ⟨nb, 3, none⟩ (.slice (some ⟨g, 0, none⟩) (L.length + 1) cap)).heap[c]? = w.heap[c]? := by
  have hlt := h.lt
  have hsz := h.size
  have hown := own_nod h.kids
  have hnb : w'.heap[nb]? = w.heap[nb]? := hg.block nb (lt_of_get h.node) fun e => by have := (hown nb e.symm).1; omega
  have hfr : ∀ v c, base ≤ c → (w'.setCell ⟨nb, 3, none⟩ v).heap[c]? = w'.heap[c]? := fun v c hc => Below.heap_setCell _ _ _ _ (by simp only; omega)
  refine ⟨⟨node_set3 (hnb.trans h.node) _, Nat.le_trans hsz (by simpa [World.setCell] using hg.size), hlt, h.pb, h.pn, ?_, h.kok, ho.frame (by simp [World.setCell]) fun c c1 _ => hfr _ c c1, ?_⟩, fun c c1 c2 => ?_⟩
  · have step : OwnTs w' base sk ks := by
      obtain ⟨hl, ⟨hv, hn⟩ | ⟨gb, cap2, cur, hv, hb, hgg, hc, hm, hs, ht⟩⟩ := h.keys
      · exact ⟨hl, .inl ⟨hv, hn⟩⟩
      · exact ⟨hl, .inr ⟨gb, cap2, cur, hv, hb, (hg.block gb (lt_of_get hgg) (fun e => h.ne gb (by rw [hv]; rfl) e.symm)).trans hgg, hc, hm, hs, ht⟩⟩
    exact step.frame fun c c1 _ => hfr _ c c1
  · intro g2 hg2 q hq
    rcases List.mem_append.1 hq with hq | hq
    · exact h.apart g2 hg2 q hq
    · rw [List.mem_singleton] at hq; subst hq; exact hrk g2 hg2
  · rw [Below.heap_setCell _ _ _ _ (by simpa using c2)]
    exact hg.block c (by omega) fun e => by have := (hown c e.symm).1; omega
/-- The node as it stands. -/
theorem StN.row {d nb base p : Nat} {kd : Int} {w : World} {sk sn : Value} {ks : List ByteArray} {L : List RowD} (h : StN d nb base p kd w sk sn ks L) (hkd : OkI kd) (hk : ks.length ≤ 1048576) (hL : L.length ≤ 1048576) :
    ∃ r : RowD, r.x = ⟨kd, tB [], ks, L.map RowD.x⟩ ∧ sk = .slice r.a ks.length r.ca ∧ sn = .slice r.c L.length r.cc ∧ OkD (d + 1) w r ∧ r.lo = base ∧ r.hi = w.heap.size := by
  obtain ⟨c, cc, F2, hv2, h3, h4, h5, h6⟩ := h.kids.rwF
  obtain ⟨a, ca, F1, hv1, g3, g4, g5, g6⟩ := ownT_txF h.keys h.kok
  refine ⟨⟨⟨kd, tB [], ks, L.map RowD.x⟩, a, ca, c, cc, F1 ++ F2, base, w.heap.size⟩, rfl, hv1, hv2, ⟨⟨⟨hkd, by show (tB []).size ≤ _; exact Nat.zero_le _⟩, g3, by simpa using h3, hk, by simpa using hL, F1, F2, rfl, g4, h4⟩, ?_, h.size, ?_⟩, rfl, rfl⟩
  · refine List.nodup_append.2 ⟨g5, h5, fun b hb c hc e => ?_⟩
    subst e
    have e1 := g6 b hb
    rcases h6 b hc with e2 | e2
    · exact h.ne b e1 e2
    · obtain ⟨r, hr, hbr⟩ := List.mem_flatMap.1 e2
      have := (h.kids.ok r hr).1.2.2.2 b hbr
      have := h.apart b e1 r hr
      omega
  · intro b hb
    rcases List.mem_append.1 hb with hb | hb
    · obtain ⟨e1, c1, e2⟩ := own_str h.keys b (g6 b hb)
      exact ⟨e1, lt_of_get e2⟩
    · rcases h6 b hb with e | e
      · obtain ⟨e1, c1, e2⟩ := own_nod h.kids b e
        exact ⟨e1, lt_of_get e2⟩
      · have := foot_mem h.kids b e
        exact ⟨this.1, this.2.1⟩

section
variable {w : World} {ops : Array Oper} {o : Oper} {a : Act}
theorem app_textD {rest : List Oper} {Q : Exit → Act → World → Prop} (hgd : o.guard = none) (s x : Operand)
    (ho : o.op = .call { callee := .builtin .append, args := #[s, x], argTypes := #[50, 50] })
    (base : Nat) (v : Value) (l : List ByteArray) (hs : a.eval s = v) (hown : OwnTs w base v l)
    (B c : Nat) (hx : a.eval x = .slice (some ⟨B, 0, none⟩) 1 c) (y : ByteArray) (hc : w.cell? ⟨B, 0, none⟩ = some (.string y))
    (hsize : l.length + 1 ≤ 1048576) (hbase : base ≤ w.heap.size)
    (h : ∀ g cap w', OwnTs w' base (.slice (some ⟨g, 0, none⟩) (l.length + 1) cap) (l ++ [y]) → w.grownBy w' v.ownBlock → (v.ownBlock = some g ∨ g = w.heap.size) → wpList Tryd.prog ops Q rest (a.put o.dst (.slice (some ⟨g, 0, none⟩) (l.length + 1) cap)) w') : wpList Tryd.prog ops Q (o :: rest) a w := by
  obtain ⟨i0, hi, hz0, hz1, hz2⟩ := info_parts Nm.infoStr
  refine wpList_append_lies w hgd s x 50 ho base 9 i0 _ 1 16 Tryd.underlying50 hi hz0 hz1 hz2 rfl (by decide) v l.length (l.map Value.string) hs hown ⟨B, 0, none⟩ 1 c [.string y] hx rfl
    (fun j u hj => by
      have e : j = 0 := by have := (List.getElem?_eq_some_iff.1 hj).1; simp at this; exact this
      subst e; cases hj
      rw [show (⟨B, 0, none⟩ : Addr).add 0 = ⟨B, 0, none⟩ from rfl]; exact hc) (fun u hu => ?_) (by omega) (by unfold maxLen; omega) (by omega) hbase _ rfl ?_
  · simp at hu; subst hu; rfl
  · intro g cap w' hown' hgrow hat _
    exact h g cap w' (by unfold OwnTs; rw [List.length_append, List.map_append]; exact hown') hgrow hat
theorem app_nodeD {rest : List Oper} {Q : Exit → Act → World → Prop} (hgd : o.guard = none) (s x : Operand)
    (ho : o.op = .call { callee := .builtin .append, args := #[s, x], argTypes := #[51, 51] })
    (d base : Nat) (v : Value) (L : List RowD) (hs : a.eval s = v) (hown : OwnD d w base v L)
    (B c : Nat) (hx : a.eval x = .slice (some ⟨B, 0, none⟩) 1 c) (r : RowD) (hc : w.heap[B]? = some (.cells r.cells.toArray 53 (0, 0)))
    (hr : OkD d w r ∧ base ≤ r.lo ∧ r.hi ≤ w.heap.size ∧ ∀ g, v.ownBlock = some g → g < r.lo ∨ r.hi ≤ g) (hord : ∀ q ∈ L, q.hi ≤ r.lo)
    (hsize : L.length + 1 ≤ 1048576) (hbase : base ≤ w.heap.size)
    (h : ∀ g cap w', OwnD d w' base (.slice (some ⟨g, 0, none⟩) (L.length + 1) cap) (L ++ [r]) → w.grownBy w' v.ownBlock → wpList Tryd.prog ops Q rest (a.put o.dst (.slice (some ⟨g, 0, none⟩) (L.length + 1) cap)) w') : wpList Tryd.prog ops Q (o :: rest) a w := by
  obtain ⟨i0, hi, hz0, hz1, hz2⟩ := info_parts infoNode4
  refine wpList_append_lies w hgd s x 51 ho base 53 i0 _ 4 72 Tryd.underlying51 hi hz0 hz1 hz2 rfl (by decide) v L.length (L.flatMap RowD.cells) hs hown.own ⟨B, 0, none⟩ 1 c r.cells hx rfl
    (fun j u hj => World.news_of_block hc j u (by simpa using hj)) (fun u hu => ?_) (by omega) (by unfold maxLen; omega) (by omega) hbase _ rfl ?_
  · simp [RowD.cells, NodeP.cells] at hu
    rcases hu with rfl | rfl | rfl | rfl <;> rfl
  · intro g cap w' hown' hgrow hat _
    exact h g cap w' (hown.grown hr hord hown' hgrow hat) hgrow
end
end Go.Proofs.YtlncdkeooacebaaDoor.Rw
