/-
  A zero node put behind a row of the call's own, at a step of a region that draws, and written anew; no program's function. Conditions: as each theorem says.
-/
import Derived.Test.YtlncdkeooacebaaDoorRows
import Derived.Test.YtlncdkeooacebaaDoorNdS
import Derived.Test.YtlncdkeooacebaaDoorJsN
namespace Go.Proofs.YtlncdkeooacebaaDoor.Rw
open Go.RowKit
open Nm (OwnTs)
set_option linter.unusedVariables false
set_option maxRecDepth 100000

theorem rowsD_len (l : List RowD) : (l.flatMap RowD.cells).length = l.length * 4 := by
  induction l with
  | nil => rfl
  | cons y l ih => rw [List.flatMap_cons, List.length_append, ih, List.length_cons]; simp [RowD.cells, NodeP.cells]; omega
def zeroC : List Value := [.int .i64 0, .string ⟨#[]⟩, .slice none 0 0, .slice none 0 0]
theorem ownD_last {w : World} {base g cap : Nat} {L : List RowD} {r : RowD} (h : w.ownsRow base 53 4 (.slice (some ⟨g, 0, none⟩) (L.length + 1) cap) (L.length + 1) (L.flatMap RowD.cells ++ zeroC)) : (putL w g (L.length * 4) r.cells).ownsRow base 53 4 (.slice (some ⟨g, 0, none⟩) (L.length + 1) cap) (L.length + 1) (L.flatMap RowD.cells ++ r.cells) := by
  obtain ⟨hl, ⟨hv, _⟩ | ⟨gb, cap', cur, hv, hb, hg, hcc, hm, hs', ht⟩⟩ := h
  · cases hv
  · have e1 : g = gb := by injection hv with h1 h2 h3; injection h1 with h1; injection h1
    have e2 : cap = cap' := by injection hv
    subst e1; subst e2
    have hc4 : r.cells.length = 4 := rfl
    have hcap : (L.length + 1) * 4 ≤ cap * 4 := Nat.mul_le_mul_right _ hcc
    obtain ⟨Z, hz1, hz2, hz3, hz4⟩ := putL_row r.cells (o := L.length * 4) hg (by rw [hc4, hs']; omega)
    refine ⟨by rw [List.length_append, rowsD_len, hc4]; omega, .inr ⟨g, cap, Z, rfl, hb, hz2, hcc, hm, by rw [hz1, hs'], ?_⟩⟩
    refine List.ext_getElem? fun j => ?_
    by_cases hj : j < (L.length + 1) * 4
    · rw [List.getElem?_take_of_lt hj]
      by_cases hj2 : j < L.length * 4
      · rw [List.getElem?_append_left (by rw [rowsD_len]; exact hj2)]
        have e3 : Z.toList[j]? = cur.toList[j]? := by
          have := hz4 j (.inl hj2)
          simpa using this
        have e4 : (cur.toList.take ((L.length + 1) * 4))[j]? = (L.flatMap RowD.cells ++ zeroC)[j]? := by rw [ht]
        rw [List.getElem?_take_of_lt hj, List.getElem?_append_left (by rw [rowsD_len]; exact hj2)] at e4
        rw [e3, e4]
      · rw [List.getElem?_append_right (by rw [rowsD_len]; omega), rowsD_len]
        have hq : j - L.length * 4 < r.cells.length := by rw [hc4]; omega
        have e5 := hz3 (j - L.length * 4) _ (List.getElem?_eq_getElem hq)
        have e6 : Z.toList[j]? = Z[j]? := by simp
        rw [e6, show j = L.length * 4 + (j - L.length * 4) by omega, e5]
        rw [show L.length * 4 + (j - L.length * 4) - L.length * 4 = j - L.length * 4 by omega, List.getElem?_eq_getElem hq]
    · rw [List.getElem?_eq_none (by rw [List.length_take]; omega), List.getElem?_eq_none (by rw [List.length_append, rowsD_len, hc4]; omega)]
/-- What is there below base stays, but for two blocks. -/
structure Fr (base p nb : Nat) (w w' : World) : Prop where
  os : w'.os = w.os
  tape : w'.tape = w.tape
  output : w'.output = w.output
  size : w.heap.size ≤ w'.heap.size
  block : ∀ k, k < base → k ≠ p → k ≠ nb → w'.heap[k]? = w.heap[k]?
theorem Fr.refl (base p nb : Nat) (w : World) : Fr base p nb w w := ⟨rfl, rfl, rfl, Nat.le_refl _, fun _ _ _ _ => rfl⟩
theorem Fr.trans {base p nb : Nat} {a b c : World} (h : Fr base p nb a b) (g : Fr base p nb b c) : Fr base p nb a c :=
  ⟨g.os.trans h.os, g.tape.trans h.tape, g.output.trans h.output, Nat.le_trans h.size g.size, fun k hk hp hn => (g.block k hk hp hn).trans (h.block k hk hp hn)⟩
theorem Fr.of {base p nb : Nat} {w w' : World} (h : Onl p w w') (hb : base ≤ w.heap.size) : Fr base p nb w w' := ⟨h.os, h.tape, h.output, h.size, fun k hk hp _ => h.block k (by omega) hp⟩
theorem Fr.below {base p nb : Nat} {w w' : World} (h : Fr base p nb w w') {B : Nat} (h1 : B ≤ base) (h2 : B ≤ p) (h3 : B ≤ nb) : Below B w w' := ⟨h.os, h.tape, h.output, h.size, fun k hk => h.block k (by omega) (by omega) (by omega)⟩
theorem set_comm {w : World} {a b : Addr} (h : a.block ≠ b.block) (u v : Value) : ((w.setCell a u).setCell b v).heap = ((w.setCell b v).setCell a u).heap := by
  apply Array.ext_getElem?
  intro k
  by_cases h1 : k = a.block
  · rw [Below.heap_setCell _ _ _ _ (by rw [h1]; exact h)]
    simp only [World.setCell, Array.getElem?_modify]
    rw [h1]; simp [h.symm]
  · rw [Below.heap_setCell (w.setCell b v) _ _ _ h1]
    simp only [World.setCell, Array.getElem?_modify]
    by_cases h2 : b.block = k
    · rw [if_pos h2, if_pos h2, if_neg (fun e => h1 e.symm)]
    · rw [if_neg h2, if_neg h2, if_neg (fun e => h1 e.symm)]
theorem putL_heap {g : Nat} : ∀ (l : List Value) {w w' : World} (o : Nat), w.heap = w'.heap → (putL w g o l).heap = (putL w' g o l).heap
  | [], _, _, _, h => h
  | v :: l, w, w', o, h => putL_heap l (o + 1) (by simp only [World.setCell, h])
theorem putL_comm {nb g j : Nat} (h : g ≠ nb) (v : Value) : ∀ (l : List Value) (w : World) (o : Nat), (putL (w.setCell ⟨nb, j, none⟩ v) g o l).heap = ((putL w g o l).setCell ⟨nb, j, none⟩ v).heap
  | [], _, _ => rfl
  | u :: l, w, o => by
    have e : ((w.setCell ⟨nb, j, none⟩ v).setCell ⟨g, o, none⟩ u).heap = ((w.setCell ⟨g, o, none⟩ u).setCell ⟨nb, j, none⟩ v).heap := set_comm (by simpa using fun e => h e.symm) _ _
    exact (putL_heap l (o + 1) e).trans (putL_comm h v l _ (o + 1))
theorem set_rest (w : World) (a : Addr) (v : Value) : (w.setCell a v).os = w.os ∧ (w.setCell a v).tape = w.tape ∧ (w.setCell a v).output = w.output := ⟨rfl, rfl, rfl⟩
theorem putL_rest : ∀ (l : List Value) (w : World) (g o : Nat), (putL w g o l).os = w.os ∧ (putL w g o l).tape = w.tape ∧ (putL w g o l).output = w.output
  | [], _, _, _ => ⟨rfl, rfl, rfl⟩
  | v :: l, w, g, o => putL_rest l (w.setCell ⟨g, o, none⟩ v) g (o + 1)
set_option maxHeartbeats 1000000 in
/-- The node is put into the row, and the row into what is being read, in whatever order. -/
theorem StN.kidZ {d nb base p : Nat} {kd : Int} {w w3 : World} {sk sn : Value} {ks : List ByteArray} {L : List RowD} {r : RowD} {g cap : Nat} (h : StN d nb base p kd w sk sn ks L)
    (hr : OkD d w r ∧ base ≤ r.lo ∧ r.hi ≤ w.heap.size ∧ ∀ g, sn.ownBlock = some g → g < r.lo ∨ r.hi ≤ g) (hrk : ∀ g, sk.ownBlock = some g → g < r.lo ∨ r.hi ≤ g) (hord : ∀ q ∈ L, q.hi ≤ r.lo)
    (ho : w3.ownsRow base 53 4 (.slice (some ⟨g, 0, none⟩) (L.length + 1) cap) (L.length + 1) (L.flatMap RowD.cells ++ zeroC)) (hg : w.grownBy w3 sn.ownBlock) (hat : sn.ownBlock = some g ∨ g = w.heap.size)
    (W : World) (hW : W = (putL w3 g (L.length * 4) r.cells).setCell ⟨nb, 3, none⟩ (.slice (some ⟨g, 0, none⟩) (L.length + 1) cap) ∨ W = putL (w3.setCell ⟨nb, 3, none⟩ (.slice (some ⟨g, 0, none⟩) (L.length + 1) cap)) g (L.length * 4) r.cells) :
    StN d nb base p kd W sk (.slice (some ⟨g, 0, none⟩) (L.length + 1) cap) ks (L ++ [r]) ∧ Fr base p nb w W ∧ (∀ c, c < base → c ≠ nb → W.heap[c]? = w.heap[c]?) := by
  have hlt := h.lt
  have hsz := h.size
  have hgb : base ≤ g := by
    obtain ⟨hl, ⟨hv, _⟩ | ⟨gb, cap', cur, hv, hb, _⟩⟩ := ho
    · cases hv
    · have e1 : g = gb := by injection hv with h1 h2 h3; injection h1 with h1; injection h1
      omega
  have hne : g ≠ nb := by omega
  -- one world serves for both
  have hown1 := ownD_last (r := r) ho
  have hheap : W.heap = ((putL w3 g (L.length * 4) r.cells).setCell ⟨nb, 3, none⟩ (.slice (some ⟨g, 0, none⟩) (L.length + 1) cap)).heap := by
    rcases hW with rfl | rfl
    · rfl
    · exact putL_comm hne _ _ _ _
  have hrest : W.os = w3.os ∧ W.tape = w3.tape ∧ W.output = w3.output := by
    rcases hW with rfl | rfl
    · obtain ⟨a1, a2, a3⟩ := putL_rest r.cells w3 g (L.length * 4)
      obtain ⟨b1, b2, b3⟩ := set_rest (putL w3 g (L.length * 4) r.cells) ⟨nb, 3, none⟩ (.slice (some ⟨g, 0, none⟩) (L.length + 1) cap)
      exact ⟨b1.trans a1, b2.trans a2, b3.trans a3⟩
    · obtain ⟨a1, a2, a3⟩ := putL_rest r.cells (w3.setCell ⟨nb, 3, none⟩ (.slice (some ⟨g, 0, none⟩) (L.length + 1) cap)) g (L.length * 4)
      obtain ⟨b1, b2, b3⟩ := set_rest w3 ⟨nb, 3, none⟩ (.slice (some ⟨g, 0, none⟩) (L.length + 1) cap)
      exact ⟨a1.trans b1, a2.trans b2, a3.trans b3⟩
  have hWs : W.heap.size = w3.heap.size := by rw [hheap]; simp [World.setCell, putL_size]
  have hoth : ∀ c, c ≠ g → c ≠ nb → W.heap[c]? = w3.heap[c]? := fun c c1 c2 => by
    rw [hheap, Below.heap_setCell _ _ _ _ (by simpa using c2)]; exact putL_other _ _ _ _ _ c1
  have hgW : W.heap[g]? = (putL w3 g (L.length * 4) r.cells).heap[g]? := by
    rw [hheap, Below.heap_setCell _ _ _ _ (by simpa using hne)]
  have hownsn := own_nod h.kids
  have hnb3 : w3.heap[nb]? = w.heap[nb]? := hg.block nb (lt_of_get h.node) fun e => by have := (hownsn nb e.symm).1; omega
  have hlow : ∀ c, c < base → c ≠ nb → W.heap[c]? = w.heap[c]? := fun c c1 c2 => (hoth c (by omega) c2).trans (hg.block c (by omega) fun e => by have := (hownsn c e.symm).1; omega)
  have hnW : W.heap[nb]? = some (.cells #[.int .i64 kd, .string ⟨#[]⟩, sk, .slice (some ⟨g, 0, none⟩) (L.length + 1) cap] 53 (0, 0)) := by
    rw [hheap]
    exact node_set3 ((putL_other _ _ _ _ _ (by omega)).trans (hnb3.trans h.node)) _
  have hown2 : W.ownsRow base 53 4 (.slice (some ⟨g, 0, none⟩) (L.length + 1) cap) (L.length + 1) (L.flatMap RowD.cells ++ r.cells) := by
    obtain ⟨hl, ⟨hv, hn⟩ | ⟨gb, cap', cur, hv, hb, hgg, hc, hm, hs', ht⟩⟩ := hown1
    · cases hv
    · have e1 : g = gb := by injection hv with h1 h2 h3; injection h1 with h1; injection h1
      subst e1
      exact ⟨hl, .inr ⟨g, cap', cur, hv, hb, hgW.trans hgg, hc, hm, hs', ht⟩⟩
  -- blocks of w that are neither the row's nor the node's own
  have hblk : ∀ c, base ≤ c → c < w.heap.size → some c ≠ sn.ownBlock → c ≠ g → W.heap[c]? = w.heap[c]? := fun c c0 c1 c2 c3 => (hoth c c3 (by omega)).trans (hg.block c c1 c2)
  have hgf : ∀ q : RowD, q.hi ≤ w.heap.size → (∀ g', sn.ownBlock = some g' → g' < q.lo ∨ q.hi ≤ g') → g < q.lo ∨ q.hi ≤ g := fun q q1 q2 => by
    rcases hat with hat | hat
    · exact q2 g hat
    · right; omega
  have hq : ∀ q ∈ L ++ [r], OkD d w q ∧ base ≤ q.lo ∧ q.hi ≤ w.heap.size ∧ ∀ g', sn.ownBlock = some g' → g' < q.lo ∨ q.hi ≤ g' := fun q hq => by
    rcases List.mem_append.1 hq with hq | hq
    · exact h.kids.ok q hq
    · rw [List.mem_singleton] at hq; subst hq; exact hr
  refine ⟨⟨hnW, by rw [hWs]; exact Nat.le_trans hsz hg.size, hlt, h.pb, h.pn, ?_, h.kok, ⟨?_, ?_, fun q hqm => ?_⟩, fun g2 hg2 q hqm => ?_⟩, ⟨hrest.1.trans hg.os, hrest.2.1.trans hg.tape, hrest.2.2.trans hg.output, by rw [hWs]; exact hg.size, fun k k1 _ k3 => hlow k k1 k3⟩, hlow⟩
  · -- the keys
    obtain ⟨hl, ⟨hv, hn⟩ | ⟨gb, cap2, cur, hv, hb, hgg, hc, hm, hs, ht⟩⟩ := h.keys
    · exact ⟨hl, .inl ⟨hv, hn⟩⟩
    · have e1 : some gb ≠ sn.ownBlock := fun e => h.ne gb (by rw [hv]; rfl) e.symm
      have hglt := lt_of_get hgg
      have e2 : gb ≠ g := by
        intro e
        rcases hat with hat | hat
        · exact e1 (by rw [e]; exact hat.symm)
        · omega
      exact ⟨hl, .inr ⟨gb, cap2, cur, hv, hb, (hblk gb hb hglt e1 e2).trans hgg, hc, hm, hs, ht⟩⟩
  · rw [List.flatMap_append, List.length_append]; simpa using hown2
  · exact List.pairwise_append.2 ⟨h.kids.order, List.pairwise_singleton _ _, fun q hqq r' hr' => by rw [List.mem_singleton] at hr'; subst hr'; exact hord q hqq⟩
  · obtain ⟨h1, h3, h4, h5⟩ := hq q hqm
    have hgq := hgf q h4 h5
    refine ⟨h1.block fun c c1 c2 => hblk c (by omega) (by omega) (fun e => by have := h5 c e.symm; omega) (by omega), h3, by rw [hWs]; exact Nat.le_trans h4 hg.size, fun g' hg' => ?_⟩
    have e : g' = g := by simpa [Value.ownBlock] using hg'.symm
    subst e; exact hgq
  · rcases List.mem_append.1 hqm with hq2 | hq2
    · exact h.apart g2 hg2 q hq2
    · rw [List.mem_singleton] at hq2; subst hq2; exact hrk g2 hg2
section
variable {w : World} {ops : Array Oper} {o : Oper} {a : Act}
theorem step_app_zeroD {K : Act → World → Prop} {Q : Exit → Act → World → Prop} {E : Prop} (hgd : o.guard = none) (s x : Operand)
    (ho : o.op = .call { callee := .builtin .append, args := #[s, x], argTypes := #[51, 51] })
    (d base : Nat) (v : Value) (L : List RowD) (hs : a.eval s = v) (hown : OwnD d w base v L)
    (B c : Nat) (hx : a.eval x = .slice (some ⟨B, 0, none⟩) 1 c) (hc : w.heap[B]? = some (.cells zeroC.toArray 53 (0, 0)))
    (hsize : L.length + 1 ≤ 1048576) (hbase : base ≤ w.heap.size)
    (h : ∀ g cap w' cur, w'.ownsRow base 53 4 (.slice (some ⟨g, 0, none⟩) (L.length + 1) cap) (L.length + 1) (L.flatMap RowD.cells ++ zeroC) → w.grownBy w' v.ownBlock → (v.ownBlock = some g ∨ g = w.heap.size) → w'.heap[g]? = some (.cells cur 53 (0, 0)) → (L.length + 1) * 4 ≤ cur.size → base ≤ g → L.length + 1 ≤ cap → K (a.put o.dst (.slice (some ⟨g, 0, none⟩) (L.length + 1) cap)) w') : if Region.wanted o (yielded ops a.tmps) = true then Oper.wp Tryd.prog o a w K Q else E := by
  obtain ⟨i0, hi, hz0, hz1, hz2⟩ := info_parts infoNode4
  refine step_append_lies w hgd s x 51 ho base 53 i0 _ 4 72 Tryd.underlying51 hi hz0 hz1 hz2 rfl (by decide) v L.length (L.flatMap RowD.cells) hs hown.own ⟨B, 0, none⟩ 1 c zeroC hx rfl
    (fun j u hj => World.news_of_block hc j u (by simpa using hj)) (fun u hu => ?_) (by omega) (by unfold maxLen; omega) (by omega) hbase _ rfl ?_
  · simp [zeroC] at hu
    rcases hu with rfl | rfl | rfl <;> rfl
  · intro g cap w' hown' hgrow hat _
    have ho2 := hown'
    obtain ⟨hl, ⟨hv, _⟩ | ⟨gb, cap', cur, hv, hb, hg, hcc, hm, hs', ht⟩⟩ := hown'
    · cases hv
    · cases hv
      exact h g cap w' cur ho2 hgrow hat hg (by rw [hs']; exact Nat.mul_le_mul_right _ hcc) hb hcc
end
end Go.Proofs.YtlncdkeooacebaaDoor.Rw
