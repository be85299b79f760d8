/-
  Nodes in memory by the blocks that they lie in: marks of a node plainly, what a mark leaves as it was, rows parted and joined; laws.markStringS over one block. Conditions: as each theorem says.
-/
import Derived.Test.YtlncdkeooacebaaDoorRows
import Derived.Test.YtlncdkeooacebaaDoorNdF
import Derived.Test.YtlncdkeooacebaaDoorMarkT
namespace Go.Proofs.YtlncdkeooacebaaDoor.Rw
open Go.RowKit Decs
set_option linter.unusedVariables false
set_option maxRecDepth 100000

/-- Of what was there the blocks F alone may have changed. -/
structure Chg (F : List Nat) (w w' : World) : Prop where
  os : w'.os = w.os
  tape : w'.tape = w.tape
  output : w'.output = w.output
  size : w.heap.size ≤ w'.heap.size
  block : ∀ c, c < w.heap.size → c ∉ F → w'.heap[c]? = w.heap[c]?
theorem Chg.refl (F : List Nat) (w : World) : Chg F w w := ⟨rfl, rfl, rfl, Nat.le_refl _, fun _ _ _ => rfl⟩
theorem Chg.trans {F : List Nat} {a b c : World} (h : Chg F a b) (g : Chg F b c) : Chg F a c :=
  ⟨g.os.trans h.os, g.tape.trans h.tape, g.output.trans h.output, Nat.le_trans h.size g.size, fun k hk hp => (g.block k (Nat.lt_of_lt_of_le hk h.size) hp).trans (h.block k hk hp)⟩
theorem Chg.mono {F G : List Nat} {a b : World} (h : Chg F a b) (hs : ∀ c ∈ F, c ∈ G) : Chg G a b :=
  ⟨h.os, h.tape, h.output, h.size, fun k hk hp => h.block k hk fun hm => hp (hs k hm)⟩
theorem Chg.of_below {F : List Nat} {w w' : World} (g : Below w.heap.size w w') : Chg F w w' := ⟨g.os, g.tape, g.output, g.size, fun k hk _ => g.block k hk⟩
theorem Chg.of_within {A B : Nat} {F : List Nat} {w w' : World} (g : Within A B w w') (hF : ∀ c, A ≤ c → c < B → c ∈ F) : Chg F w w' :=
  ⟨g.os, g.tape, g.output, g.size, fun k hk hp => g.block k hk (by
    by_cases h1 : k < A
    · exact .inl h1
    · right
      rcases Nat.lt_or_ge k B with h2 | h2
      · exact absurd (hF k (by omega) h2) hp
      · exact h2)⟩
theorem Chg.below {F : List Nat} {C : Nat} {w w' : World} (h : Chg F w w') (hF : ∀ c ∈ F, C ≤ c) (hs : C ≤ w.heap.size) : Below C w w' :=
  ⟨h.os, h.tape, h.output, h.size, fun k hk => h.block k (by omega) fun hm => by have := hF k hm; omega⟩
/-- What a round of writes leaves as it was. -/
structure RndF (b o : Nat) (F : List Nat) (w w' : World) : Prop where
  os : w'.os = w.os
  tape : w'.tape = w.tape
  output : w'.output = w.output
  size : w.heap.size ≤ w'.heap.size
  other : ∀ c, c < w.heap.size → c ≠ b → c ∉ F → w'.heap[c]? = w.heap[c]?
  cells : ∀ j, (j < o ∨ o + 4 ≤ j) → w'.cell? ⟨b, j, none⟩ = w.cell? ⟨b, j, none⟩
  free : Free w b → Free w' b
theorem RndF.of_round {b o : Nat} {F : List Nat} {w w' : World} (h : Round 4 b o 0 0 w w') : RndF b o F w w' :=
  ⟨h.os, h.tape, h.output, h.size, fun c hc hcb _ => h.other c hc hcb (by omega), h.cells, h.free⟩
theorem RndF.chg {b o : Nat} {F : List Nat} {a w w' : World} (h : RndF b o F a w) (hf : Free a b) (hb : b ∉ F) (g : Chg F w w') : RndF b o F a w' := by
  have hlt := (h.free hf).lt
  have hbb := g.block b hlt hb
  exact ⟨g.os.trans h.os, g.tape.trans h.tape, g.output.trans h.output, Nat.le_trans h.size g.size, fun c hc hcb hl => (g.block c (Nat.lt_of_lt_of_le hc h.size) hl).trans (h.other c hc hcb hl), fun i hi => (World.cell?_of_block (w := w) hbb).trans (h.cells i hi), fun _ => (h.free hf).of hbb⟩
theorem RndF.toChg {b o : Nat} {F G : List Nat} {w w' : World} (h : RndF b o F w w') (hs : ∀ c ∈ F, c ∈ G) : Chg (b :: G) w w' :=
  ⟨h.os, h.tape, h.output, h.size, fun c hc hp => h.other c hc (fun e => hp (by simp [e])) fun hm => hp (by simp [hs c hm])⟩

theorem NdF.frameC : ∀ {n : Nat} {w w' : World} {F : List Nat} {b o : Nat} {x : NodeP}, NdF n w F b o x → (∀ c ∈ F, w'.heap[c]? = w.heap[c]?) → (∀ j, o ≤ j → j < o + 4 → w'.cell? ⟨b, j, none⟩ = w.cell? ⟨b, j, none⟩) → NdF n w' F b o x
  | 0, _, _, _, _, _, _, h, _, _ => h.elim
  | n + 1, w, w', F, b, o, x, ⟨a, ca, c, cc, h1, h2⟩, hw, hb => ⟨a, ca, c, cc, h1.same fun j j1 j2 => hb j j1 (by simpa [NodeP.cells] using j2), h2.frameN hw⟩
theorem LsF.frameC {n : Nat} {w w' : World} : ∀ {l : List NodeP} {G : List Nat} {b off : Nat}, LsF (NdF n) w G b off l → (∀ c ∈ G, w'.heap[c]? = w.heap[c]?) → (∀ j, off ≤ j → j < off + l.length * 4 → w'.cell? ⟨b, j, none⟩ = w.cell? ⟨b, j, none⟩) → LsF (NdF n) w' G b off l
  | [], _, _, _, h, _, _ => h
  | x :: l, G, b, off, ⟨G1, G2, e, h1, h2⟩, hw, hb => by
    subst e
    simp only [List.length_cons] at hb
    exact ⟨G1, G2, rfl, h1.frameC (fun c hc => hw c (by simp [hc])) (fun j j1 j2 => hb j j1 (by omega)), h2.frameC (fun c hc => hw c (by simp [hc])) fun j j1 j2 => hb j (by omega) (by omega)⟩
theorem LsF.join {L : World → List Nat → Nat → Nat → NodeP → Prop} {w : World} : ∀ {l1 l2 : List NodeP} {G1 G2 : List Nat} {b off : Nat}, LsF L w G1 b off l1 → LsF L w G2 b (off + l1.length * 4) l2 → LsF L w (G1 ++ G2) b off (l1 ++ l2)
  | [], l2, G1, G2, b, off, h1, h2 => by
    obtain rfl : G1 = [] := h1
    rw [List.length_nil, Nat.zero_mul, Nat.add_zero] at h2
    exact h2
  | x :: l1, l2, G1, G2, b, off, ⟨Ga, Gb, e, h1, h2⟩, h3 => by
    subst e
    rw [List.length_cons, show off + (l1.length + 1) * 4 = off + 4 + l1.length * 4 by omega] at h3
    exact ⟨Ga, Gb ++ G2, by rw [List.append_assoc], h1, h2.join h3⟩

/-! ### marks, plainly -/
def mkL (f : NodeP → Nat → NodeP) (g : NodeP → Nat) : List NodeP → Nat → List NodeP
  | [], _ => []
  | x :: l, k => f x k :: mkL f g l (k + g x)
/-- How many marks a node takes, no deeper than n. -/
def cntN : Nat → NodeP → Nat
  | 0, _ => 0
  | n + 1, x => 2 + x.keys.length + sumOf (cntN n) x.kids
/-- A node with marks from k on. -/
def mkN : Nat → NodeP → Nat → NodeP
  | 0, x, _ => x
  | n + 1, x, k => ⟨(k : Int), mkT (k + 1), textsMark x.keys (k + 2), mkL (mkN n) (cntN n) x.kids (k + 2 + x.keys.length)⟩
theorem mkL_len {f : NodeP → Nat → NodeP} {g : NodeP → Nat} : ∀ (l : List NodeP) (k : Nat), (mkL f g l k).length = l.length
  | [], _ => rfl
  | x :: l, k => by simp only [mkL, List.length_cons, mkL_len l]
theorem mkL_at {f : NodeP → Nat → NodeP} {g : NodeP → Nat} : ∀ (i : Nat) (l : List NodeP) (k : Nat) {x : NodeP}, l[i]? = some x → (mkL f g l k)[i]? = some (f x (k + (sumOf g l - sumOf g (l.drop i))))
  | i, [], k, x, h => by simp at h
  | 0, y :: l, k, x, h => by
    simp at h; subst h
    rw [List.drop_zero, Nat.sub_self, Nat.add_zero]; rfl
  | i + 1, y :: l, k, x, h => by
    have ih := mkL_at (f := f) (g := g) i l (k + g y) (x := x) (by simpa using h)
    have hl := sumOf_le g i l
    have e : k + g y + (sumOf g l - sumOf g (l.drop i)) = k + (sumOf g (y :: l) - sumOf g ((y :: l).drop (i + 1))) := by
      simp only [List.drop_succ_cons, sumOf]; omega
    rw [e] at ih
    show (mkL f g l (k + g y))[i]? = _
    exact ih

/-- Texts in a block of their own, marked. -/
theorem markTxF {F : List Nat} {a : Option Addr} {l : List ByteArray} {w : World} (h : TxF w F a l) (hl : l.length ≤ 1048576) (cap k : Nat) (hF : ∀ c ∈ F, c < w.heap.size) (h1 : 1 ≤ k) (hk : k + l.length ≤ 9000000) :
    Calls Tryd.prog 84 #[.slice a l.length cap, .int .i64 k] w fun e w' => e = .returned (.int .i64 ((k + l.length : Nat) : Int)) ∧ TxF w' F a (textsMark l k) ∧ Chg F w w' := by
  by_cases hn : l = []
  · subst hn
    refine (markStringS w 0 0 a _ cap [] k ⟨rfl, by simp, Nat.le_refl _, .inl rfl⟩ (Nat.zero_le _) h1 hk).mono ?_
    rintro e w' ⟨rfl, _, hw⟩
    exact ⟨rfl, h.frame fun c hc => hw.block c (hF c hc) (by omega), Chg.of_within hw fun c _ h2 => by omega⟩
  rcases h with ⟨rfl, rfl⟩ | ⟨b, off, ha, rfl, hf, hr⟩
  · exact absurd rfl hn
  · have hb := hF b (by simp)
    refine (markStringS w b (b + 1) a _ cap l k ⟨rfl, by omega, by omega, .inr ⟨b, off, ha, Nat.le_refl _, by omega, LieRX.flat hf (by omega) (by omega) fun i y hy => by rw [Nat.mul_one]; exact hr i y hy⟩⟩ (by omega) h1 hk).mono ?_
    rintro e w' ⟨rfl, hx, hw⟩
    refine ⟨rfl, ?_, Chg.of_within hw fun c c1 c2 => by simp; omega⟩
    rcases hx.2.2.2 with hx | ⟨b', off', e, _, _, hl⟩
    · have := textsMark_len l k
      rw [hx] at this
      exact absurd (List.eq_nil_of_length_eq_zero this.symm) hn
    · rw [ha] at e
      cases e
      right
      refine ⟨b, off, ha, rfl, ?_, fun j y hj => ?_⟩
      · cases l with
        | nil => exact absurd rfl hn
        | cons x l => exact hl.1
      · have := hl.rows (A' := 0) (B' := b + 1) textLies id (Nat.zero_le _) (Nat.le_refl _) j y hj
        rw [Nat.mul_one] at this
        exact this
end Go.Proofs.YtlncdkeooacebaaDoor.Rw
