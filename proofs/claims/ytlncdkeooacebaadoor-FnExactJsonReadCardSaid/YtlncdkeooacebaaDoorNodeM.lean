/-
  Nodes in memory, so deep: four cells each, their keys and what is within them elsewhere; what they weigh; no program. Conditions: as each theorem says.
-/
import Derived.Test.YtlncdkeooacebaaDoorRows
import Derived.Test.YtlncdkeooacebaaDoorRow
namespace Go.Proofs.YtlncdkeooacebaaDoor.Rw
open Go.RowKit
set_option linter.unusedVariables false
set_option maxRecDepth 100000

structure NodeP where
  kind : Int
  text : ByteArray
  keys : List ByteArray
  kids : List NodeP
def NodeP.ok (x : NodeP) : Prop := OkI x.kind ∧ OkS x.text
def NodeP.cells (x : NodeP) (a : Option Addr) (ca : Nat) (c : Option Addr) (cc : Nat) : List Value := [.int .i64 x.kind, .string x.text, .slice a x.keys.length ca, .slice c x.kids.length cc]
theorem nrow4 {w : World} {b o : Nat} {v0 v1 v2 v3 : Value} (h : RowN w b o [v0, v1, v2, v3]) :
    w.cell? ⟨b, o, none⟩ = some v0 ∧ w.cell? ⟨b, o + 1, none⟩ = some v1 ∧ w.cell? ⟨b, o + 2, none⟩ = some v2 ∧ w.cell? ⟨b, o + 3, none⟩ = some v3 :=
  ⟨by have := h 0 _ rfl; rwa [Nat.add_zero] at this, h 1 _ rfl, h 2 _ rfl, h 3 _ rfl⟩
theorem nrow4z {w : World} {b : Nat} {v0 v1 v2 v3 : Value} (h : RowN w b 0 [v0, v1, v2, v3]) :
    w.cell? ⟨b, 0, none⟩ = some v0 ∧ w.cell? ⟨b, 1, none⟩ = some v1 ∧ w.cell? ⟨b, 2, none⟩ = some v2 ∧ w.cell? ⟨b, 3, none⟩ = some v3 :=
  ⟨h 0 _ rfl, h 1 _ rfl, h 2 _ rfl, h 3 _ rfl⟩
theorem keep4 {w1 : World} {g : Nat} {v0 v1 v2 v3 : Value} {T : TypeId} (h1 : w1.heap[g]? = some (.cells #[v0, v1, v2, v3] T (0, 0))) :
    (w1.cell? ⟨g, 0, none⟩ = some v0 ∧ w1.cell? ⟨g, 1, none⟩ = some v1 ∧ w1.cell? ⟨g, 2, none⟩ = some v2 ∧ w1.cell? ⟨g, 3, none⟩ = some v3) ∧
    (w1.frozen? ⟨g, 0, none⟩ = false ∧ w1.frozen? ⟨g, 1, none⟩ = false ∧ w1.frozen? ⟨g, 2, none⟩ = false ∧ w1.frozen? ⟨g, 3, none⟩ = false) := by
  simp [World.cell?, World.frozen?, h1]
theorem RowsAt.imp {α : Type} {n : Nat} {L L' : World → Nat → Nat → Nat → Nat → α → Prop} {w : World} {A B len : Nat} {a : Option Addr} {l : List α} (h : RowsAt n L w A B a len l) (hL : ∀ b o x, L w A B b o x → L' w A B b o x) : RowsAt n L' w A B a len l :=
  ⟨h.1, h.2.1, h.2.2.imp id fun ⟨b, off, e, hA, hB, hl⟩ => ⟨b, off, e, hA, hB, fun i x hx => hL _ _ _ (hl i x hx)⟩⟩

/-- A node that lies in memory, no deeper than n. -/
def NodeLie : Nat → World → Nat → Nat → Nat → Nat → NodeP → Prop
  | 0, _, _, _, _, _, _ => False
  | n + 1, w, A, B, b, o, x => x.ok ∧ ∃ a ca c cc, RowN w b o (x.cells a ca c cc) ∧ (TextsAt w A B a x.keys.length x.keys ∧ x.keys.length ≤ ca) ∧ RowsAt 4 (NodeLie n) w A B c x.kids.length x.kids ∧ x.kids.length ≤ cc
/-- The same, each list in blocks of its own. -/
def NodeLieX : Nat → World → Nat → Nat → Nat → Nat → NodeP → Prop
  | 0, _, _, _, _, _, _ => False
  | n + 1, w, A, B, b, o, x => x.ok ∧ ∃ a ca c cc M, RowN w b o (x.cells a ca c cc) ∧ (TextsX w A M a x.keys.length x.keys ∧ x.keys.length ≤ ca) ∧ RowsX 4 (NodeLieX n) w M B c x.kids.length x.kids ∧ x.kids.length ≤ cc
abbrev NodesAt (n : Nat) (w : World) (A B : Nat) (a : Option Addr) (len : Nat) (l : List NodeP) : Prop := RowsAt 4 (NodeLie n) w A B a len l
abbrev NodesX (n : Nat) (w : World) (A B : Nat) (a : Option Addr) (len : Nat) (l : List NodeP) : Prop := RowsX 4 (NodeLieX n) w A B a len l
theorem nodeLies : ∀ n, Lies 4 (NodeLie n)
  | 0 => ⟨fun h _ _ => h.elim, fun h _ _ => h.elim⟩
  | n + 1 => {
    frame := fun h hw he => by
      obtain ⟨hk, a, ca, c, cc, h1, h2, h3⟩ := h
      exact ⟨hk, a, ca, c, cc, h1.same fun j j1 j2 => he j j1 (by simpa [NodeP.cells] using j2), ⟨h2.1.block textLies hw, h2.2⟩, h3.1.block (nodeLies n) hw, h3.2⟩
    wide := fun h hA hB => by
      obtain ⟨hk, a, ca, c, cc, h1, h2, h3⟩ := h
      exact ⟨hk, a, ca, c, cc, h1, ⟨h2.1.wide textLies hA hB, h2.2⟩, h3.1.wide (nodeLies n) hA hB, h3.2⟩ }
theorem nodeLiesX : ∀ n, Lies 4 (NodeLieX n)
  | 0 => ⟨fun h _ _ => h.elim, fun h _ _ => h.elim⟩
  | n + 1 => {
    frame := fun h hw he => by
      obtain ⟨hk, a, ca, c, cc, M, h1, h2, h3⟩ := h
      have e1 := h2.1.2.2.1
      have e2 := h3.1.2.2.1
      exact ⟨hk, a, ca, c, cc, M, h1.same fun j j1 j2 => he j j1 (by simpa [NodeP.cells] using j2), ⟨h2.1.block textLies fun q q1 q2 => hw q q1 (by omega), h2.2⟩, h3.1.block (nodeLiesX n) fun q q1 q2 => hw q (by omega) q2, h3.2⟩
    wide := fun h hA hB => by
      obtain ⟨hk, a, ca, c, cc, M, h1, h2, h3⟩ := h
      exact ⟨hk, a, ca, c, cc, M, h1, ⟨h2.1.wide hA (Nat.le_refl _), h2.2⟩, h3.1.wide (Nat.le_refl _) hB, h3.2⟩ }
theorem NodeLieX.lie : ∀ {n : Nat} {w : World} {A B b o : Nat} {x : NodeP}, NodeLieX n w A B b o x → NodeLie n w A B b o x
  | 0, _, _, _, _, _, _, h => h.elim
  | n + 1, w, A, B, b, o, x, h => by
    obtain ⟨hk, a, ca, c, cc, M, h1, h2, h3⟩ := h
    have e1 := h2.1.2.2.1
    have e2 := h3.1.2.2.1
    exact ⟨hk, a, ca, c, cc, h1, ⟨(h2.1.at_ textLies id).wide textLies (Nat.le_refl _) e2, h2.2⟩, (h3.1.at_ (nodeLies n) NodeLieX.lie).wide (nodeLies n) e1 (Nat.le_refl _), h3.2⟩
theorem NodeLie.mono : ∀ {n k : Nat} {w : World} {A B b o : Nat} {x : NodeP}, n ≤ k → NodeLie n w A B b o x → NodeLie k w A B b o x
  | 0, _, _, _, _, _, _, _, _, h => h.elim
  | n + 1, 0, _, _, _, _, _, _, hk, _ => absurd hk (by omega)
  | n + 1, k + 1, w, A, B, b, o, x, hk, h => by
    obtain ⟨h0, a, ca, c, cc, h1, h2, h3⟩ := h
    exact ⟨h0, a, ca, c, cc, h1, h2, h3.1.imp fun _ _ _ g => NodeLie.mono (by omega) g, h3.2⟩
/-- A node as a value, its kids no deeper than n. -/
def NodeV : Nat → World → Nat → Nat → Value → NodeP → Prop
  | 0, _, _, _, _, _ => False
  | n + 1, w, A, B, v, x => ∃ a ca c cc, v = .agg (x.cells a ca c cc).toArray ∧ x.ok ∧ (TextsAt w A B a x.keys.length x.keys ∧ x.keys.length ≤ ca) ∧ NodesAt n w A B c x.kids.length x.kids ∧ x.kids.length ≤ cc
def NodeVX : Nat → World → Nat → Nat → Value → NodeP → Prop
  | 0, _, _, _, _, _ => False
  | n + 1, w, A, B, v, x => ∃ a ca c cc M, v = .agg (x.cells a ca c cc).toArray ∧ x.ok ∧ (TextsX w A M a x.keys.length x.keys ∧ x.keys.length ≤ ca) ∧ NodesX n w M B c x.kids.length x.kids ∧ x.kids.length ≤ cc
theorem NodeLie.val : ∀ {n : Nat} {w : World} {A B b o : Nat} {x : NodeP}, NodeLie n w A B b o x → ∃ a ca c cc, RowN w b o [.int .i64 x.kind, .string x.text, .slice a x.keys.length ca, .slice c x.kids.length cc] ∧ NodeV n w A B (.agg #[.int .i64 x.kind, .string x.text, .slice a x.keys.length ca, .slice c x.kids.length cc]) x
  | 0, _, _, _, _, _, _, h => h.elim
  | n + 1, w, A, B, b, o, x, h => by
    obtain ⟨hk, a, ca, c, cc, h1, h2, h3⟩ := h
    exact ⟨a, ca, c, cc, h1, a, ca, c, cc, rfl, hk, h2, h3⟩
theorem NodeV.below : ∀ {n : Nat} {w w' : World} {A B C : Nat} {v : Value} {x : NodeP}, NodeV n w A B v x → B ≤ C → Below C w w' → NodeV n w' A B v x
  | 0, _, _, _, _, _, _, _, h, _, _ => h.elim
  | n + 1, w, w', A, B, C, v, x, h, hB, g => by
    obtain ⟨a, ca, c, cc, hv, hk, h2, h3⟩ := h
    exact ⟨a, ca, c, cc, hv, hk, ⟨h2.1.below textLies hB g, h2.2⟩, h3.1.below (nodeLies n) hB g, h3.2⟩
theorem NodeV.wide : ∀ {n : Nat} {w : World} {A B A' B' : Nat} {v : Value} {x : NodeP}, NodeV n w A B v x → A' ≤ A → B ≤ B' → NodeV n w A' B' v x
  | 0, _, _, _, _, _, _, _, h, _, _ => h.elim
  | n + 1, w, A, B, A', B', v, x, h, hA, hB => by
    obtain ⟨a, ca, c, cc, hv, hk, h2, h3⟩ := h
    exact ⟨a, ca, c, cc, hv, hk, ⟨h2.1.wide textLies hA hB, h2.2⟩, h3.1.wide (nodeLies n) hA hB, h3.2⟩
theorem NodeV.drew : ∀ {n : Nat} {w : World} {A B : Nat} {v : Value} {x : NodeP}, NodeV n w A B v x → NodeV n w.drew A B v x
  | 0, _, _, _, _, _, h => h.elim
  | n + 1, w, A, B, v, x, h => by
    obtain ⟨a, ca, c, cc, hv, hk, h2, h3⟩ := h
    exact ⟨a, ca, c, cc, hv, hk, ⟨h2.1.drew textLies, h2.2⟩, h3.1.drew (nodeLies n), h3.2⟩
theorem NodeVX.val : ∀ {n : Nat} {w : World} {A B : Nat} {v : Value} {x : NodeP}, NodeVX n w A B v x → NodeV n w A B v x
  | 0, _, _, _, _, _, h => h.elim
  | n + 1, w, A, B, v, x, h => by
    obtain ⟨a, ca, c, cc, M, hv, hk, h2, h3⟩ := h
    have e1 := h2.1.2.2.1
    have e2 := h3.1.2.2.1
    exact ⟨a, ca, c, cc, hv, hk, ⟨(h2.1.at_ textLies id).wide textLies (Nat.le_refl _) e2, h2.2⟩, (h3.1.at_ (nodeLies n) NodeLieX.lie).wide (nodeLies n) e1 (Nat.le_refl _), h3.2⟩
theorem NodeVX.block : ∀ {n : Nat} {w w' : World} {A B : Nat} {v : Value} {x : NodeP}, NodeVX n w A B v x → (∀ c, A ≤ c → c < B → w'.heap[c]? = w.heap[c]?) → NodeVX n w' A B v x
  | 0, _, _, _, _, _, _, h, _ => h.elim
  | n + 1, w, w', A, B, v, x, h, hw => by
    obtain ⟨a, ca, c, cc, M, hv, hk, h2, h3⟩ := h
    have e1 := h2.1.2.2.1
    have e2 := h3.1.2.2.1
    exact ⟨a, ca, c, cc, M, hv, hk, ⟨h2.1.block textLies fun q q1 q2 => hw q q1 (by omega), h2.2⟩, h3.1.block (nodeLiesX n) fun q q1 q2 => hw q (by omega) q2, h3.2⟩
theorem NodeVX.below {n : Nat} {w w' : World} {A B C : Nat} {v : Value} {x : NodeP} (h : NodeVX n w A B v x) (hB : B ≤ C) (g : Below C w w') : NodeVX n w' A B v x := h.block fun c _ hc => g.block c (by omega)
/-- A node that was made, as a thing in a row. -/
theorem NodeVX.lie : ∀ {n : Nat} {w : World} {A B b o : Nat} {x : NodeP} {a c : Option Addr} {ca cc : Nat}, NodeVX n w A B (.agg #[.int .i64 x.kind, .string x.text, .slice a x.keys.length ca, .slice c x.kids.length cc]) x → RowN w b o (x.cells a ca c cc) → NodeLieX n w A B b o x
  | 0, _, _, _, _, _, _, _, _, _, _, h, _ => h.elim
  | n + 1, w, A, B, b, o, x, a, c, ca, cc, h, hr => by
    obtain ⟨a3, ca3, c3, cc3, M, e3, ok3, f3, m3⟩ := h
    simp [NodeP.cells] at e3
    obtain ⟨⟨rfl, rfl⟩, rfl, rfl⟩ := e3
    exact ⟨ok3, _, _, _, _, M, hr, f3, m3⟩
/-- What a node weighs, how many nodes there are, no deeper than n. -/
def wtN : Nat → NodeP → Nat
  | 0, _ => 0
  | n + 1, x => x.text.size + (x.keys.length + sumOf ByteArray.size x.keys) + (x.kids.length + sumOf (wtN n) x.kids)
def szN : Nat → NodeP → Nat
  | 0, _ => 1
  | n + 1, x => 1 + sumOf (szN n) x.kids
theorem szN_pos : ∀ n x, 1 ≤ szN n x
  | 0, _ => Nat.le_refl _
  | n + 1, x => by simp only [szN]; omega
end Go.Proofs.YtlncdkeooacebaaDoor.Rw
