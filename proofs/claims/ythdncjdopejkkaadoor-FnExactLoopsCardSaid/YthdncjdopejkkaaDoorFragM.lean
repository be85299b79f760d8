/-
  Frags and Docs in memory; no program. Conditions: as each theorem says.
-/
import Derived.Test.YthdncjdopejkkaaDoorRows
import Derived.Test.YthdncjdopejkkaaDoorGen
namespace Go.Proofs.YthdncjdopejkkaaDoor.Selss
open Go.RowKit
set_option linter.unusedVariables false
set_option maxRecDepth 100000


structure FragP where
  name : ByteArray
  on : ByteArray
  sels : Sels
/-- Frag x lies in block b at cell o. -/
structure FragLie (w : World) (A B : Nat) (b o : Nat) (x : FragP) : Prop where
  okn : OkS x.name
  oko : OkS x.on
  c0 : w.cell? ⟨b, o, none⟩ = some (.string x.name)
  c1 : w.cell? ⟨b, o + 1, none⟩ = some (.string x.on)
  c2 : ∃ a cap, w.cell? ⟨b, o + 2, none⟩ = some (.slice a x.sels.len cap) ∧ SelsAt w A B a x.sels.len x.sels
/-- A slice that holds the Frags l. -/
def FragsAt (w : World) (A B : Nat) (a : Option Addr) (len : Nat) (l : List FragP) : Prop :=
  l.length = len ∧ len ≤ 9223372036854775807 ∧ (l = [] ∨ ∃ b off, a = some ⟨b, off, none⟩ ∧ A ≤ b ∧ b < B ∧ ∀ i x, l[i]? = some x → FragLie w A B b (off + i * 3) x)
theorem SelsAt.block {w w' : World} {A B len : Nat} {a : Option Addr} {s : Sels} (h : SelsAt w A B a len s) (hw : ∀ c, A ≤ c → c < B → w'.heap[c]? = w.heap[c]?) : SelsAt w' A B a len s :=
  ⟨h.1, h.2.1, h.2.2.imp id fun ⟨b, off, ha, hA, hl⟩ => ⟨b, off, ha, hA, hl.block hw hA⟩⟩
theorem FragLie.frame {w w' : World} {A B b o : Nat} {x : FragP} (h : FragLie w A B b o x) (hw : ∀ c, A ≤ c → c < B → w'.heap[c]? = w.heap[c]?) (he : ∀ j, o ≤ j → j < o + 3 → w'.cell? ⟨b, j, none⟩ = w.cell? ⟨b, j, none⟩) : FragLie w' A B b o x := by
  obtain ⟨a, cap, hc, hs⟩ := h.c2
  exact ⟨h.okn, h.oko, (he _ (by omega) (by omega)).trans h.c0, (he _ (by omega) (by omega)).trans h.c1, a, cap, (he _ (by omega) (by omega)).trans hc, hs.block hw⟩
theorem FragLie.wide {w : World} {A B A' B' b o : Nat} {x : FragP} (h : FragLie w A B b o x) (hA : A' ≤ A) (hB : B ≤ B') : FragLie w A' B' b o x := by
  obtain ⟨a, cap, hc, hs⟩ := h.c2
  exact ⟨h.okn, h.oko, h.c0, h.c1, a, cap, hc, hs.wide hA hB⟩
theorem FragsAt.block {w w' : World} {A B len : Nat} {a : Option Addr} {l : List FragP} (h : FragsAt w A B a len l) (hw : ∀ c, A ≤ c → c < B → w'.heap[c]? = w.heap[c]?) : FragsAt w' A B a len l :=
  ⟨h.1, h.2.1, h.2.2.imp id fun ⟨b, off, ha, hA, hB, hl⟩ => ⟨b, off, ha, hA, hB, fun i x hx => (hl i x hx).frame hw fun j _ _ => World.cell?_of_block (w := w) (hw b hA hB)⟩⟩
theorem FragsAt.below {w w' : World} {A B C len : Nat} {a : Option Addr} {l : List FragP} (h : FragsAt w A B a len l) (hB : B ≤ C) (g : Below C w w') : FragsAt w' A B a len l := h.block fun c _ hc => g.block c (by omega)
theorem FragsAt.wide {w : World} {A B A' B' len : Nat} {a : Option Addr} {l : List FragP} (h : FragsAt w A B a len l) (hA : A' ≤ A) (hB : B ≤ B') : FragsAt w A' B' a len l :=
  ⟨h.1, h.2.1, h.2.2.imp id fun ⟨b, off, ha, hb, hb', hl⟩ => ⟨b, off, ha, by omega, by omega, fun i x hx => (hl i x hx).wide hA hB⟩⟩
theorem FragsAt.at {w : World} {A B len : Nat} {a : Option Addr} {l : List FragP} (h : FragsAt w A B a len l) {i : Nat} (hi : i < len) :
    ∃ x b off a' cap, l[i]? = some x ∧ a = some ⟨b, off, none⟩ ∧ b < B ∧ (OkS x.name ∧ OkS x.on) ∧
      (w.cell? ⟨b, off + i * 3, none⟩ = some (.string x.name) ∧ w.cell? ⟨b, off + i * 3 + 1, none⟩ = some (.string x.on) ∧ w.cell? ⟨b, off + i * 3 + 2, none⟩ = some (.slice a' x.sels.len cap)) ∧ SelsAt w A B a' x.sels.len x.sels := by
  have hl : i < l.length := by rw [h.1]; exact hi
  have hx : l[i]? = some l[i] := List.getElem?_eq_getElem hl
  rcases h.2.2 with rfl | ⟨b, off, ha, hA, hB, hl⟩
  · simp at hl
  · have hf := hl i _ hx
    obtain ⟨a', cap, hc, hs⟩ := hf.c2
    exact ⟨_, b, off, a', cap, hx, ha, hB, ⟨hf.okn, hf.oko⟩, ⟨hf.c0, hf.c1, hc⟩, hs⟩
/-- What Frags weigh, beside how many there are. -/
def fragWt : List FragP → Nat
  | [] => 0
  | x :: l => x.name.size + x.on.size + x.sels.len + x.sels.wt + fragWt l
theorem fragWt_drop {l : List FragP} {i : Nat} {x : FragP} (h : l[i]? = some x) : fragWt (l.drop i) = x.name.size + x.on.size + x.sels.len + x.sels.wt + fragWt (l.drop (i + 1)) := by
  obtain ⟨hl, rfl⟩ := List.getElem?_eq_some_iff.1 h
  rw [List.drop_eq_getElem_cons hl]; rfl
theorem fragWt_mem {x : FragP} : ∀ {l : List FragP} {i : Nat}, l[i]? = some x → x.sels.len + x.sels.wt ≤ fragWt l
  | y :: l, 0, h => by cases h; simp only [fragWt]; omega
  | y :: l, i + 1, h => by have := fragWt_mem (l := l) (i := i) (by simpa using h); simp only [fragWt]; omega
/-- A Doc. -/
structure DocP where
  sels : Sels
  frags : List FragP
def DocP.wt (d : DocP) : Nat := d.sels.len + d.sels.wt + (d.frags.length + fragWt d.frags)
/-- A value that is the Doc d. -/
def DocAt (w : World) (A B : Nat) (v : Value) (d : DocP) : Prop := ∃ a ca b cb, v = .agg #[.slice a d.sels.len ca, .slice b d.frags.length cb] ∧ SelsAt w A B a d.sels.len d.sels ∧ FragsAt w A B b d.frags.length d.frags ∧ d.frags.length ≤ cb
theorem DocAt.below {w w' : World} {A B C : Nat} {v : Value} {d : DocP} (h : DocAt w A B v d) (hB : B ≤ C) (g : Below C w w') : DocAt w' A B v d := by
  obtain ⟨a, ca, b, cb, hv, h1, h2, h3⟩ := h
  exact ⟨a, ca, b, cb, hv, h1.below hB g, h2.below hB g, h3⟩
theorem DocAt.wide {w : World} {A B A' B' : Nat} {v : Value} {d : DocP} (h : DocAt w A B v d) (hA : A' ≤ A) (hB : B ≤ B') : DocAt w A' B' v d := by
  obtain ⟨a, ca, b, cb, hv, h1, h2, h3⟩ := h
  exact ⟨a, ca, b, cb, hv, h1.wide hA hB, h2.wide hA hB, h3⟩
theorem FragsAt.set {w : World} {A B len g j : Nat} {a : Option Addr} {s : List FragP} (h : FragsAt w A B a len s) (hg : g < A) (v : Value) : FragsAt (w.setCell ⟨g, j, none⟩ v) A B a len s :=
  h.block fun c hc _ => Go.Deep.blk_setCell_other _ _ _ _ (by show c ≠ g; omega)
theorem frag_small {l : List FragP} {x : FragP} (h : fragWt l ≤ 1048576) (hx : x ∈ l) : x.sels.len ≤ 1048576 ∧ x.sels.small := by
  obtain ⟨i, hi⟩ := List.mem_iff_getElem?.1 hx
  have := fragWt_mem hi
  exact ⟨by omega, Sels.small_of_wt (by omega)⟩
theorem FragsAt.drew {w : World} {A B len : Nat} {a : Option Addr} {s : List FragP} (h : FragsAt w A B a len s) : FragsAt w.drew A B a len s := FragsAt.block (w := w) (w' := w.drew) h (fun _ _ _ => rfl)
/-- What a walk knows of its own Doc parameter, behind one call more. -/
theorem kstep {w wr w' : World} {v0 v1 : Value} (hb : Below w.heap.size w wr) (hz : w.heap.size < wr.heap.size) (k0 : wr.cell? ⟨w.heap.size, 0, none⟩ = some v0) (k1 : wr.cell? ⟨w.heap.size, 1, none⟩ = some v1) (h : Below wr.heap.size wr w') :
    Below w.heap.size w w' ∧ w.heap.size < w'.heap.size ∧ w'.cell? ⟨w.heap.size, 0, none⟩ = some v0 ∧ w'.cell? ⟨w.heap.size, 1, none⟩ = some v1 :=
  ⟨hb.trans (h.mono hb.size), Nat.lt_of_lt_of_le hz h.size, (h.cell (p := ⟨w.heap.size, 0, none⟩) hz).trans k0, (h.cell (p := ⟨w.heap.size, 1, none⟩) hz).trans k1⟩
theorem kcell {wr w' : World} {g j : Nat} {v : Value} (h : Below wr.heap.size wr w') (hg : g < wr.heap.size) (k : wr.cell? ⟨g, j, none⟩ = some v) : w'.cell? ⟨g, j, none⟩ = some v := (h.cell (p := ⟨g, j, none⟩) hg).trans k
end Go.Proofs.YthdncjdopejkkaaDoor.Selss
