/-
  What an argument reads as, opened: a node in memory. Conditions: none.
-/
import Derived.Test.YtffcfjjlieogkaaRows
import Derived.Test.YtffcfjjlieogkaaNodeM
import Derived.Test.YtffcfjjlieogkaaOpenT
namespace Go.Proofs.Ytffcfjjlieogkaa.Rw
open Go.RowKit Go.ChangeShapes Go.WideShapes
set_option linter.unusedVariables false
set_option maxRecDepth 100000

theorem coNode : Try.prog.cellsOf 25 = 4 := by kernel_rfl
theorem coNodes : Try.prog.cellsOf 23 = 1 := by kernel_rfl
section
variable {H : Type} {enc : TypeId × Value → H} {w : World} {sp : Nat → Bool} {hd : Bool}
/-- One node, its four cells. -/
theorem openNodeC : ∀ (fuel : Nat) (cs : List Value) (y : DataW H × List MemPlace), DataW.trod enc Try.prog w 0 sp hd fuel 25 cs = some y → cs.length = 4 →
    ∃ (x : NodeP) (a : Option Addr) (ca : Nat) (c : Option Addr) (cc : Nat), cs = x.cells a ca c cc ∧ x.ok ∧ (TextsAt w 0 w.heap.size a x.keys.length x.keys ∧ x.keys.length ≤ ca) ∧ NodesAt fuel w 0 w.heap.size c x.kids.length x.kids ∧ x.kids.length ≤ cc := by
  intro fuel
  induction fuel using Nat.strongRecOn with
  | _ fuel ih =>
    intro cs y h hl4
    obtain ⟨xs, m, hn, _, hl, hxl, hf⟩ := DataW.trod_struct Try.underlying25 h
    rw [coNode] at hl
    match cs, hl with
    | [c0, c1, c2, c3], _ =>
      match xs, hxl with
      | [x0, x1, x2, x3], _ =>
        have h0 := fldS (T := 2) (off := 0) (v := c0) (x := some x0) (hf 0 _ rfl) coInt rfl
        have h1 := fldS (T := 9) (off := 1) (v := c1) (x := some x1) (hf 1 _ rfl) coStr rfl
        have h2 := fldS (T := 22) (off := 2) (v := c2) (x := some x2) (hf 2 _ rfl) coStrs rfl
        have h3 := fldS (T := 23) (off := 3) (v := c3) (x := some x3) (hf 3 _ rfl) coNodes rfl
        obtain ⟨kd, e0, _, w0⟩ := DataW.trod_int Try.underlying2 h0
        obtain ⟨tx, e1, _, w1⟩ := DataW.trod_string Try.underlying9 h1
        obtain ⟨a, len, ca, ks, e2, hks, hca⟩ := openTexts h2
        obtain ⟨c, len', cc, ns, e3, hns, hcc⟩ := openRowF (L := NodeLie fuel) Try.underlying23 coNode (by omega) (fun m' cs' y' hm' h' hl' => by
          obtain ⟨x', a', ca', c', cc', rfl, hok', ht', hn', hcc'⟩ := ih m' (by omega) cs' y' h' hl'
          exact ⟨x', fun b off hc => NodeLie.mono (n := m' + 1) (by omega) ⟨hok', a', ca', c', cc', rowN_of hc, ht', hn', hcc'⟩⟩) h3
        cases e0; cases e1; cases e2; cases e3
        obtain rfl := hks.1
        obtain rfl := hns.1
        unfold maxLen at w1
        exact ⟨⟨kd, tx, ks, ns⟩, a, ca, c, cc, rfl, ⟨bounds_i64 w0, by unfold OkS; omega⟩, ⟨hks, hca⟩, hns, hcc⟩
/-- A node, as an argument, of some depth. -/
theorem openNode {v : Value} {d : DataW H} {ps : List MemPlace} {r : Reach} {b0 : Nat} (hv : Value.okWide Try.prog w r b0 25 v) (h : DataW.Trod enc Try.prog w 0 sp hd 25 v d ps) : ∃ x : NodeP, ∃ n, NodeV n w 0 w.heap.size v x := by
  obtain ⟨cs, rfl, hsz⟩ := okWide_struct Try.underlying25 hv
  obtain ⟨l⟩ := cs
  obtain ⟨fuel, hf⟩ := h
  obtain ⟨x, a, ca, c, cc, e, hok, ht, hn, hcc⟩ := openNodeC fuel _ _ hf (hsz.trans coNode)
  have e2 : l = x.cells a ca c cc := e
  subst e2
  exact ⟨x, fuel + 1, a, ca, c, cc, rfl, hok, ht, hn, hcc⟩
end
end Go.Proofs.Ytffcfjjlieogkaa.Rw
