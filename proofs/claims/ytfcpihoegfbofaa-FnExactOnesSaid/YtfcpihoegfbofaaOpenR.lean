/-
  What an argument reads as, opened: rows of things. Conditions: none.
-/
import Derived.Test.YtfcpihoegfbofaaRows
import Derived.Test.YtfcpihoegfbofaaRow
import Derived.ChangeArms
import Derived.ChangeShapes
import Derived.WideShapes
import Derived.OpenShut
namespace Go.Proofs.Ytfcpihoegfbofaa.Rw
open Go.RowKit Go.ChangeShapes Go.WideShapes
set_option linter.unusedVariables false
set_option maxRecDepth 100000

theorem kst1 {w wr w' : World} {v0 : Value} (hb : Below w.heap.size w wr) (hz : w.heap.size < wr.heap.size) (k0 : wr.cell? ⟨w.heap.size, 0, none⟩ = some v0) (h : Below wr.heap.size wr w') :
    Below w.heap.size w w' ∧ w.heap.size < w'.heap.size ∧ w'.cell? ⟨w.heap.size, 0, none⟩ = some v0 :=
  ⟨hb.trans (h.mono hb.size), Nat.lt_of_lt_of_le hz h.size, (h.cell (p := ⟨w.heap.size, 0, none⟩) hz).trans k0⟩
theorem coInt : Try.prog.cellsOf 2 = 1 := by kernel_rfl
theorem coStr : Try.prog.cellsOf 9 = 1 := by kernel_rfl
section
variable {H : Type} {enc : TypeId × Value → H} {w : World} {sp : Nat → Bool} {hd : Bool}

theorem fldS {m off : Nat} {T : TypeId} {cs : List Value} {x : Option (DataW H × List MemPlace)} {v : Value} (h : DataW.trod enc Try.prog w 0 sp hd m T ((cs.drop off).take (Try.prog.cellsOf T)) = x) (h1 : Try.prog.cellsOf T = 1) (hv : (cs.drop off).take 1 = [v]) :
    DataW.trod enc Try.prog w 0 sp hd m T [v] = x := by rw [h1, hv] at h; exact h
/-- A slice whose elements open as things (with less of the fuel). -/
theorem openRowF {α : Type} {n : Nat} {L : World → Nat → Nat → Nat → Nat → α → Prop} {T E : TypeId} (hu : Try.prog.underlying T = some (.slice E)) (hco : Try.prog.cellsOf E = n) (hn : 0 < n) {fuel : Nat}
    (one : ∀ (m : Nat) (cs : List Value) (y : DataW H × List MemPlace), m < fuel → DataW.trod enc Try.prog w 0 sp hd m E cs = some y → cs.length = n → ∃ x : α, ∀ b off : Nat, (∀ i, i < n → w.cell? ⟨b, off + i, none⟩ = cs[i]?) → L w 0 w.heap.size b off x)
    {cs : List Value} {x : DataW H × List MemPlace} (h : DataW.trod enc Try.prog w 0 sp hd fuel T cs = some x) : ∃ a len cap l, cs = [.slice a len cap] ∧ RowsAt n L w 0 w.heap.size a len l ∧ len ≤ cap := by
  rcases DataW.trod_slice hu h with ⟨rfl, _⟩ | ⟨⟨b, off, spot⟩, len, cap, elems, rest, m, rfl, rfl, _, _, hlc, hm, hlen, hel, _⟩
  · exact ⟨none, 0, 0, [], rfl, ⟨rfl, Nat.zero_le _, .inl rfl⟩, Nat.le_refl _⟩
  · rw [hco] at hel
    by_cases h0 : len = 0
    · subst h0
      exact ⟨_, 0, cap, [], rfl, ⟨rfl, Nat.zero_le _, .inl rfl⟩, Nat.zero_le _⟩
    have key : ∀ i, i < len → ∃ cs', w.cells? 0 ((⟨b, off, spot⟩ : Addr).add (i * n)) n = some cs' ∧ ∃ y, DataW.trod enc Try.prog w 0 sp hd m E cs' = some y := fun i hi => by
      have := hel i hi
      rw [List.getElem?_eq_getElem (by omega)] at this
      obtain ⟨cs', h1, h2⟩ := Option.bind_eq_some_iff.1 this
      exact ⟨cs', h1, _, h2⟩
    have cell0 : ∃ v, w.cell? (((⟨b, off, spot⟩ : Addr).add (0 * n)).add 0) = some v := by
      obtain ⟨cs', h1, y, h2⟩ := key 0 (by omega)
      obtain ⟨_, hl, hat⟩ := World.cells?_some h1
      exact ⟨cs'[0]'(by omega), by rw [hat 0 hn, List.getElem?_eq_getElem (by omega)]⟩
    have hs : spot = none := by
      obtain ⟨v, hv⟩ := cell0
      simpa [Addr.add] using World.cell?_spot hv
    subst hs
    have hbl : b < w.heap.size := by
      obtain ⟨v, hv⟩ := cell0
      rw [add_plain, add_plain] at hv
      exact lt_of_cell hv
    have one' : ∀ i, i < len → ∃ x : α, L w 0 w.heap.size b (off + i * n) x := fun i hi => by
      obtain ⟨cs', h1, y, h2⟩ := key i hi
      obtain ⟨_, hl, hat⟩ := World.cells?_some h1
      obtain ⟨x, hx⟩ := one m cs' y (by omega) h2 hl
      exact ⟨x, hx b (off + i * n) fun j hj => by have := hat j hj; rwa [add_plain, add_plain] at this⟩
    have row : ∀ j, j ≤ len → ∃ l : List α, l.length = j ∧ ∀ (i : Nat) (x : α), l[i]? = some x → L w 0 w.heap.size b (off + i * n) x := by
      intro j
      induction j with
      | zero => intro _; exact ⟨[], rfl, fun i x h => by simp at h⟩
      | succ j ihj =>
        intro hj
        obtain ⟨l, hll, hl⟩ := ihj (by omega)
        obtain ⟨x, hx⟩ := one' j (by omega)
        refine ⟨l ++ [x], by rw [List.length_append, hll]; rfl, fun i y hy => ?_⟩
        by_cases hi : i < j
        · rw [List.getElem?_append_left (by omega)] at hy
          exact hl i y hy
        · rw [List.getElem?_append_right (by omega)] at hy
          have e : i = j := by
            have h2 := (List.getElem?_eq_some_iff.1 hy).1
            simp at h2; omega
          subst e
          rw [hll, Nat.sub_self] at hy
          simp at hy
          subst hy; exact hx
    obtain ⟨l, hll, hl⟩ := row len (Nat.le_refl _)
    unfold maxLen at hm
    exact ⟨_, len, cap, l, rfl, ⟨hll, by omega, .inr ⟨b, off, rfl, Nat.zero_le _, hbl, hl⟩⟩, hlc⟩
/-- A slice whose elements open as things. -/
theorem openRow {α : Type} {n : Nat} {L : World → Nat → Nat → Nat → Nat → α → Prop} {T E : TypeId} (hu : Try.prog.underlying T = some (.slice E)) (hco : Try.prog.cellsOf E = n) (hn : 0 < n)
    (one : ∀ (m : Nat) (cs : List Value) (y : DataW H × List MemPlace), DataW.trod enc Try.prog w 0 sp hd m E cs = some y → cs.length = n → ∃ x : α, ∀ b off : Nat, (∀ i, i < n → w.cell? ⟨b, off + i, none⟩ = cs[i]?) → L w 0 w.heap.size b off x)
    {fuel : Nat} {cs : List Value} {x : DataW H × List MemPlace} (h : DataW.trod enc Try.prog w 0 sp hd fuel T cs = some x) : ∃ a len cap l, cs = [.slice a len cap] ∧ RowsAt n L w 0 w.heap.size a len l ∧ len ≤ cap :=
  openRowF hu hco hn (fun m cs y _ h hl => one m cs y h hl) h
theorem rowN_of {w : World} {b off : Nat} {l : List Value} (h : ∀ i, i < l.length → w.cell? ⟨b, off + i, none⟩ = l[i]?) : RowN w b off l := fun j v hj => (h j (List.getElem?_eq_some_iff.1 hj).1).trans hj
end
end Go.Proofs.Ytfcpihoegfbofaa.Rw
