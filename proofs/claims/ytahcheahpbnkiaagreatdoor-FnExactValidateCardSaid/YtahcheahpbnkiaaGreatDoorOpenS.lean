/-
  What an argument reads as, opened: rows of things, a schema in memory. Conditions: none.
-/
import Derived.Test.YtahcheahpbnkiaaGreatDoorRows
import Derived.Test.YtahcheahpbnkiaaGreatDoorSch
import Derived.ChangeArms
import Derived.ChangeShapes
import Derived.WideShapes
import Derived.OpenShut
namespace Go.Proofs.YtahcheahpbnkiaaGreatDoor.Rw
open Go.RowKit Go.ChangeShapes Go.WideShapes
set_option linter.unusedVariables false
set_option maxRecDepth 100000

theorem kst1 {w wr w' : World} {v0 : Value} (hb : Below w.heap.size w wr) (hz : w.heap.size < wr.heap.size) (k0 : wr.cell? ⟨w.heap.size, 0, none⟩ = some v0) (h : Below wr.heap.size wr w') :
    Below w.heap.size w w' ∧ w.heap.size < w'.heap.size ∧ w'.cell? ⟨w.heap.size, 0, none⟩ = some v0 :=
  ⟨hb.trans (h.mono hb.size), Nat.lt_of_lt_of_le hz h.size, (h.cell (p := ⟨w.heap.size, 0, none⟩) hz).trans k0⟩
theorem coInt : Tryz.prog.cellsOf 2 = 1 := by kernel_rfl
theorem coBool : Tryz.prog.cellsOf 4 = 1 := by kernel_rfl
theorem coStr : Tryz.prog.cellsOf 9 = 1 := by kernel_rfl
theorem coStrs : Tryz.prog.cellsOf 57 = 1 := by kernel_rfl
theorem coFields : Tryz.prog.cellsOf 231 = 1 := by kernel_rfl
theorem coTypes : Tryz.prog.cellsOf 71 = 1 := by kernel_rfl
theorem coField : Tryz.prog.cellsOf 325 = 6 := by kernel_rfl
theorem coType : Tryz.prog.cellsOf 233 = 5 := by kernel_rfl
theorem coSchema : Tryz.prog.cellsOf 73 = 1 := by kernel_rfl
section
variable {H : Type} {enc : TypeId × Value → H} {w : World} {sp : Nat → Bool} {hd : Bool}

theorem fldS {m off : Nat} {T : TypeId} {cs : List Value} {x : Option (DataW H × List MemPlace)} {v : Value} (h : DataW.trod enc Tryz.prog w 0 sp hd m T ((cs.drop off).take (Tryz.prog.cellsOf T)) = x) (h1 : Tryz.prog.cellsOf T = 1) (hv : (cs.drop off).take 1 = [v]) :
    DataW.trod enc Tryz.prog w 0 sp hd m T [v] = x := by rw [h1, hv] at h; exact h
/-- A slice whose elements open as things. -/
theorem openRow {α : Type} {n : Nat} {L : World → Nat → Nat → Nat → Nat → α → Prop} {T E : TypeId} (hu : Tryz.prog.underlying T = some (.slice E)) (hco : Tryz.prog.cellsOf E = n) (hn : 0 < n)
    (one : ∀ (m : Nat) (cs : List Value) (y : DataW H × List MemPlace), DataW.trod enc Tryz.prog w 0 sp hd m E cs = some y → cs.length = n → ∃ x : α, ∀ b off : Nat, (∀ i, i < n → w.cell? ⟨b, off + i, none⟩ = cs[i]?) → L w 0 w.heap.size b off x)
    {fuel : Nat} {cs : List Value} {x : DataW H × List MemPlace} (h : DataW.trod enc Tryz.prog w 0 sp hd fuel T cs = some x) : ∃ a len cap l, cs = [.slice a len cap] ∧ RowsAt n L w 0 w.heap.size a len l ∧ len ≤ cap := by
  rcases DataW.trod_slice hu h with ⟨rfl, _⟩ | ⟨⟨b, off, spot⟩, len, cap, elems, rest, m, rfl, rfl, _, _, hlc, hm, hlen, hel, _⟩
  · exact ⟨none, 0, 0, [], rfl, ⟨rfl, Nat.zero_le _, .inl rfl⟩, Nat.le_refl _⟩
  · rw [hco] at hel
    by_cases h0 : len = 0
    · subst h0
      exact ⟨_, 0, cap, [], rfl, ⟨rfl, Nat.zero_le _, .inl rfl⟩, Nat.zero_le _⟩
    have key : ∀ i, i < len → ∃ cs', w.cells? 0 ((⟨b, off, spot⟩ : Addr).add (i * n)) n = some cs' ∧ ∃ y, DataW.trod enc Tryz.prog w 0 sp hd m E cs' = some y := fun i hi => by
      have := hel i hi
      rw [List.getElem?_eq_getElem (by omega)] at this
      obtain ⟨cs', h1, h2⟩ := Option.bind_eq_some_iff.1 this
      exact ⟨cs', h1, _, h2⟩
    have cell0 : ∃ v, w.cell? (((⟨b, off, spot⟩ : Addr).add (0 * n)).add 0) = some v := by
      obtain ⟨cs', h1, y, h2⟩ := key 0 (by omega)
      obtain ⟨_, hl, hat⟩ := World.cells?_some h1
      exact ⟨cs'[0]'(by omega), by rw [hat 0 hn, List.getElem?_eq_getElem (by omega)]⟩
    have hs : spot = none := by
      obtain ⟨v, hv⟩ := cell0
      simpa [Addr.add] using World.cell?_spot hv
    subst hs
    have hbl : b < w.heap.size := by
      obtain ⟨v, hv⟩ := cell0
      rw [add_plain, add_plain] at hv
      exact lt_of_cell hv
    have one' : ∀ i, i < len → ∃ x : α, L w 0 w.heap.size b (off + i * n) x := fun i hi => by
      obtain ⟨cs', h1, y, h2⟩ := key i hi
      obtain ⟨_, hl, hat⟩ := World.cells?_some h1
      obtain ⟨x, hx⟩ := one m cs' y h2 hl
      exact ⟨x, hx b (off + i * n) fun j hj => by have := hat j hj; rwa [add_plain, add_plain] at this⟩
    have row : ∀ j, j ≤ len → ∃ l : List α, l.length = j ∧ ∀ (i : Nat) (x : α), l[i]? = some x → L w 0 w.heap.size b (off + i * n) x := by
      intro j
      induction j with
      | zero => intro _; exact ⟨[], rfl, fun i x h => by simp at h⟩
      | succ j ihj =>
        intro hj
        obtain ⟨l, hll, hl⟩ := ihj (by omega)
        obtain ⟨x, hx⟩ := one' j (by omega)
        refine ⟨l ++ [x], by rw [List.length_append, hll]; rfl, fun i y hy => ?_⟩
        by_cases hi : i < j
        · rw [List.getElem?_append_left (by omega)] at hy
          exact hl i y hy
        · rw [List.getElem?_append_right (by omega)] at hy
          have e : i = j := by
            have h2 := (List.getElem?_eq_some_iff.1 hy).1
            simp at h2; omega
          subst e
          rw [hll, Nat.sub_self] at hy
          simp at hy
          subst hy; exact hx
    obtain ⟨l, hll, hl⟩ := row len (Nat.le_refl _)
    unfold maxLen at hm
    exact ⟨_, len, cap, l, rfl, ⟨hll, by omega, .inr ⟨b, off, rfl, Nat.zero_le _, hbl, hl⟩⟩, hlc⟩
theorem openTexts {fuel : Nat} {cs : List Value} {x : DataW H × List MemPlace} (h : DataW.trod enc Tryz.prog w 0 sp hd fuel 57 cs = some x) : ∃ a len cap l, cs = [.slice a len cap] ∧ TextsAt w 0 w.heap.size a len l ∧ len ≤ cap :=
  openRow Tryz.underlying57 coStr (by omega) (fun m cs y h hl => by
    obtain ⟨s, rfl, _, ws⟩ := DataW.trod_string Tryz.underlying9 h
    unfold maxLen at ws
    exact ⟨s, fun b off hc => ⟨by unfold OkS; omega, hc 0 (by omega)⟩⟩) h
/-- One field, its six cells. -/
theorem openField {n : Nat} {cs : List Value} {y : DataW H × List MemPlace} (h : DataW.trod enc Tryz.prog w 0 sp hd n 325 cs = some y) : ∃ x : FieldP, x.ok ∧ cs = x.cells := by
  obtain ⟨xs, m, hn, _, hl, hxl, hf⟩ := DataW.trod_struct Tryz.underlying325 h
  rw [coField] at hl
  match cs, hl with
  | [c0, c1, c2, c3, c4, c5], _ =>
    match xs, hxl with
    | [x0, x1, x2, x3, x4, x5], _ =>
      have h0 := fldS (T := 9) (off := 0) (v := c0) (x := some x0) (hf 0 _ rfl) coStr rfl
      have h1 := fldS (T := 9) (off := 1) (v := c1) (x := some x1) (hf 1 _ rfl) coStr rfl
      have h2 := fldS (T := 4) (off := 2) (v := c2) (x := some x2) (hf 2 _ rfl) coBool rfl
      have h3 := fldS (T := 4) (off := 3) (v := c3) (x := some x3) (hf 3 _ rfl) coBool rfl
      have h4 := fldS (T := 2) (off := 4) (v := c4) (x := some x4) (hf 4 _ rfl) coInt rfl
      have h5 := fldS (T := 2) (off := 5) (v := c5) (x := some x5) (hf 5 _ rfl) coInt rfl
      obtain ⟨nm, e0, _, w0⟩ := DataW.trod_string Tryz.underlying9 h0
      obtain ⟨tp, e1, _, w1⟩ := DataW.trod_string Tryz.underlying9 h1
      obtain ⟨ls, e2, _⟩ := DataW.trod_bool Tryz.underlying4 h2
      obtain ⟨mu, e3, _⟩ := DataW.trod_bool Tryz.underlying4 h3
      obtain ⟨sz, e4, _, w4⟩ := DataW.trod_int Tryz.underlying2 h4
      obtain ⟨cp, e5, _, w5⟩ := DataW.trod_int Tryz.underlying2 h5
      cases e0; cases e1; cases e2; cases e3; cases e4; cases e5
      unfold maxLen at w0 w1
      exact ⟨⟨nm, tp, ls, mu, sz, cp⟩, ⟨by unfold OkS; omega, by unfold OkS; omega, bounds_i64 w4, bounds_i64 w5⟩, rfl⟩
theorem rowN_of {w : World} {b off : Nat} {l : List Value} (h : ∀ i, i < l.length → w.cell? ⟨b, off + i, none⟩ = l[i]?) : RowN w b off l := fun j v hj => (h j (List.getElem?_eq_some_iff.1 hj).1).trans hj
theorem openFields {fuel : Nat} {cs : List Value} {x : DataW H × List MemPlace} (h : DataW.trod enc Tryz.prog w 0 sp hd fuel 231 cs = some x) : ∃ a len cap l, cs = [.slice a len cap] ∧ FieldsAt w 0 w.heap.size a len l ∧ len ≤ cap :=
  openRow Tryz.underlying231 coField (by omega) (fun m cs y h hl => by
    obtain ⟨x, hx, rfl⟩ := openField h
    exact ⟨x, fun b off hc => ⟨hx, rowN_of hc⟩⟩) h
/-- One type, its five cells. -/
theorem openType {n : Nat} {cs : List Value} {y : DataW H × List MemPlace} (h : DataW.trod enc Tryz.prog w 0 sp hd n 233 cs = some y) :
    ∃ (x : TypeP) (a : Option Addr) (ca : Nat) (c : Option Addr) (cc : Nat), cs = x.cells a ca c cc ∧ x.ok ∧ (FieldsAt w 0 w.heap.size a x.fields.length x.fields ∧ x.fields.length ≤ ca) ∧ TextsAt w 0 w.heap.size c x.members.length x.members ∧ x.members.length ≤ cc := by
  obtain ⟨xs, m, hn, _, hl, hxl, hf⟩ := DataW.trod_struct Tryz.underlying233 h
  rw [coType] at hl
  match cs, hl with
  | [c0, c1, c2, c3, c4], _ =>
    match xs, hxl with
    | [x0, x1, x2, x3, x4], _ =>
      have h0 := fldS (T := 9) (off := 0) (v := c0) (x := some x0) (hf 0 _ rfl) coStr rfl
      have h1 := fldS (T := 2) (off := 1) (v := c1) (x := some x1) (hf 1 _ rfl) coInt rfl
      have h2 := fldS (T := 2) (off := 2) (v := c2) (x := some x2) (hf 2 _ rfl) coInt rfl
      have h3 := fldS (T := 231) (off := 3) (v := c3) (x := some x3) (hf 3 _ rfl) coFields rfl
      have h4 := fldS (T := 57) (off := 4) (v := c4) (x := some x4) (hf 4 _ rfl) coStrs rfl
      obtain ⟨nm, e0, _, w0⟩ := DataW.trod_string Tryz.underlying9 h0
      obtain ⟨kd, e1, _, w1⟩ := DataW.trod_int Tryz.underlying2 h1
      obtain ⟨by_, e2, _, w2⟩ := DataW.trod_int Tryz.underlying2 h2
      obtain ⟨a, len, ca, fs, e3, hfs, hca⟩ := openFields h3
      obtain ⟨c, len', cc, ms, e4, hms, hcc⟩ := openTexts h4
      cases e0; cases e1; cases e2; cases e3; cases e4
      obtain rfl := hfs.1
      obtain rfl := hms.1
      unfold maxLen at w0
      exact ⟨⟨nm, kd, by_, fs, ms⟩, a, ca, c, cc, rfl, ⟨by unfold OkS; omega, bounds_i64 w1, bounds_i64 w2⟩, ⟨hfs, hca⟩, hms, hcc⟩
theorem openTypes {fuel : Nat} {cs : List Value} {x : DataW H × List MemPlace} (h : DataW.trod enc Tryz.prog w 0 sp hd fuel 71 cs = some x) : ∃ a len cap l, cs = [.slice a len cap] ∧ TypesAt w 0 w.heap.size a len l ∧ len ≤ cap :=
  openRow Tryz.underlying71 coType (by omega) (fun m cs y h hl => by
    obtain ⟨x, a, ca, c, cc, rfl, hk, h2, h3⟩ := openType h
    exact ⟨x, fun b off hc => ⟨hk, a, ca, c, cc, rowN_of hc, h2, h3⟩⟩) h
/-- A schema, as an argument. -/
theorem openSchema {v : Value} {d : DataW H} {ps : List MemPlace} {r : Reach} {b0 : Nat} (hv : Value.okWide Tryz.prog w r b0 73 v) (h : DataW.Trod enc Tryz.prog w 0 sp hd 73 v d ps) : ∃ s : List TypeP, SchemaAt w 0 w.heap.size v s := by
  obtain ⟨cs, rfl, hsz⟩ := okWide_struct Tryz.underlying73 hv
  obtain ⟨l⟩ := cs
  match l, hsz.trans coSchema with
  | [c0], _ =>
    obtain ⟨fuel, hf⟩ := h
    obtain ⟨xs, m, _, _, _, hxl, hg⟩ := DataW.trod_struct Tryz.underlying73 hf
    match xs, hxl with
    | [x0], _ =>
      have h0 := fldS (T := 71) (off := 0) (v := c0) (x := some x0) (hg 0 _ rfl) coTypes rfl
      obtain ⟨a, len, ca, s, e0, hs, hc⟩ := openTypes h0
      cases e0
      obtain rfl := hs.1
      exact ⟨s, a, ca, rfl, hs, hc⟩
end
end Go.Proofs.YtahcheahpbnkiaaGreatDoor.Rw
