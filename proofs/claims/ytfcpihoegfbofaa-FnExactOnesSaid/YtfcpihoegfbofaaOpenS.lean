/-
  What an argument reads as, opened: rows of things, a schema in memory. Conditions: none.
-/
import Derived.Test.YtfcpihoegfbofaaRows
import Derived.Test.YtfcpihoegfbofaaSch
import Derived.Test.YtfcpihoegfbofaaOpenT
import Derived.ChangeArms
import Derived.ChangeShapes
import Derived.WideShapes
import Derived.OpenShut
namespace Go.Proofs.Ytfcpihoegfbofaa.Rw
open Go.RowKit Go.ChangeShapes Go.WideShapes
set_option linter.unusedVariables false
set_option maxRecDepth 100000

theorem coBool : Try.prog.cellsOf 4 = 1 := by kernel_rfl
theorem coFields : Try.prog.cellsOf 47 = 1 := by kernel_rfl
theorem coTypes : Try.prog.cellsOf 22 = 1 := by kernel_rfl
theorem coField : Try.prog.cellsOf 76 = 6 := by kernel_rfl
theorem coType : Try.prog.cellsOf 49 = 5 := by kernel_rfl
theorem coSchema : Try.prog.cellsOf 24 = 1 := by kernel_rfl
section
variable {H : Type} {enc : TypeId × Value → H} {w : World} {sp : Nat → Bool} {hd : Bool}
/-- One field, its six cells. -/
theorem openField {n : Nat} {cs : List Value} {y : DataW H × List MemPlace} (h : DataW.trod enc Try.prog w 0 sp hd n 76 cs = some y) : ∃ x : FieldP, x.ok ∧ cs = x.cells := by
  obtain ⟨xs, m, hn, _, hl, hxl, hf⟩ := DataW.trod_struct Try.underlying76 h
  rw [coField] at hl
  match cs, hl with
  | [c0, c1, c2, c3, c4, c5], _ =>
    match xs, hxl with
    | [x0, x1, x2, x3, x4, x5], _ =>
      have h0 := fldS (T := 9) (off := 0) (v := c0) (x := some x0) (hf 0 _ rfl) coStr rfl
      have h1 := fldS (T := 9) (off := 1) (v := c1) (x := some x1) (hf 1 _ rfl) coStr rfl
      have h2 := fldS (T := 4) (off := 2) (v := c2) (x := some x2) (hf 2 _ rfl) coBool rfl
      have h3 := fldS (T := 4) (off := 3) (v := c3) (x := some x3) (hf 3 _ rfl) coBool rfl
      have h4 := fldS (T := 2) (off := 4) (v := c4) (x := some x4) (hf 4 _ rfl) coInt rfl
      have h5 := fldS (T := 2) (off := 5) (v := c5) (x := some x5) (hf 5 _ rfl) coInt rfl
      obtain ⟨nm, e0, _, w0⟩ := DataW.trod_string Try.underlying9 h0
      obtain ⟨tp, e1, _, w1⟩ := DataW.trod_string Try.underlying9 h1
      obtain ⟨ls, e2, _⟩ := DataW.trod_bool Try.underlying4 h2
      obtain ⟨mu, e3, _⟩ := DataW.trod_bool Try.underlying4 h3
      obtain ⟨sz, e4, _, w4⟩ := DataW.trod_int Try.underlying2 h4
      obtain ⟨cp, e5, _, w5⟩ := DataW.trod_int Try.underlying2 h5
      cases e0; cases e1; cases e2; cases e3; cases e4; cases e5
      unfold maxLen at w0 w1
      exact ⟨⟨nm, tp, ls, mu, sz, cp⟩, ⟨by unfold OkS; omega, by unfold OkS; omega, bounds_i64 w4, bounds_i64 w5⟩, rfl⟩
theorem openFields {fuel : Nat} {cs : List Value} {x : DataW H × List MemPlace} (h : DataW.trod enc Try.prog w 0 sp hd fuel 47 cs = some x) : ∃ a len cap l, cs = [.slice a len cap] ∧ FieldsAt w 0 w.heap.size a len l ∧ len ≤ cap :=
  openRow Try.underlying47 coField (by omega) (fun m cs y h hl => by
    obtain ⟨x, hx, rfl⟩ := openField h
    exact ⟨x, fun b off hc => ⟨hx, rowN_of hc⟩⟩) h
/-- One type, its five cells. -/
theorem openType {n : Nat} {cs : List Value} {y : DataW H × List MemPlace} (h : DataW.trod enc Try.prog w 0 sp hd n 49 cs = some y) :
    ∃ (x : TypeP) (a : Option Addr) (ca : Nat) (c : Option Addr) (cc : Nat), cs = x.cells a ca c cc ∧ x.ok ∧ (FieldsAt w 0 w.heap.size a x.fields.length x.fields ∧ x.fields.length ≤ ca) ∧ TextsAt w 0 w.heap.size c x.members.length x.members ∧ x.members.length ≤ cc := by
  obtain ⟨xs, m, hn, _, hl, hxl, hf⟩ := DataW.trod_struct Try.underlying49 h
  rw [coType] at hl
  match cs, hl with
  | [c0, c1, c2, c3, c4], _ =>
    match xs, hxl with
    | [x0, x1, x2, x3, x4], _ =>
      have h0 := fldS (T := 9) (off := 0) (v := c0) (x := some x0) (hf 0 _ rfl) coStr rfl
      have h1 := fldS (T := 2) (off := 1) (v := c1) (x := some x1) (hf 1 _ rfl) coInt rfl
      have h2 := fldS (T := 2) (off := 2) (v := c2) (x := some x2) (hf 2 _ rfl) coInt rfl
      have h3 := fldS (T := 47) (off := 3) (v := c3) (x := some x3) (hf 3 _ rfl) coFields rfl
      have h4 := fldS (T := 36) (off := 4) (v := c4) (x := some x4) (hf 4 _ rfl) coStrs rfl
      obtain ⟨nm, e0, _, w0⟩ := DataW.trod_string Try.underlying9 h0
      obtain ⟨kd, e1, _, w1⟩ := DataW.trod_int Try.underlying2 h1
      obtain ⟨by_, e2, _, w2⟩ := DataW.trod_int Try.underlying2 h2
      obtain ⟨a, len, ca, fs, e3, hfs, hca⟩ := openFields h3
      obtain ⟨c, len', cc, ms, e4, hms, hcc⟩ := openTexts h4
      cases e0; cases e1; cases e2; cases e3; cases e4
      obtain rfl := hfs.1
      obtain rfl := hms.1
      unfold maxLen at w0
      exact ⟨⟨nm, kd, by_, fs, ms⟩, a, ca, c, cc, rfl, ⟨by unfold OkS; omega, bounds_i64 w1, bounds_i64 w2⟩, ⟨hfs, hca⟩, hms, hcc⟩
theorem openTypes {fuel : Nat} {cs : List Value} {x : DataW H × List MemPlace} (h : DataW.trod enc Try.prog w 0 sp hd fuel 22 cs = some x) : ∃ a len cap l, cs = [.slice a len cap] ∧ TypesAt w 0 w.heap.size a len l ∧ len ≤ cap :=
  openRow Try.underlying22 coType (by omega) (fun m cs y h hl => by
    obtain ⟨x, a, ca, c, cc, rfl, hk, h2, h3⟩ := openType h
    exact ⟨x, fun b off hc => ⟨hk, a, ca, c, cc, rowN_of hc, h2, h3⟩⟩) h
/-- A schema, as an argument. -/
theorem openSchema {v : Value} {d : DataW H} {ps : List MemPlace} {r : Reach} {b0 : Nat} (hv : Value.okWide Try.prog w r b0 24 v) (h : DataW.Trod enc Try.prog w 0 sp hd 24 v d ps) : ∃ s : List TypeP, SchemaAt w 0 w.heap.size v s := by
  obtain ⟨cs, rfl, hsz⟩ := okWide_struct Try.underlying24 hv
  obtain ⟨l⟩ := cs
  match l, hsz.trans coSchema with
  | [c0], _ =>
    obtain ⟨fuel, hf⟩ := h
    obtain ⟨xs, m, _, _, _, hxl, hg⟩ := DataW.trod_struct Try.underlying24 hf
    match xs, hxl with
    | [x0], _ =>
      have h0 := fldS (T := 22) (off := 0) (v := c0) (x := some x0) (hg 0 _ rfl) coTypes rfl
      obtain ⟨a, len, ca, s, e0, hs, hc⟩ := openTypes h0
      cases e0
      obtain rfl := hs.1
      exact ⟨s, a, ca, rfl, hs, hc⟩
end
end Go.Proofs.Ytfcpihoegfbofaa.Rw
