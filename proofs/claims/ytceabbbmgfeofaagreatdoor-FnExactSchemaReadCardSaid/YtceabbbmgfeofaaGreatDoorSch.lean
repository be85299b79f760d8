/-
  What there is (fields, types, a schema) in memory; no program. Conditions: as each theorem says.
-/
import Derived.Test.YtceabbbmgfeofaaGreatDoorRows
import Derived.Test.YtceabbbmgfeofaaGreatDoorRow
namespace Go.Proofs.YtceabbbmgfeofaaGreatDoor.Rw
open Go.RowKit
set_option linter.unusedVariables false
set_option maxRecDepth 100000

structure FieldP where
  name : ByteArray
  typ : ByteArray
  list : Bool
  must : Bool
  size : Int
  cap : Int
def FieldP.ok (x : FieldP) : Prop := OkS x.name ∧ OkS x.typ ∧ OkI x.size ∧ OkI x.cap
def FieldP.cells (x : FieldP) : List Value := [.string x.name, .string x.typ, .bool x.list, .bool x.must, .int .i64 x.size, .int .i64 x.cap]
def FieldLie (w : World) (_A _B b o : Nat) (x : FieldP) : Prop := x.ok ∧ RowN w b o x.cells
theorem fieldLies : Lies 6 FieldLie := ⟨fun h _ he => ⟨h.1, h.2.same fun j h1 h2 => he j h1 (by simpa [FieldP.cells] using h2)⟩, fun h _ _ => h⟩
theorem row6 {w : World} {b o : Nat} {v0 v1 v2 v3 v4 v5 : Value} (h : RowN w b o [v0, v1, v2, v3, v4, v5]) :
    w.cell? ⟨b, o, none⟩ = some v0 ∧ w.cell? ⟨b, o + 1, none⟩ = some v1 ∧ w.cell? ⟨b, o + 2, none⟩ = some v2 ∧ w.cell? ⟨b, o + 3, none⟩ = some v3 ∧ w.cell? ⟨b, o + 4, none⟩ = some v4 ∧ w.cell? ⟨b, o + 5, none⟩ = some v5 :=
  ⟨by have := h 0 _ rfl; rwa [Nat.add_zero] at this, h 1 _ rfl, h 2 _ rfl, h 3 _ rfl, h 4 _ rfl, h 5 _ rfl⟩
theorem row5 {w : World} {b o : Nat} {v0 v1 v2 v3 v4 : Value} (h : RowN w b o [v0, v1, v2, v3, v4]) :
    w.cell? ⟨b, o, none⟩ = some v0 ∧ w.cell? ⟨b, o + 1, none⟩ = some v1 ∧ w.cell? ⟨b, o + 2, none⟩ = some v2 ∧ w.cell? ⟨b, o + 3, none⟩ = some v3 ∧ w.cell? ⟨b, o + 4, none⟩ = some v4 :=
  ⟨by have := h 0 _ rfl; rwa [Nat.add_zero] at this, h 1 _ rfl, h 2 _ rfl, h 3 _ rfl, h 4 _ rfl⟩
theorem row5z {w : World} {b : Nat} {v0 v1 v2 v3 v4 : Value} (h : RowN w b 0 [v0, v1, v2, v3, v4]) :
    w.cell? ⟨b, 0, none⟩ = some v0 ∧ w.cell? ⟨b, 1, none⟩ = some v1 ∧ w.cell? ⟨b, 2, none⟩ = some v2 ∧ w.cell? ⟨b, 3, none⟩ = some v3 ∧ w.cell? ⟨b, 4, none⟩ = some v4 :=
  ⟨h 0 _ rfl, h 1 _ rfl, h 2 _ rfl, h 3 _ rfl, h 4 _ rfl⟩
theorem mk6 {w : World} {b o : Nat} {v0 v1 v2 v3 v4 v5 : Value} (h0 : w.cell? ⟨b, o, none⟩ = some v0) (h1 : w.cell? ⟨b, o + 1, none⟩ = some v1) (h2 : w.cell? ⟨b, o + 2, none⟩ = some v2) (h3 : w.cell? ⟨b, o + 3, none⟩ = some v3) (h4 : w.cell? ⟨b, o + 4, none⟩ = some v4) (h5 : w.cell? ⟨b, o + 5, none⟩ = some v5) : RowN w b o [v0, v1, v2, v3, v4, v5] := fun j v hj => by
  match j, hj with
  | 0, hj => cases hj; exact h0
  | 1, hj => cases hj; exact h1
  | 2, hj => cases hj; exact h2
  | 3, hj => cases hj; exact h3
  | 4, hj => cases hj; exact h4
  | 5, hj => cases hj; exact h5
theorem mk5 {w : World} {b o : Nat} {v0 v1 v2 v3 v4 : Value} (h0 : w.cell? ⟨b, o, none⟩ = some v0) (h1 : w.cell? ⟨b, o + 1, none⟩ = some v1) (h2 : w.cell? ⟨b, o + 2, none⟩ = some v2) (h3 : w.cell? ⟨b, o + 3, none⟩ = some v3) (h4 : w.cell? ⟨b, o + 4, none⟩ = some v4) : RowN w b o [v0, v1, v2, v3, v4] := fun j v hj => by
  match j, hj with
  | 0, hj => cases hj; exact h0
  | 1, hj => cases hj; exact h1
  | 2, hj => cases hj; exact h2
  | 3, hj => cases hj; exact h3
  | 4, hj => cases hj; exact h4
theorem keep6 {w1 : World} {g : Nat} {v0 v1 v2 v3 v4 v5 : Value} {T : TypeId} (h1 : w1.heap[g]? = some (.cells #[v0, v1, v2, v3, v4, v5] T (0, 0))) :
    (w1.cell? ⟨g, 0, none⟩ = some v0 ∧ w1.cell? ⟨g, 1, none⟩ = some v1 ∧ w1.cell? ⟨g, 2, none⟩ = some v2 ∧ w1.cell? ⟨g, 3, none⟩ = some v3 ∧ w1.cell? ⟨g, 4, none⟩ = some v4 ∧ w1.cell? ⟨g, 5, none⟩ = some v5) ∧
    (w1.frozen? ⟨g, 0, none⟩ = false ∧ w1.frozen? ⟨g, 1, none⟩ = false ∧ w1.frozen? ⟨g, 2, none⟩ = false ∧ w1.frozen? ⟨g, 3, none⟩ = false ∧ w1.frozen? ⟨g, 4, none⟩ = false ∧ w1.frozen? ⟨g, 5, none⟩ = false) := by
  simp [World.cell?, World.frozen?, h1]
theorem keep5 {w1 : World} {g : Nat} {v0 v1 v2 v3 v4 : Value} {T : TypeId} (h1 : w1.heap[g]? = some (.cells #[v0, v1, v2, v3, v4] T (0, 0))) :
    (w1.cell? ⟨g, 0, none⟩ = some v0 ∧ w1.cell? ⟨g, 1, none⟩ = some v1 ∧ w1.cell? ⟨g, 2, none⟩ = some v2 ∧ w1.cell? ⟨g, 3, none⟩ = some v3 ∧ w1.cell? ⟨g, 4, none⟩ = some v4) ∧
    (w1.frozen? ⟨g, 0, none⟩ = false ∧ w1.frozen? ⟨g, 1, none⟩ = false ∧ w1.frozen? ⟨g, 2, none⟩ = false ∧ w1.frozen? ⟨g, 3, none⟩ = false ∧ w1.frozen? ⟨g, 4, none⟩ = false) := by
  simp [World.cell?, World.frozen?, h1]
theorem keep3 {w1 : World} {g : Nat} {v0 v1 v2 : Value} {T : TypeId} (h1 : w1.heap[g]? = some (.cells #[v0, v1, v2] T (0, 0))) :
    (w1.cell? ⟨g, 0, none⟩ = some v0 ∧ w1.cell? ⟨g, 1, none⟩ = some v1 ∧ w1.cell? ⟨g, 2, none⟩ = some v2) ∧ (w1.frozen? ⟨g, 0, none⟩ = false ∧ w1.frozen? ⟨g, 1, none⟩ = false ∧ w1.frozen? ⟨g, 2, none⟩ = false) := by
  simp [World.cell?, World.frozen?, h1]
theorem keep2 {w1 : World} {g : Nat} {v0 v1 : Value} {T : TypeId} (h1 : w1.heap[g]? = some (.cells #[v0, v1] T (0, 0))) :
    (w1.cell? ⟨g, 0, none⟩ = some v0 ∧ w1.cell? ⟨g, 1, none⟩ = some v1) ∧ (w1.frozen? ⟨g, 0, none⟩ = false ∧ w1.frozen? ⟨g, 1, none⟩ = false) := by
  simp [World.cell?, World.frozen?, h1]
theorem keep1 {w1 : World} {g : Nat} {v0 : Value} {T : TypeId} (h1 : w1.heap[g]? = some (.cells #[v0] T (0, 0))) : w1.cell? ⟨g, 0, none⟩ = some v0 ∧ w1.frozen? ⟨g, 0, none⟩ = false := by
  simp [World.cell?, World.frozen?, h1]

abbrev FieldsAt (w : World) (A B : Nat) (a : Option Addr) (len : Nat) (l : List FieldP) : Prop := RowsAt 6 FieldLie w A B a len l
abbrev FieldsX (w : World) (A B : Nat) (a : Option Addr) (len : Nat) (l : List FieldP) : Prop := RowsX 6 FieldLie w A B a len l
structure TypeP where
  name : ByteArray
  kind : Int
  bytes : Int
  fields : List FieldP
  members : List ByteArray
def TypeP.ok (x : TypeP) : Prop := OkS x.name ∧ OkI x.kind ∧ OkI x.bytes
def TypeP.cells (x : TypeP) (a : Option Addr) (ca : Nat) (c : Option Addr) (cc : Nat) : List Value := [.string x.name, .int .i64 x.kind, .int .i64 x.bytes, .slice a x.fields.length ca, .slice c x.members.length cc]
def TypeLie (w : World) (A B b o : Nat) (x : TypeP) : Prop :=
  x.ok ∧ ∃ a ca c cc, RowN w b o (x.cells a ca c cc) ∧ (FieldsAt w A B a x.fields.length x.fields ∧ x.fields.length ≤ ca) ∧ TextsAt w A B c x.members.length x.members ∧ x.members.length ≤ cc
def TypeLieX (w : World) (A B b o : Nat) (x : TypeP) : Prop :=
  x.ok ∧ ∃ a ca c cc M, RowN w b o (x.cells a ca c cc) ∧ (FieldsX w A M a x.fields.length x.fields ∧ x.fields.length ≤ ca) ∧ TextsX w M B c x.members.length x.members ∧ x.members.length ≤ cc
theorem typeLies : Lies 5 TypeLie where
  frame h hw he := by
    obtain ⟨hk, a, ca, c, cc, h1, h2, h3⟩ := h
    exact ⟨hk, a, ca, c, cc, h1.same fun j j1 j2 => he j j1 (by simpa [TypeP.cells] using j2), ⟨h2.1.block fieldLies hw, h2.2⟩, h3.1.block textLies hw, h3.2⟩
  wide h hA hB := by
    obtain ⟨hk, a, ca, c, cc, h1, h2, h3⟩ := h
    exact ⟨hk, a, ca, c, cc, h1, ⟨h2.1.wide fieldLies hA hB, h2.2⟩, h3.1.wide textLies hA hB, h3.2⟩
theorem typeLiesX : Lies 5 TypeLieX where
  frame h hw he := by
    obtain ⟨hk, a, ca, c, cc, M, h1, h2, h3⟩ := h
    have e1 := h2.1.2.2.1
    have e2 := h3.1.2.2.1
    exact ⟨hk, a, ca, c, cc, M, h1.same fun j j1 j2 => he j j1 (by simpa [TypeP.cells] using j2), ⟨h2.1.block fieldLies fun q q1 q2 => hw q q1 (by omega), h2.2⟩, h3.1.block textLies fun q q1 q2 => hw q (by omega) q2, h3.2⟩
  wide h hA hB := by
    obtain ⟨hk, a, ca, c, cc, M, h1, h2, h3⟩ := h
    exact ⟨hk, a, ca, c, cc, M, h1, ⟨h2.1.wide hA (Nat.le_refl _), h2.2⟩, h3.1.wide (Nat.le_refl _) hB, h3.2⟩
theorem TypeLieX.lie {w : World} {A B b o : Nat} {x : TypeP} (h : TypeLieX w A B b o x) : TypeLie w A B b o x := by
  obtain ⟨hk, a, ca, c, cc, M, h1, h2, h3⟩ := h
  have e1 := h2.1.2.2.1
  have e2 := h3.1.2.2.1
  exact ⟨hk, a, ca, c, cc, h1, ⟨(h2.1.at_ fieldLies id).wide fieldLies (Nat.le_refl _) e2, h2.2⟩, (h3.1.at_ textLies id).wide textLies e1 (Nat.le_refl _), h3.2⟩
abbrev TypesAt (w : World) (A B : Nat) (a : Option Addr) (len : Nat) (l : List TypeP) : Prop := RowsAt 5 TypeLie w A B a len l
abbrev TypesX (w : World) (A B : Nat) (a : Option Addr) (len : Nat) (l : List TypeP) : Prop := RowsX 5 TypeLieX w A B a len l
/-- A type as a value. -/
def TypeAt (w : World) (A B : Nat) (v : Value) (x : TypeP) : Prop :=
  ∃ a ca c cc, v = .agg (x.cells a ca c cc).toArray ∧ x.ok ∧ (FieldsAt w A B a x.fields.length x.fields ∧ x.fields.length ≤ ca) ∧ TextsAt w A B c x.members.length x.members ∧ x.members.length ≤ cc
def TypeX (w : World) (A B : Nat) (v : Value) (x : TypeP) : Prop :=
  ∃ a ca c cc M, v = .agg (x.cells a ca c cc).toArray ∧ x.ok ∧ (FieldsX w A M a x.fields.length x.fields ∧ x.fields.length ≤ ca) ∧ TextsX w M B c x.members.length x.members ∧ x.members.length ≤ cc
theorem TypeX.at_ {w : World} {A B : Nat} {v : Value} {x : TypeP} (h : TypeX w A B v x) : TypeAt w A B v x := by
  obtain ⟨a, ca, c, cc, M, hv, hk, h2, h3⟩ := h
  have e1 := h2.1.2.2.1
  have e2 := h3.1.2.2.1
  exact ⟨a, ca, c, cc, hv, hk, ⟨(h2.1.at_ fieldLies id).wide fieldLies (Nat.le_refl _) e2, h2.2⟩, (h3.1.at_ textLies id).wide textLies e1 (Nat.le_refl _), h3.2⟩
theorem TypeAt.below {w w' : World} {A B C : Nat} {v : Value} {x : TypeP} (h : TypeAt w A B v x) (hB : B ≤ C) (g : Below C w w') : TypeAt w' A B v x := by
  obtain ⟨a, ca, c, cc, hv, hk, h2, h3⟩ := h
  exact ⟨a, ca, c, cc, hv, hk, ⟨h2.1.below fieldLies hB g, h2.2⟩, h3.1.below textLies hB g, h3.2⟩
theorem TypeAt.wide {w : World} {A B A' B' : Nat} {v : Value} {x : TypeP} (h : TypeAt w A B v x) (hA : A' ≤ A) (hB : B ≤ B') : TypeAt w A' B' v x := by
  obtain ⟨a, ca, c, cc, hv, hk, h2, h3⟩ := h
  exact ⟨a, ca, c, cc, hv, hk, ⟨h2.1.wide fieldLies hA hB, h2.2⟩, h3.1.wide textLies hA hB, h3.2⟩
theorem TypeX.block {w w' : World} {A B : Nat} {v : Value} {x : TypeP} (h : TypeX w A B v x) (hw : ∀ c, A ≤ c → c < B → w'.heap[c]? = w.heap[c]?) : TypeX w' A B v x := by
  obtain ⟨a, ca, c, cc, M, hv, hk, h2, h3⟩ := h
  have e1 := h2.1.2.2.1
  have e2 := h3.1.2.2.1
  exact ⟨a, ca, c, cc, M, hv, hk, ⟨h2.1.block fieldLies fun q q1 q2 => hw q q1 (by omega), h2.2⟩, h3.1.block textLies fun q q1 q2 => hw q (by omega) q2, h3.2⟩
theorem TypeX.below {w w' : World} {A B C : Nat} {v : Value} {x : TypeP} (h : TypeX w A B v x) (hB : B ≤ C) (g : Below C w w') : TypeX w' A B v x := h.block fun c _ hc => g.block c (by omega)
theorem TypeX.wide {w : World} {A B A' B' : Nat} {v : Value} {x : TypeP} (h : TypeX w A B v x) (hA : A' ≤ A) (hB : B ≤ B') : TypeX w A' B' v x := by
  obtain ⟨a, ca, c, cc, M, hv, hk, h2, h3⟩ := h
  exact ⟨a, ca, c, cc, M, hv, hk, ⟨h2.1.wide hA (Nat.le_refl _), h2.2⟩, h3.1.wide (Nat.le_refl _) hB, h3.2⟩
/-- A schema, as the list of its types, as a value. -/
def SchemaAt (w : World) (A B : Nat) (v : Value) (s : List TypeP) : Prop := ∃ a ca, v = .agg #[.slice a s.length ca] ∧ TypesAt w A B a s.length s ∧ s.length ≤ ca
def SchemaX (w : World) (A B : Nat) (v : Value) (s : List TypeP) : Prop := ∃ a ca, v = .agg #[.slice a s.length ca] ∧ TypesX w A B a s.length s ∧ s.length ≤ ca
theorem SchemaX.at_ {w : World} {A B : Nat} {v : Value} {s : List TypeP} (h : SchemaX w A B v s) : SchemaAt w A B v s := by
  obtain ⟨a, ca, hv, h1, h2⟩ := h
  exact ⟨a, ca, hv, h1.at_ typeLies TypeLieX.lie, h2⟩
theorem SchemaAt.below {w w' : World} {A B C : Nat} {v : Value} {s : List TypeP} (h : SchemaAt w A B v s) (hB : B ≤ C) (g : Below C w w') : SchemaAt w' A B v s := by
  obtain ⟨a, ca, hv, h1, h2⟩ := h
  exact ⟨a, ca, hv, h1.below typeLies hB g, h2⟩
theorem SchemaAt.wide {w : World} {A B A' B' : Nat} {v : Value} {s : List TypeP} (h : SchemaAt w A B v s) (hA : A' ≤ A) (hB : B ≤ B') : SchemaAt w A' B' v s := by
  obtain ⟨a, ca, hv, h1, h2⟩ := h
  exact ⟨a, ca, hv, h1.wide typeLies hA hB, h2⟩
theorem SchemaX.block {w w' : World} {A B : Nat} {v : Value} {s : List TypeP} (h : SchemaX w A B v s) (hw : ∀ c, A ≤ c → c < B → w'.heap[c]? = w.heap[c]?) : SchemaX w' A B v s := by
  obtain ⟨a, ca, hv, h1, h2⟩ := h
  exact ⟨a, ca, hv, h1.block typeLiesX hw, h2⟩
theorem SchemaX.below {w w' : World} {A B C : Nat} {v : Value} {s : List TypeP} (h : SchemaX w A B v s) (hB : B ≤ C) (g : Below C w w') : SchemaX w' A B v s := h.block fun c _ hc => g.block c (by omega)
theorem SchemaX.wide {w : World} {A B A' B' : Nat} {v : Value} {s : List TypeP} (h : SchemaX w A B v s) (hA : A' ≤ A) (hB : B ≤ B') : SchemaX w A' B' v s := by
  obtain ⟨a, ca, hv, h1, h2⟩ := h
  exact ⟨a, ca, hv, h1.wide hA hB, h2⟩
/-! ### what things weigh -/
def FieldP.wt (x : FieldP) : Nat := x.name.size + x.typ.size
def TypeP.wt (x : TypeP) : Nat := x.name.size + (x.fields.length + sumOf FieldP.wt x.fields) + (x.members.length + sumOf ByteArray.size x.members)
def schWt (s : List TypeP) : Nat := s.length + sumOf TypeP.wt s
end Go.Proofs.YtceabbbmgfeofaaGreatDoor.Rw
