/-
  What is wrong first of what a Doc asks of a Schema, plainly. Conditions: none.
-/
import Derived.Test.YtceabbbmgfeofaaGreatDoorRows
import Derived.Test.YtceabbbmgfeofaaGreatDoorFieldP
import Derived.Test.YtceabbbmgfeofaaGreatDoorLoopP
import Derived.Test.YtceabbbmgfeofaaGreatDoorDocB
namespace Go.Proofs.YtceabbbmgfeofaaGreatDoor.Selss
open Go.RowKit Words
set_option linter.unusedVariables false
set_option maxRecDepth 100000

/-- What is told: a text and a code; nothing, of what is right. -/
abbrev WrP := Option (ByteArray × Int)
def WrP.or (a b : WrP) : WrP := match a with
  | none => b
  | some x => some x
theorem WrP.or_none (b : WrP) : WrP.or none b = b := rfl
theorem WrP.or_some (x : ByteArray × Int) (b : WrP) : WrP.or (some x) b = some x := rfl
def compB (s : List Rw.TypeP) (t : ByteArray) : Bool := (Rw.typeIn t s).kind == 2 || (Rw.typeIn t s).kind == 3
/-- A First that a field may not have. -/
def firstBad (f : Rw.FieldP) (n : Int) : Bool := (decide (0 < f.cap) && !(decide (0 ≤ n) && decide (n ≤ f.cap))) || (f.cap == 0 && !(n == -1))
/-- What is wrong of a field beside its Sels. -/
def fieldW (s : List Rw.TypeP) (key nm : ByteArray) (n : Int) (u : Sels) (f : Rw.FieldP) : WrP :=
  if f.name = ⟨#[]⟩ then some (nm, 6)
  else if firstBad f n = true then some (key, 8)
  else if ((Rw.typeIn f.typ s).kind == 1) = decide (0 < u.len) then some (key, 10)
  else none
def selsW (s : List Rw.TypeP) (fr : List FragP) : Sels → ByteArray → WrP
  | .nil, _ => none
  | .cons k key nm n u r, t =>
    WrP.or (if k = 1 then WrP.or (fieldW s key nm n u (Rw.fieldIn nm (Rw.typeIn t s).fields)) (selsW s fr u (Rw.fieldIn nm (Rw.typeIn t s).fields).typ)
      else if k = 2 then (if compB s nm = true then selsW s fr u nm else some (nm, 6))
      else if findN nm fr 0 < 0 then some (nm, 6) else none) (selsW s fr r t)
/-- What is wrong of one of Sels, for a type. -/
def selW (s : List Rw.TypeP) (fr : List FragP) (k : Int) (key nm : ByteArray) (n : Int) (u : Sels) (t : ByteArray) : WrP :=
  if k = 1 then WrP.or (fieldW s key nm n u (Rw.fieldIn nm (Rw.typeIn t s).fields)) (selsW s fr u (Rw.fieldIn nm (Rw.typeIn t s).fields).typ)
  else if k = 2 then (if compB s nm = true then selsW s fr u nm else some (nm, 6))
  else if findN nm fr 0 < 0 then some (nm, 6) else none
theorem selsW_drop (s : List Rw.TypeP) (fr : List FragP) (t : ByteArray) {i : Nat} {l : Sels} {k : Int} {key nm : ByteArray} {n : Int} {u r : Sels} (h : l.drop i = .cons k key nm n u r) :
    selsW s fr (l.drop i) t = WrP.or (selW s fr k key nm n u t) (selsW s fr (l.drop (i + 1)) t) := by
  rw [Sels.drop_succ i l h, h]; rfl
/-- The codes that are told. -/
def WrP.fit (a : WrP) : Prop := ∀ x, a = some x → x.2 = 6 ∨ x.2 = 7 ∨ x.2 = 8 ∨ x.2 = 10
theorem WrP.fit_none : WrP.fit none := fun x h => by cases h
theorem WrP.fit_some {t : ByteArray} {c : Int} (h : c = 6 ∨ c = 7 ∨ c = 8 ∨ c = 10) : WrP.fit (some (t, c)) := fun x e => by cases e; exact h
theorem WrP.fit_or {a b : WrP} (ha : a.fit) (hb : b.fit) : (WrP.or a b).fit := by
  cases a with
  | none => exact hb
  | some x => exact ha
theorem fieldW_fit (s : List Rw.TypeP) (key nm : ByteArray) (n : Int) (u : Sels) (f : Rw.FieldP) : (fieldW s key nm n u f).fit := by
  unfold fieldW
  split
  · exact WrP.fit_some (by omega)
  · split
    · exact WrP.fit_some (by omega)
    · split
      · exact WrP.fit_some (by omega)
      · exact WrP.fit_none
theorem selsW_fit (s : List Rw.TypeP) (fr : List FragP) : ∀ (l : Sels) (t : ByteArray), (selsW s fr l t).fit
  | .nil, _ => WrP.fit_none
  | .cons k key nm n u r, t => by
    unfold selsW
    refine WrP.fit_or ?_ (selsW_fit s fr r t)
    split
    · exact WrP.fit_or (fieldW_fit _ _ _ _ _ _) (selsW_fit s fr u _)
    · split
      · split
        · exact selsW_fit s fr u _
        · exact WrP.fit_some (by omega)
      · split
        · exact WrP.fit_some (by omega)
        · exact WrP.fit_none
theorem selW_fit (s : List Rw.TypeP) (fr : List FragP) (k : Int) (key nm : ByteArray) (n : Int) (u : Sels) (t : ByteArray) : (selW s fr k key nm n u t).fit := by
  unfold selW
  split
  · exact WrP.fit_or (fieldW_fit _ _ _ _ _ _) (selsW_fit s fr u _)
  · split
    · split
      · exact selsW_fit s fr u _
      · exact WrP.fit_some (by omega)
    · split
      · exact WrP.fit_some (by omega)
      · exact WrP.fit_none
/-- What is told, as the answer's two cells. -/
def outW : WrP → List Value
  | none => [.string ⟨#[]⟩, .int .i64 0]
  | some x => [.string x.1, .int .i64 x.2]
def whatW : WrP → ByteArray
  | none => ⟨#[]⟩
  | some x => x.1
def codeW : WrP → Int
  | none => 0
  | some x => x.2
theorem outW_eq (a : WrP) : outW a = [.string (whatW a), .int .i64 (codeW a)] := by cases a <;> rfl
theorem codeW_zero {a : WrP} (h : a.fit) : codeW a = 0 ↔ a = none := by
  cases a with
  | none => exact ⟨fun _ => rfl, fun _ => rfl⟩
  | some x =>
    have := h x rfl
    constructor
    · intro e; have e : x.2 = 0 := e; omega
    · intro e; cases e
/-- What is wrong of the Frags, each for its type. -/
def fragsW (s : List Rw.TypeP) (fr : List FragP) : List FragP → WrP
  | [] => none
  | x :: l => WrP.or (if compB s x.on = true then selsW s fr x.sels x.on else some (x.on, 6)) (fragsW s fr l)
end Go.Proofs.YtceabbbmgfeofaaGreatDoor.Selss
