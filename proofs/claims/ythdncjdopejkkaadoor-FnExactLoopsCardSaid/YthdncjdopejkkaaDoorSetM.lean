/-
  A map from texts to bools of the call's own, as a set of texts; no program's function. Conditions: as each theorem says.
-/
import Derived.Test.YthdncjdopejkkaaDoorRows
import Derived.Test.YthdncjdopejkkaaDoorOwnT
import Derived.Maps.Own
import Derived.Maps.OwnOps
import Derived.Maps.OwnSet
import Derived.Maps.Views
namespace Go.Proofs.YthdncjdopejkkaaDoor.Nm
open Go.RowKit Words Go.Maps
open Rw (OkS)
set_option linter.unusedVariables false
set_option maxRecDepth 100000

abbrev RV : Value → Option (DataW Value × List MemPlace) := fun v => some (.held v, [])
theorem lawS : Keyed Tryd.prog 9 := string_keyed Tryd.underlying9
theorem zeroB (w : World) : (zeroValue 4).run Tryd.prog w = .ok (.bool false) w := by kernel_rfl
abbrev keyL (nm : ByteArray) : Lit := .string nm.data.toList
theorem keyL_ne {a b : ByteArray} (h : a ≠ b) : keyL a ≠ keyL b := fun e => h (by
  injection e with e
  exact ByteArray.ext (Array.toList_inj.1 e))
abbrev OwnM (w : World) (b n : Nat) (D : DataW Value) : Prop := w.ownsMap Tryd.prog 9 RV b n D
theorem OwnM.same {w w' : World} {b n : Nat} {D : DataW Value} (h : OwnM w b n D) (e : w'.heap[b]? = w.heap[b]?) : OwnM w' b n D := by
  obtain ⟨es, clock, hb, F, hs, hD⟩ := h
  exact ⟨es, clock, e.trans hb, F, hs, hD⟩
/-- The map D holds the texts of seen. -/
def SD (seen : List ByteArray) (D : DataW Value) : Prop := IsMap D ∧ ∀ nm, D.atKey (keyL nm) (.held (.bool false)) = .held (.bool (inN nm seen))
theorem SD.nil : SD [] (.map []) := ⟨isMap_empty, fun nm => rfl⟩
theorem SD.put {seen : List ByteArray} {D : DataW Value} (h : SD seen D) (nm : ByteArray) : SD (nm :: seen) (D.put (keyL nm) (.held (.bool true))) := by
  refine ⟨h.1.put _ _, fun m => ?_⟩
  by_cases hm : nm = m
  · subst hm
    rw [atKey_put_same h.1 (show WideAt.IsKeyLit (keyL nm) from trivial)]
    simp [inN]
  · rw [atKey_put_other (fun e => keyL_ne (fun e => hm e.symm) e), h.2 m]
    simp [inN, hm]
theorem SD.look {seen : List ByteArray} {D : DataW Value} (h : SD seen D) {w : World} {b n : Nat} (ho : OwnM w b n D) (nm : ByteArray) (hn : OkS nm) :
    (Instr.lookup 82 (.map (some b)) (.string nm) false).run Tryd.prog w = .ok (.bool (inN nm seen)) w := by
  obtain ⟨v, ps, hr, hv⟩ := ho.lookup lawS Tryd.underlying82 (zeroB w) (zd := .held (.bool false)) (zp := []) rfl (WideMaps.keyOf_string_mk Tryd.underlying9 (by unfold maxLen; exact hn))
  rw [h.2 nm] at hv
  cases hv
  exact hr
theorem hkeyS (nm : ByteArray) (hn : OkS nm) : keyOf Tryd.prog 9 (.string nm) = some (keyL nm) := WideMaps.keyOf_string_mk Tryd.underlying9 (by unfold maxLen; exact hn)
end Go.Proofs.YthdncjdopejkkaaDoor.Nm
