/-
  Contract: the model's DocRead answers what outP says, plain part. Conditions: a text of at most 2^20 bytes.
-/
import Derived.Test.YtnkknfnndoegpaaGreatDoorRows
import Derived.Test.YtnkknfnndoegpaaGreatDoorModRdB
import Derived.Test.YtnkknfnndoegpaaGreatDoorImplRead
namespace Go.Proofs.YtnkknfnndoegpaaGreatDoor.Selss
open Go.RowKit Words Decs Splits
set_option linter.unusedVariables false
theorem modOk : ∀ d, d ≤ 100 → ModOk d
  | 0, _ => modOk_zero
  | d + 1, h => modOk_succ d (by omega) (modOk d (by omega))
end Go.Proofs.YtnkknfnndoegpaaGreatDoor.Selss
namespace Go.Proofs.YtnkknfnndoegpaaGreatDoor.Selss
open Go.RowKit Words Decs Splits
set_option linter.unusedVariables false
set_option maxRecDepth 100000
theorem docT_right {d : DocP} {t : ByteArray} (h : docT d = t) (ht : t ≠ ByteArray.empty) : docB d = true := by
  cases hb : docB d with
  | true => rfl
  | false =>
    exfalso; apply ht; rw [← h]; unfold docT; rw [hb]; rfl
theorem docT_ne {d : DocP} (h : docB d = true) : docT d ≠ ByteArray.empty := fun e => by
  have hr := reads_of_docT h
  rw [e] at hr
  obtain ⟨W', h1, _⟩ := hr
  cases h1
/-- The model's answer is outP's. -/
theorem out_mod {t : ByteArray} (hb : ¬ 8000 < t.size) (h : docT (docOf t) = t) (ht : t ≠ ByteArray.empty) : outP t = (docOf t, 0) := outP_is hb (docT_right h ht) h
theorem out_mod_not {t : ByteArray} (hb : ¬ 8000 < t.size) (h : docT (docOf t) ≠ t ∨ t = ByteArray.empty) : outP t = (zeroDoc, 3) := outP_not hb fun ⟨e, h1, h2⟩ => by
  rcases h with h | h
  · exact h (by rw [← h2, docOf_text h1])
  · exact docT_ne h1 (h2.trans h)
/-- A reader made of a split text. -/
theorem rd_spec {w : World} {t : ByteArray} (ht : t.size ≤ 8000) {a : Option Addr} {cap A : Nat} (h : StrsAt w A w.heap.size a (splitL 32 (bl t)).length (splitL 32 (bl t))) :
    RdS (w.alloc (.cells #[.slice a (splitL 32 (bl t)).length cap, .int .i64 0] 36)) w.heap.size a cap (splitL 32 (bl t)) 0 := by
  have hbl : (bl t).length = t.size := by simp [bl]
  refine ⟨heap_alloc_new w _, fun i x hx => ?_, by have := splitL_len 32 (bl t); omega, fun x hx => by have := splitL_sizes 32 (bl t) x hx; omega⟩
  rcases h.2 with h0 | ⟨b, off, ha, hA, hb, hc⟩
  · exact absurd h0 (splitL_ne 32 (bl t))
  · exact ⟨b, off, ha, hb, ((((Below.refl w.heap.size w).alloc (Nat.le_refl _) _).cell (p := ⟨b, off + i, none⟩) hb)).trans (hc i x hx)⟩
end Go.Proofs.YtnkknfnndoegpaaGreatDoor.Selss
