/-
  Contract: spec.Clash tells the key of what clashes first in a right Doc where no Frag comes to spread itself; of what was there nothing is changed. Conditions: in memory.
-/
import Derived.Test.YtnkknfnndoegpaaDoorRows
import Derived.Test.YtnkknfnndoegpaaDoorClashM
import Derived.Test.YtnkknfnndoegpaaDoorLoopL
namespace Go.Proofs.YtnkknfnndoegpaaDoor.Selss
open Go.RowKit Words
set_option linter.unusedVariables false
set_option maxRecDepth 100000

theorem specClashM {d : DocP} (hn : NoLoop d.frags) : ∀ (m : Nat) (s : Sels), DeepL d.frags m (opens d.frags s) → full d.frags s ≤ 100000000000 → ClashOk d s (clashM d.frags m (opens d.frags s))
  | 0, s, hd, hf => by
    have h0 : opens d.frags s = [] := hd
    have := specClashStep hn s hf (fun _ => ⟨#[]⟩) (fun key hk => by rw [h0] at hk; simp at hk)
    rw [h0] at this ⊢
    exact this
  | m + 1, s, hd, hf => by
    rw [clashM_succ]
    refine specClashStep hn s hf _ fun key hk => ?_
    exact specClashM hn m _ (deep_sub hd key) (Nat.le_trans (sumF_sub hn key _) (Nat.le_trans (sumF_opens hn _ s (Low.top _ s)) hf))
theorem docB_parts {d : DocP} (h : docB d = true) : d.sels.all ≤ 60 ∧ fragAll d.frags ≤ 60 ∧ d.frags.length ≤ 5 := by
  unfold docB at h
  simp only [Bool.and_eq_true, decide_eq_true_eq] at h
  have h1 := h.1.1.2
  have h2 := h.1.1.1.2
  unfold DocP.all at h1
  exact ⟨by omega, by omega, h2⟩
open Classical in
/-- The key of what clashes first; the empty one of a Doc that isn't right, or where a Frag comes to spread itself. -/
noncomputable def clashD (d : DocP) : ByteArray := if h : docB d = true ∧ NoLoop d.frags then clashM d.frags (Classical.choose (deep_ex h.2 _ d.sels (Low.top d.frags d.sels))) (opens d.frags d.sels) else ⟨#[]⟩
theorem clashD_no {d : DocP} (h : ¬ (docB d = true ∧ NoLoop d.frags)) : clashD d = ⟨#[]⟩ := by unfold clashD; rw [dif_neg h]
theorem clashD_yes {d : DocP} (h : docB d = true ∧ NoLoop d.frags) : ∃ m, DeepL d.frags m (opens d.frags d.sels) ∧ clashD d = clashM d.frags m (opens d.frags d.sels) := by
  refine ⟨_, Classical.choose_spec (deep_ex h.2 _ d.sels (Low.top d.frags d.sels)), ?_⟩
  unfold clashD; rw [dif_pos h]
theorem loopN_some {l : List FragP} : ∀ {m : List FragP}, (∃ x, x ∈ m ∧ reachB l x.sels.spr x.name = true) → ∃ x, x ∈ m ∧ loopN l m = x.name
  | [], ⟨x, hx, _⟩ => by simp at hx
  | y :: m, ⟨x, hx, hr⟩ => by
    unfold loopN
    by_cases hy : reachB l y.sels.spr y.name = true
    · rw [if_pos hy]; exact ⟨y, List.mem_cons_self .., rfl⟩
    · rw [if_neg hy]
      rcases List.mem_cons.1 hx with rfl | hx
      · exact absurd hr hy
      · obtain ⟨z, hz, e⟩ := loopN_some ⟨x, hx, hr⟩
        exact ⟨z, List.mem_cons_of_mem _ hz, e⟩
theorem word_ne {s : ByteArray} (h : wordB s = true) : s ≠ ⟨#[]⟩ := by
  intro e; subst e
  unfold wordB at h
  rw [Bool.and_eq_true] at h
  have h1 := h.1
  unfold ofB at h1
  have := (@of_decide_eq_true _ (Classical.propDecidable _) h1).some
  exact absurd this (by decide)
theorem loop_cases {d : DocP} (hd : docB d = true) : (NoLoop d.frags ∧ loopN d.frags d.frags = ⟨#[]⟩) ∨ (¬ NoLoop d.frags ∧ loopN d.frags d.frags ≠ ⟨#[]⟩) := by
  by_cases h : ∃ x, x ∈ d.frags ∧ reachB d.frags x.sels.spr x.name = true
  · right
    obtain ⟨x, hx, e⟩ := loopN_some h
    refine ⟨fun hn => ?_, by rw [e]; exact word_ne (docB_name hd hx)⟩
    obtain ⟨y, hy, hr⟩ := h
    rw [hn y hy] at hr; cases hr
  · left
    have hn : NoLoop d.frags := fun x hx => by
      cases hr : reachB d.frags x.sels.spr x.name with
      | false => rfl
      | true => exact absurd ⟨x, hx, hr⟩ h
    exact ⟨hn, look_none hn⟩
theorem isEmpty_no {t : ByteArray} (h : t ≠ ⟨#[]⟩) : t.toList.isEmpty = false := by
  cases hh : t.toList with
  | nil => exact absurd (hh.trans (by rw [Lib.toList_data])) (toList_ne h)
  | cons _ _ => rfl

end Go.Proofs.YtnkknfnndoegpaaDoor.Selss
