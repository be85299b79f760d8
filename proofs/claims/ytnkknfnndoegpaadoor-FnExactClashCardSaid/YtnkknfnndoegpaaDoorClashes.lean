/-
  Contract: impl.Clash tells the key of what clashes first in a right Doc where no Frag comes to spread itself; of what was there nothing is changed. Conditions: in memory; the library's variable errors.errorType holds the handle of the type error.
-/
import Derived.Test.YtnkknfnndoegpaaDoorRows
import Derived.Test.YtnkknfnndoegpaaDoorClashI
import Derived.Test.YtnkknfnndoegpaaDoorClashS
import Derived.Test.YtnkknfnndoegpaaDoorLoopsW
namespace Go.Proofs.YtnkknfnndoegpaaDoor.Selss
open Go.RowKit Words
set_option linter.unusedVariables false
set_option maxRecDepth 100000

theorem good_of_sels : ∀ {s : Sels} {n : Int}, selsB s n = true → GoodS s
  | .nil, _, _ => trivial
  | .cons k key nm f u r, n, h => by
    simp only [selsB, Bool.and_eq_true] at h
    refine ⟨fun hk => ?_, good_of_sels h.1.2, good_of_sels h.2⟩
    subst hk
    have h1 := h.1.1.1
    rw [oneB_1, Bool.and_eq_true] at h1
    exact ⟨word_ne h1.1, wordB_size h1.1⟩
theorem fragsB_good {l : List FragP} : ∀ {m : List FragP} {i : Nat}, fragsB l m i = true → ∀ x, x ∈ m → GoodS x.sels
  | [], _, _, x, hx => by simp at hx
  | y :: m, i, h, x, hx => by
    unfold fragsB at h
    rw [Bool.and_eq_true] at h
    rcases List.mem_cons.1 hx with rfl | hx
    · have h1 := h.1
      unfold fragB at h1
      rw [Bool.and_eq_true] at h1
      exact good_of_sels h1.2
    · exact fragsB_good h.2 x hx
theorem docB_good {d : DocP} (h : docB d = true) : GoodS d.sels ∧ ∀ x, x ∈ d.frags → GoodS x.sels := by
  unfold docB at h
  rw [Bool.and_eq_true, Bool.and_eq_true] at h
  exact ⟨good_of_sels h.1.2, fragsB_good h.2⟩
theorem implClashM {fr : List FragP} (hn : NoLoop fr) (hgf : ∀ x, x ∈ fr → GoodS x.sels) : ∀ (m : Nat) (s : Sels), DeepL fr m (opens fr s) → full fr s ≤ 100000000000 → GoodS s → ClashIOk fr s (clashM fr m (opens fr s))
  | 0, s, hd, hf, hg => by
    have h0 : opens fr s = [] := hd
    have := implClashStep hn s hf (good_opens hgf hg) (fun _ => ⟨#[]⟩) (fun key L _ _ hk => by rw [h0] at hk; simp at hk)
    rw [h0] at this ⊢
    exact this
  | m + 1, s, hd, hf, hg => by
    rw [clashM_succ]
    refine implClashStep hn s hf (good_opens hgf hg) _ fun key L hsame hsum hk => ?_
    have hd' : DeepL fr (m + 1) L := DeepL.of_mem (fun x hx => hsame.mem.1 hx) hd
    have h1 := implClashM hn hgf m (subK key L) (deep_sub hd' key) (Nat.le_trans (sumF_sub hn key L) hsum) (good_subK fun x hx => good_opens hgf hg x (hsame.mem.1 hx))
    rw [clash_same fr m (same_sub hsame key)] at h1
    exact h1
theorem neqF (T : TypeId) (v : Value) (W : World) : (binOp .neq 42 (.iface T v) .nilIface).run Tryd.prog W = .ok (.bool true) W := by rfl

theorem implClash (w : World) (B : Nat) (v : Value) (d : DocP) (hs : DocAt w 0 B v d) (hB : B ≤ w.heap.size) (hg : ErrW.ErrVar w) :
    Calls Tryd.prog 7 #[v] w fun e w' => e = .returned (.string (clashD d)) ∧ Below w.heap.size w w' := by
  have CL : Hid (∀ w' : World, Below w.heap.size w w' → Calls Tryd.prog 16 #[v] w' fun e w'' => (∃ v', e = .returned v' ∧ LoopOut d v') ∧ Below w'.heap.size w' w'') := Lib.hid fun w' h => implLoopOf w' 0 B v d (hs.below hB h) (Nat.le_trans hB h.size)
  obtain ⟨a, ca, b, cb, rfl, hsl, hfr, _⟩ := hs
  have HSL := Lib.hid hsl
  have HFR := Lib.hid hfr
  have HG := Lib.hid hg
  have HA : Hid (∀ o, Below w.heap.size w (w.alloc o)) := Lib.hid fun o => (Below.refl _ _).alloc (Nat.le_refl _) o
  clear hg hsl hfr
  go_enter Tryd.func7, Tryd.ntmps7
  go_wp2_with fail
  refine (CL.out _ (HA.out _)).mono ?_
  rintro e w1 ⟨⟨v1, rfl, ho⟩, hb1⟩
  have HB1 := Lib.hid ((HA.out _).trans (hb1.mono (HA.out _).size))
  have k0 := hb1.cell (p := ⟨w.heap.size, 0, none⟩) (by simp)
  have k1 := hb1.cell (p := ⟨w.heap.size, 1, none⟩) (by simp)
  simp at k0 k1
  clear hb1
  rcases ho with ⟨hd, rfl⟩ | ⟨hd, ⟨x, hx, hn, hok, h8, rfl⟩ | ⟨hn, he, rfl⟩⟩
  · have hf := Lib.hid (clashD_no (d := d) (by rw [hd]; simp))
    have y1 := neqF
    go_wp2_with fail
    go_ret
    exact ⟨ret_s hf.out.symm, HB1.out⟩
  · have hf := Lib.hid (clashD_no (d := d) (fun h => by
      rcases loop_cases hd with ⟨_, h2⟩ | ⟨h2, _⟩
      · rw [hn] at h2; exact word_ne (docB_name hd hx) h2
      · exact h2 h.2))
    have y1 := neqF
    clear hn hok h8 hx hd
    generalize x.name = xn at *
    go_wp2_with fail
    go_ret
    exact ⟨ret_s hf.out.symm, HB1.out⟩
  · have hno : NoLoop d.frags := hn
    obtain ⟨m, hdeep, hres⟩ := clashD_yes ⟨hd, hno⟩
    obtain ⟨hp1, hp2, hp3⟩ := docB_parts hd
    obtain ⟨hg1, hg2⟩ := docB_good hd
    have CC := Lib.hid (implClashM hno hg2 m d.sels hdeep (full_few hno hp2 hp3 hp1) hg1 w1 B b cb a ca (HFR.out.below hB HB1.out) (HSL.out.below hB HB1.out) (Nat.le_trans hB HB1.out.size))
    rw [← hres] at CC
    obtain ⟨cd, hcd⟩ : ∃ cd, clashD d = cd := ⟨_, rfl⟩
    have HCD := Lib.hid hcd
    rw [hcd] at CC
    clear hno hdeep hres hp1 hp2 hp3 hg1 hg2 hcd hn he hd
    go_wp2_with fail
    refine CC.out.mono ?_
    rintro e w2 ⟨⟨v2, rfl, hout⟩, hb2⟩
    have HB2 := Lib.hid (HB1.out.trans (hb2.mono HB1.out.size))
    clear hb2 k0 k1
    obtain ⟨c, hc⟩ : ∃ c : Int, Calls Tryd.prog 17 #[v2] w2 (fun en w' => en = .returned (.agg #[.string cd, .int .i64 c]) ∧ Below w2.heap.size w2 w') := by
      rcases hout with ⟨he, rfl⟩ | ⟨ep, rfl, hlast, hne, h8⟩
      · subst he; exact ⟨0, ErrW.validNil w2⟩
      · exact ⟨7, ErrW.validThere ep cd hlast (by omega) w2 (HG.out.below HB2.out)⟩
    have HC := Lib.hid hc
    clear hc hout
    go_wp2_with fail
    refine HC.out.mono ?_
    rintro e w3 ⟨rfl, hb3⟩
    have HB3 := Lib.hid (HB2.out.trans (hb3.mono HB2.out.size))
    clear hb3
    have fw := field_what
    go_wp2_with fail
    go_ret
    exact ⟨ret_s HCD.out.symm, HB3.out⟩
end Go.Proofs.YtnkknfnndoegpaaDoor.Selss
