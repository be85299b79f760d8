/-
  Regions that draw their order, where a cell that is read is written later by what waits for the reading: what is held of the world (S) may hang on whether one operation (k) is listed already. What yields its value in every world that meets S (S false: k not listed yet; S true: anyhow) may be taken first, if it is anyhow so, or if k waits for it. Conditions: S true is no more than S false; k is not what is taken.
-/
import Derived.OrdersHeld
import Derived.Deep.RegionHeld
namespace Go.Proofs.YtlbjnblbjbdaaaaDoor.Due
open Go
set_option linter.unusedVariables false

section
variable {P : Program} {ops : Array Oper} {Q : Exit → Act → World → Prop} {md : Region.Mode} {k : Nat} {S : Bool → World → Prop}

/-- Whatever order is picked from here on; behind each operation S holds. -/
def anyD (P : Program) (md : Region.Mode) (ops : Array Oper) (Q : Exit → Act → World → Prop) (k : Nat) (S : Bool → World → Prop) : Nat → Array Bool → Act → World → Prop
  | 0, listed, a, w => Region.ready md ops listed = [] ∧ Q .normal a w
  | fuel + 1, listed, a, w =>
    (Region.ready md ops listed = [] → Q .normal a w) ∧
    ∀ i ∈ Region.ready md ops listed, wpOp P ops Q i (fun a' w' => S ((listed.setIfInBounds i true).getD k false) w' ∧ anyD P md ops Q k S fuel (listed.setIfInBounds i true) a' w') a w

theorem any_of_D : ∀ (fuel : Nat) (listed : Array Bool) (a : Act) (w : World), anyD P md ops Q k S fuel listed a w → wpAny P md ops Q fuel listed a w
  | 0, _, _, _, h => h
  | fuel + 1, _, _, _, h => ⟨h.1, fun i hi => wpOp_mono (fun a' w' h' => any_of_D fuel _ a' w' h'.2) (h.2 i hi)⟩

/-- What is listed has all that it waits for listed. -/
def Closed (md : Region.Mode) (ops : Array Oper) (listed : Array Bool) : Prop :=
  ∀ j oj, ops[j]? = some oj → listed.getD j false = true → ∀ e ∈ oj.after, Region.binds md e = true → listed.getD e.on false = true
theorem Closed.set {listed : Array Bool} (h : Closed md ops listed) {j : Nat} (hj : j ∈ Region.ready md ops listed) : Closed md ops (listed.setIfInBounds j true) := by
  intro n on hn hl e he hb
  obtain ⟨_, oj, hoj, hall⟩ := mem_ready.1 hj
  by_cases hjn : j = n
  · subst hjn
    rw [hoj] at hn; cases hn
    exact getD_set_true (hall e he hb)
  · rw [getD_set_ne false hjn] at hl
    exact getD_set_true (h n on hn hl e he hb)
theorem Closed.none (n : Nat) : Closed md ops (Array.replicate n false) := by
  intro j oj _ hl
  exfalso
  revert hl
  simp only [Array.getD_eq_getD_getElem?, Array.getElem?_replicate]
  split <;> simp
def closedB (md : Region.Mode) (ops : Array Oper) (listed : Array Bool) : Bool :=
  (List.range ops.size).all fun j => match ops[j]? with
    | some oj => !(listed.getD j false) || oj.after.all fun e => !(Region.binds md e) || listed.getD e.on false
    | none => true
theorem Closed.ofB {listed : Array Bool} (h : closedB md ops listed = true) : Closed md ops listed := by
  intro j oj hj hl e he hb
  have hlt : j < ops.size := (Array.getElem?_eq_some_iff.1 hj).1
  have := List.all_eq_true.1 h j (List.mem_range.2 hlt)
  rw [hj] at this
  simp only [hl, Bool.not_true, Bool.false_or] at this
  have := Array.all_eq_true_iff_forall_mem.1 this e he
  simpa [hb] using this
/-- Does the first wait for the next one, and so on? -/
def chainB (md : Region.Mode) (ops : Array Oper) : Nat → List Nat → Bool
  | _, [] => true
  | n, m :: l => (match ops[n]? with | some o => o.after.any fun e => Region.binds md e && e.on == m | none => false) && chainB md ops m l
theorem Closed.chain {listed : Array Bool} (h : Closed md ops listed) : ∀ (l : List Nat) (n : Nat), chainB md ops n l = true → listed.getD n false = true → listed.getD (l.getLastD n) false = true
  | [], n, _, hl => hl
  | m :: l, n, hc, hl => by
    rw [chainB, Bool.and_eq_true] at hc
    rw [List.getLastD_cons]
    refine h.chain l m hc.2 ?_
    cases ho : ops[n]? with
    | none => rw [ho] at hc; cases hc.1
    | some o =>
      rw [ho] at hc
      obtain ⟨q, hq, h2⟩ := Array.any_eq_true.1 hc.1
      simp only [Bool.and_eq_true, beq_iff_eq] at h2
      have := h n o ho hl _ (Array.getElem_mem hq) h2.1
      rwa [h2.2] at this

theorem anyD_first {i : Nat} {oi : Oper} {v : Value} {b : Bool} {l : List Nat} (hi : ops[i]? = some oi) (hsel : ∀ (j : Nat) (o : Oper) cs b, ops[j]? = some o → o.op ≠ .select cs b)
    (hQ : ∀ c a w, Q (.panic c) (a.put oi.dst v) w → Q (.panic c) a w) (hS : ∀ w, S false w → S true w) (hki : k ≠ i) (hb : b = false → chainB md ops k l = true ∧ l.getLastD k = i) :
    ∀ (fuel : Nat) (listed : Array Bool) (a : Act) (w : World),
      (∀ j oj, ops[j]? = some oj → j ≠ i → listed.getD j true = false → (∀ e ∈ oj.after, Region.binds md e = true → e.on ≠ i) → oi.apart ops oj = true) →
      i ∈ Region.ready md ops listed → Closed md ops listed → YieldsIf P ops (S b) oi v a → S (listed.getD k false) w →
      anyD P md ops Q k S fuel (listed.setIfInBounds i true) (a.put oi.dst v) w → anyD P md ops Q k S (fuel + 1) listed a w := by
  have hat : ∀ (listed : Array Bool) w, i ∈ Region.ready md ops listed → Closed md ops listed → S (listed.getD k false) w → S b w := by
    intro listed w hr hc hw
    have hun : listed.getD i false = false := by
      have h0 := (mem_ready.1 hr).1
      rcases Nat.lt_or_ge i listed.size with h' | h'
      · simp [h'] at h0 ⊢; exact h0
      · simp [Array.getElem?_eq_none h']
    cases b with
    | true => cases hk : listed.getD k false <;> rw [hk] at hw
              · exact hS _ hw
              · exact hw
    | false =>
      obtain ⟨h1, h2⟩ := hb rfl
      cases hk : listed.getD k false with
      | false => rw [hk] at hw; exact hw
      | true => have := hc.chain l k h1 hk; rw [h2, hun] at this; cases this
  intro fuel
  induction fuel with
  | zero =>
    intro listed a w _ hr hc hy hw H
    refine ⟨fun h => (by rw [h] at hr; cases hr), fun j hj => ?_⟩
    by_cases hji : j = i
    · subst hji; exact hy.wpOp hi (hat _ _ hr hc hw) ⟨by rw [getD_set_ne false (Ne.symm hki)]; exact hw, H⟩
    · have := ready_mono hj hji
      rw [H.1] at this
      cases this
  | succ fuel ih =>
    intro listed a w hfree hr hc hy hw H
    refine ⟨fun h => (by rw [h] at hr; cases hr), fun j hj => ?_⟩
    by_cases hji : j = i
    · subst hji; exact hy.wpOp hi (hat _ _ hr hc hw) ⟨by rw [getD_set_ne false (Ne.symm hki)]; exact hw, H⟩
    · have h1 := H.2 j (ready_mono hj hji)
      obtain ⟨hjun, oj, hoj, hall⟩ := mem_ready.1 hj
      have hnot : ∀ e ∈ oj.after, Region.binds md e = true → e.on ≠ i := fun e he hb heq => by
        have h1 := hall e he hb
        have h0 := (mem_ready.1 hr).1
        rw [heq] at h1
        rcases Nat.lt_or_ge i listed.size with h' | h'
        · simp [h'] at h0 h1; rw [h0] at h1; cases h1
        · simp [Array.getElem?_eq_none h'] at h1
      have h2 := wpOp_putIf hoj (hfree j oj hoj hji hjun hnot) (fun cs b => hsel i oi cs b hi) (fun cs b => hsel j oj cs b hoj) hQ hy h1
      have hfree' : ∀ k ok, ops[k]? = some ok → k ≠ i → (listed.setIfInBounds j true).getD k true = false →
          (∀ e ∈ ok.after, Region.binds md e = true → e.on ≠ i) → oi.apart ops ok = true := fun k ok hk hki hun hno => by
        refine hfree k ok hk hki ?_ hno
        by_cases hjk : j = k
        · subst hjk; exact hjun
        · rw [getD_set_ne true hjk] at hun; exact hun
      refine wpOp_mono (fun a' w' h3 => ?_) h2
      have hs : S ((listed.setIfInBounds j true).getD k false) w' := by
        have := h3.2.1
        rwa [Array.setIfInBounds_comm _ _ (Ne.symm hji), getD_set_ne false (Ne.symm hki)] at this
      refine ⟨hs, ih (listed.setIfInBounds j true) a' w' hfree' (ready_mono hr (Ne.symm hji)) (hc.set hj) h3.1 hs ?_⟩
      rw [Array.setIfInBounds_comm _ _ hji]
      exact h3.2.2

/-- Take number 'i' first; what it reads is so anyhow. -/
theorem anyD_take {i : Nat} {oi : Oper} {v : Value} {fuel : Nat} {listed : Array Bool} {a : Act} {w : World} (hi : ops[i]? = some oi)
    (hs : Region.noSelect ops = true) (hf : Region.free md ops listed i = true) (hr : (Region.ready md ops listed).contains i = true) (hc : closedB md ops listed = true) (hki : (k != i) = true)
    (hQ : ∀ c a w, Q (.panic c) (a.put oi.dst v) w → Q (.panic c) a w) (hS : ∀ w, S false w → S true w) (hy : YieldsIf P ops (S true) oi v a) (hw : S (listed.getD k false) w)
    (h : anyD P md ops Q k S fuel (listed.setIfInBounds i true) (a.put oi.dst v) w) : anyD P md ops Q k S (fuel + 1) listed a w :=
  anyD_first (b := true) (l := []) hi (Region.noSelect_spec hs) hQ hS (by simpa using hki) (fun h => by cases h) fuel listed a w (Region.free_spec hi hf) (by simpa using hr) (Closed.ofB hc) hy hw h
/-- Take number 'i' first; what it reads is so as long as k is not listed, and k waits for it. -/
theorem anyD_due {i : Nat} {oi : Oper} {v : Value} {fuel : Nat} {listed : Array Bool} {a : Act} {w : World} (l : List Nat) (hi : ops[i]? = some oi)
    (hs : Region.noSelect ops = true) (hf : Region.free md ops listed i = true) (hr : (Region.ready md ops listed).contains i = true) (hc : closedB md ops listed = true) (hki : (k != i) = true) (hch : (chainB md ops k l && (l.getLastD k == i)) = true)
    (hQ : ∀ c a w, Q (.panic c) (a.put oi.dst v) w → Q (.panic c) a w) (hS : ∀ w, S false w → S true w) (hy : YieldsIf P ops (S false) oi v a) (hw : S (listed.getD k false) w)
    (h : anyD P md ops Q k S fuel (listed.setIfInBounds i true) (a.put oi.dst v) w) : anyD P md ops Q k S (fuel + 1) listed a w :=
  anyD_first (b := false) (l := l) hi (Region.noSelect_spec hs) hQ hS (by simpa using hki) (fun _ => by simpa using hch) fuel listed a w (Region.free_spec hi hf) (by simpa using hr) (Closed.ofB hc) hy hw h
/-- The one operation that may come up comes up. -/
theorem anyD_one {i : Nat} {o : Oper} {fuel : Nat} {listed : Array Bool} {a : Act} {w : World} (hr : Region.ready md ops listed = [i]) (ho : ops[i]? = some o)
    (h : ∀ K' : Act → World → Prop, Shut (∀ a w, S ((listed.setIfInBounds i true).getD k false) w → anyD P md ops Q k S fuel (listed.setIfInBounds i true) a w → K' a w) → if Region.wanted o (yielded ops a.tmps) = true then Oper.wp P o a w K' Q else K' (a.put o.dst undef) w) : anyD P md ops Q k S (fuel + 1) listed a w := by
  refine ⟨fun h0 => ?_, fun j hj => ?_⟩
  · rw [h0] at hr; cases hr
  · rw [hr, List.mem_singleton] at hj
    subst hj
    exact wpOp_step ho (fun K' hK => h K' (fun a w hS hW => hK a w ⟨hS, hW⟩))
theorem anyD_done {listed : Array Bool} {a : Act} {w : World} (hr : Region.ready md ops listed = []) (h : Q .normal a w) :
    ∀ fuel, anyD P md ops Q k S fuel listed a w
  | 0 => ⟨hr, h⟩
  | _ + 1 => ⟨fun _ => h, by rw [hr]; simp⟩
/-- The beginning. -/
theorem region_due (k : Nat) (S : Bool → World → Prop) {id : Nat} {a : Act} {w : World} (hm : P.follows .mixedOrders = true)
    (h : anyD P .any ops Q k S ops.size (Array.replicate ops.size false) a w.drew) : (Code.region id ops true).wp P Q a w :=
  wp_region_any hm (any_of_D _ _ _ _ h)
end
end Go.Proofs.YtlbjnblbjbdaaaaDoor.Due
