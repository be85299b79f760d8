/-
  A writer in memory: what it has poured out and what is in its buffer; contract: impl.writer.empty pours out what is in it, into a builder or into a measure; of what was there nothing else is changed. Conditions: in memory, at most 10^12 bytes.
-/
import Derived.Test.YtffcfjjlieogkaaRows
import Derived.Test.YtffcfjjlieogkaaJsW
namespace Go.Proofs.Ytffcfjjlieogkaa.Rw
open Go.RowKit Words Texts Bytes
set_option linter.unusedVariables false
set_option maxRecDepth 100000

theorem cellL {w : World} {b k : Nat} {L : List Value} {T : TypeId} {v : Value} (h : w.heap[b]? = some (.cells L.toArray T (0, 0))) (hk : L[k]? = some v) : w.cell? ⟨b, k, none⟩ = some v ∧ w.frozen? ⟨b, k, none⟩ = false := by
  constructor
  · simp only [World.cell?, h]
    rw [show (L.toArray)[k]? = L[k]? by simp, hk]; rfl
  · exact Lib.frozen_of_heap h k
theorem setL {w : World} {b k : Nat} {L : List Value} {T : TypeId} (h : w.heap[b]? = some (.cells L.toArray T (0, 0))) (v : Value) : (w.setCell ⟨b, k, none⟩ v).heap[b]? = some (.cells (L.set k v).toArray T (0, 0)) := by
  have := heap_setCell_same w b k L.toArray T v h
  rw [this]; simp
/-- What a writer pours into. -/
structure Wk where
  T : TypeId
  pv : Value
  ext : List UInt8 → List Value
  S : World → List UInt8 → Prop
def wrL (buf : List Value) (fl : Nat) (pv : Value) (e : List Value) : List Value := buf ++ (.int .i64 fl :: pv :: e)
def StW (K : Wk) (w : World) (b : Nat) (poured part : List UInt8) (fl : Nat) : Prop :=
  ∃ buf : List Value, w.heap[b]? = some (.cells (wrL buf fl K.pv (K.ext poured)).toArray K.T (0, 0)) ∧ buf.length = 64 ∧ part.length = fl ∧ buf.take fl = Lib.byteCells part ∧ fl ≤ 64 ∧ K.S w poured
theorem wrL_64 {buf e : List Value} {fl : Nat} {pv : Value} (h : buf.length = 64) : (wrL buf fl pv e)[64]? = some (.int .i64 fl) := by
  unfold wrL; rw [List.getElem?_append_right (by omega), h]; rfl
theorem wrL_65 {buf e : List Value} {fl : Nat} {pv : Value} (h : buf.length = 64) : (wrL buf fl pv e)[65]? = some pv := by
  unfold wrL; rw [List.getElem?_append_right (by omega), h]; rfl
theorem wrL_66 {buf e : List Value} {fl : Nat} {pv x : Value} (h : buf.length = 64) : (wrL buf fl pv (x :: e))[66]? = some x := by
  unfold wrL; rw [List.getElem?_append_right (by omega), h]; rfl
theorem wrL_buf {buf e : List Value} {fl j : Nat} {pv u : Value} (h : buf[j]? = some u) : (wrL buf fl pv e)[j]? = some u := by
  unfold wrL; rw [List.getElem?_append_left (List.getElem?_eq_some_iff.1 h).1]; exact h
theorem wrL_set {buf e : List Value} {fl g : Nat} {pv : Value} (h : buf.length = 64) : (wrL buf fl pv e).set 64 (.int .i64 g) = wrL buf g pv e := by
  unfold wrL; rw [List.set_append_right _ _ (by omega), h]; rfl
theorem wrL_set2 {buf e : List Value} {fl : Nat} {pv x y : Value} (h : buf.length = 64) : (wrL buf fl pv (x :: e)).set 66 y = wrL buf fl pv (y :: e) := by
  unfold wrL; rw [List.set_append_right _ _ (by omega), h]; rfl

def EmptyLaw (K : Wk) (B b : Nat) : Prop := ∀ (w : World) (poured part : List UInt8) (fl : Nat), StW K w b poured part fl → B ≤ w.heap.size → poured.length + fl ≤ 1000000000000 →
    Calls Try.prog 31 #[.pointer (some ⟨b, 0, none⟩)] w fun e w' => e = .returned (.tuple #[]) ∧ StW K w' b (poured ++ part) [] 0 ∧ Below B w w' ∧ KN w w'
/-- Into a builder. -/
def wkJ (B tb : Nat) : Wk := ⟨52, .func (.func 19) #[] #[.pointer (some ⟨tb, 0, none⟩)], fun _ => [], fun w l => Bld w B tb l⟩
/-- Into a measure. -/
def wkM (b : Nat) : Wk := ⟨59, .func (.func 25) #[.pointer (some ⟨b, 0, none⟩)] #[], fun l => [.int .i64 l.length], fun _ _ => True⟩

theorem pourJ (B tb : Nat) (l : List UInt8) (w : World) (h : Bld w B tb l) (hBw : B ≤ w.heap.size) (ad : Addr) (m c : Nat) (part : List UInt8) (hm : part.length = m) (hne : ad.block ≠ tb)
    (hp : ∀ j u, (Lib.byteCells part)[j]? = some u → w.cell? (ad.add j) = some u) (hsz : l.length + m ≤ 1000000000000) :
    Calls Try.prog 19 #[.slice (some ad) m c, .pointer (some ⟨tb, 0, none⟩)] w fun e w' => e = .returned (.tuple #[]) ∧ Bld w' B tb (l ++ part) ∧ Below B w w' ∧ Lib.OthersKept 5 (some tb) w w' := by
  have HW := Lib.hid (bldWrite B tb l w h hBw ad m c part hm hne hp hsz)
  clear h hp
  go_enter Try.func19, Try.ntmps19
  go_wp2_with (go_at_call 20; refine HW.out.mono ?_)
  rintro e w1 ⟨rfl, h1, h2, h3⟩
  have H1 := Lib.hid h1
  have H2 := Lib.hid h2
  have H3 := Lib.hid h3
  clear h1 h2 h3
  go_wp2_with fail
  go_end0
  exact ⟨rfl, H1.out, H2.out, H3.out⟩
theorem pourM (b m c : Nat) (x : Nat) (ad : Option Addr) (w : World) (hx : w.cell? ⟨b, 66, none⟩ = some (.int .i64 x)) (hf : w.frozen? ⟨b, 66, none⟩ = false) (hs : (x : Int) + (m : Int) ≤ 1000000000000) :
    Calls Try.prog 25 #[.pointer (some ⟨b, 0, none⟩), .slice ad m c] w fun e w' => e = .returned (.tuple #[]) ∧ Hid (w' = w.setCell ⟨b, 66, none⟩ (.int .i64 (x + m : Nat))) := by
  go_enter Try.func25, Try.ntmps25
  go_wp2_with fail
  go_end0
  exact ⟨rfl, Lib.hid (by rw [Int.natCast_add])⟩
theorem kn_kept {w w' : World} {tb : Nat} (h : Lib.OthersKept 5 (some tb) w w') (hb : ∃ c fr, w.heap[tb]? = some (.cells c 44 fr)) : KN w w' := fun k c fr e => h k _ e (fun e2 => by
    obtain ⟨c2, fr2, e3⟩ := hb
    cases e2
    rw [e] at e3; simp at e3) (fun c2 f2 e2 => by simp at e2)
theorem bld_cells {w : World} {B b : Nat} {l : List UInt8} (h : Bld w B b l) : ∃ c fr, w.heap[b]? = some (.cells c 44 fr) := by
  rcases h with ⟨_, v, h, _⟩ | ⟨_, v, h, _⟩ <;> exact ⟨_, _, h⟩
theorem bld_same {w w' : World} {B tb b : Nat} {l : List UInt8} {c : Array Value} {T : TypeId} {fr : Nat × Nat} (h : Bld w B tb l) (hne : b ≠ tb) (hb : w.heap[b]? = some (.cells c T fr)) (hT : T ≠ 5) (hk : ∀ k, k ≠ b → w'.heap[k]? = w.heap[k]?) : Bld w' B tb l := by
  have go : ∀ p, Lib.BuilderAt 44 5 B tb p (Lib.byteCells l) w → Lib.BuilderAt 44 5 B tb p (Lib.byteCells l) w' := by
    rintro p ⟨hB, u, h1, ⟨h2, h3⟩, h4⟩
    refine ⟨hB, u, by rw [hk _ (fun e => hne e.symm)]; exact h1, ⟨h2, ?_⟩, h4⟩
    rcases h3 with h3 | ⟨g, cap, cur, e, hg, hh, hr⟩
    · exact .inl h3
    · refine .inr ⟨g, cap, cur, e, hg, ?_, hr⟩
      rw [hk _ (fun e2 => by
        subst e2
        rw [hb] at hh
        simp at hh
        exact hT hh.2.1)]
      exact hh
  rcases h with h | h
  · exact .inl (go _ h)
  · exact .inr (go _ h)
theorem bld_other {w : World} {B tb b k : Nat} {l : List UInt8} {c : Array Value} {T : TypeId} {fr : Nat × Nat} (h : Bld w B tb l) (hne : b ≠ tb) (hb : w.heap[b]? = some (.cells c T fr)) (hT : T ≠ 5) (v : Value) : Bld (w.setCell ⟨b, k, none⟩ v) B tb l :=
  bld_same h hne hb hT fun j hj => Below.heap_setCell _ _ _ _ hj
set_option maxHeartbeats 1000000 in
theorem emptyJ (B tb b : Nat) (hB : B ≤ b) (hne : b ≠ tb) : EmptyLaw (wkJ B tb) B b := by
  intro w poured part fl hs hBw hsz
  obtain ⟨buf, hh, hbuf, hpl, htk, hfl, hS⟩ := hs
  have h64 := (cellL hh (wrL_64 hbuf)).1
  have h65 := (cellL hh (wrL_65 hbuf)).1
  have hk : (fl : Int) ≤ 64 := by omega
  have hcl : Hid (∀ j u, (Lib.byteCells part)[j]? = some u → w.drew.cell? ((⟨b, 0, none⟩ : Addr).add j) = some u) := Lib.hid fun j u hj => by
    rw [← htk] at hj
    have hj2 : buf[j]? = some u := by
      rw [List.getElem?_take] at hj; split at hj
      · exact hj
      · cases hj
    have := (cellL hh (wrL_buf (fl := fl) (pv := (wkJ B tb).pv) (e := (wkJ B tb).ext poured) hj2)).1
    rw [show (⟨b, 0, none⟩ : Addr).add j = ⟨b, j, none⟩ by unfold Addr.add; split <;> simp_all]
    exact this
  have HC := Lib.hid (pourJ B tb poured w.drew hS hBw ⟨b, 0, none⟩ fl 64 part hpl hne hcl.out hsz)
  have HH := Lib.hid hh
  have HBC := Lib.hid (bld_cells hS)
  have HBUF := Lib.hid hbuf
  clear hh hS hcl hpl htk hbuf
  go_enter Try.func31, Try.ntmps31
  go_wp2_with fail
  go_region_with (refine HC.out.mono ?_; rintro e w1 ⟨rfl, hS1, hb1, hk1⟩)
  all_goals
    have hh1 : w1.heap[b]? = some (.cells (wrL buf fl (wkJ B tb).pv ((wkJ B tb).ext poured)).toArray (wkJ B tb).T (0, 0)) := hk1 b _ HH.out (fun e => hne (by cases e; rfl)) (fun c f e => by simp [wkJ] at e)
    have f64 := (cellL hh1 (wrL_64 HBUF.out)).2
    have g64 := (cellL hh1 (wrL_64 HBUF.out)).1
    have HF : Hid (StW (wkJ B tb) (w1.setCell ⟨b, 64, none⟩ (.int .i64 0)) b (poured ++ part) [] 0) := Lib.hid (by
      refine ⟨buf, ?_, HBUF.out, rfl, rfl, by omega, ?_⟩
      · have := setL (k := 64) hh1 (.int .i64 0)
        rw [show (Value.int .i64 0) = .int .i64 ((0 : Nat) : Int) from rfl, wrL_set HBUF.out] at this
        exact this
      · exact bld_other hS1 hne hh1 (by simp [wkJ]) _)
    have HB : Hid (Below B w (w1.setCell ⟨b, 64, none⟩ (.int .i64 0))) := Lib.hid ((((Below.refl B w).drew).trans hb1).setCell (p := ⟨b, 64, none⟩) hB _)
    have HK : Hid (KN w (w1.setCell ⟨b, 64, none⟩ (.int .i64 0))) := Lib.hid fun k c fr e => by
      have e1 : w1.heap[k]? = _ := kn_kept hk1 HBC.out k c fr e
      rw [Below.heap_setCell _ _ _ _ (fun e2 => by subst e2; rw [hh1] at e1; simp [wkJ] at e1)]; exact e1
    clear hS1 hb1 hk1 hh1
    go_wp2_with fail
    go_end0
    exact ⟨rfl, HF.out, HB.out, HK.out⟩
set_option maxHeartbeats 1000000 in
theorem emptyM (B b : Nat) (hB : B ≤ b) : EmptyLaw (wkM b) B b := by
  intro w poured part fl hs hBw hsz
  obtain ⟨buf, hh, hbuf, hpl, htk, hfl, -⟩ := hs
  have h64 := (cellL hh (wrL_64 hbuf)).1
  have h65 := (cellL hh (wrL_65 hbuf)).1
  have h66 := cellL hh (wrL_66 hbuf)
  have hk : (fl : Int) ≤ 64 := by omega
  have HC := Lib.hid (pourM b fl 64 poured.length (some ⟨b, 0, none⟩) w.drew h66.1 h66.2 (by omega))
  have HH := Lib.hid hh
  have HBUF := Lib.hid hbuf
  have HPL := Lib.hid hpl
  clear hh hpl htk hbuf h66
  go_enter Try.func31, Try.ntmps31
  go_wp2_with fail
  go_region_with (refine HC.out.mono ?_; rintro e w1 ⟨rfl, HW1⟩)
  all_goals
    have hh1 : w1.heap[b]? = some (.cells (wrL buf fl (wkM b).pv ((wkM b).ext (poured ++ part))).toArray (wkM b).T (0, 0)) := by
      have := setL (w := w.drew) (k := 66) HH.out (.int .i64 (poured.length + fl : Nat))
      rw [← HW1.out] at this
      rw [this]
      congr 2
      exact congrArg List.toArray ((wrL_set2 HBUF.out).trans (by rw [← HPL.out, ← List.length_append]; rfl))
    have f64 := (cellL hh1 (wrL_64 HBUF.out)).2
    have g64 := (cellL hh1 (wrL_64 HBUF.out)).1
    have hb1 : Below B w w1 := by rw [HW1.out]; exact ((Below.refl B w).drew).setCell (p := ⟨b, 66, none⟩) hB _
    have hko : ∀ k, k ≠ b → w1.heap[k]? = w.heap[k]? := fun k hk => by rw [HW1.out]; exact Below.heap_setCell _ _ _ _ hk
    have HF : Hid (StW (wkM b) (w1.setCell ⟨b, 64, none⟩ (.int .i64 0)) b (poured ++ part) [] 0) := Lib.hid (by
      refine ⟨buf, ?_, HBUF.out, rfl, rfl, by omega, trivial⟩
      have := setL (k := 64) hh1 (.int .i64 0)
      rw [show (Value.int .i64 0) = .int .i64 ((0 : Nat) : Int) from rfl, wrL_set HBUF.out] at this
      exact this)
    have HB : Hid (Below B w (w1.setCell ⟨b, 64, none⟩ (.int .i64 0))) := Lib.hid (hb1.setCell (p := ⟨b, 64, none⟩) hB _)
    have HK : Hid (KN w (w1.setCell ⟨b, 64, none⟩ (.int .i64 0))) := Lib.hid fun k c fr e => by
      have hkb : k ≠ b := fun e2 => by subst e2; rw [HH.out] at e; simp [wkM] at e
      rw [Below.heap_setCell _ _ _ _ hkb, hko k hkb]; exact e
    clear hb1 hh1 hko
    go_wp2_with fail
    go_end0
    exact ⟨rfl, HF.out, HB.out, HK.out⟩
end Go.Proofs.Ytffcfjjlieogkaa.Rw
