/-
  Contracts: the kinds' whole; of what was there nothing is changed. Conditions: in memory, texts of at most 2^20 bytes.
-/
import Derived.Test.YtbloedfbpclcoaaRows
import Derived.Test.YtbloedfbpclcoaaKindM
namespace Go.Proofs.Ytbloedfbpclcoaa.Rw
open Go.RowKit Words Go.Maps
set_option linter.unusedVariables false
set_option maxRecDepth 100000

/-- A type in new memory, as a value. -/
def TypeNew (w w' : World) (x : TypeP) (e : Ending) : Prop := ∃ a ca c cc, e = .returned (.agg (x.cells a ca c cc).toArray) ∧ TypeX w' w.heap.size w'.heap.size (.agg (x.cells a ca c cc).toArray) x

theorem kept2d {w w1 : World} {o1 o2 : Obj} (hb : Below ((w.alloc o1).alloc o2).drew.heap.size ((w.alloc o1).alloc o2).drew w1) : w1.heap[w.heap.size]? = some o1 ∧ w1.heap[w.heap.size + 1]? = some o2 := by
  have e : ((w.alloc o1).alloc o2).drew.heap = ((w.alloc o1).alloc o2).heap := rfl
  refine ⟨by rw [hb.block _ (by rw [e]; simp; omega), e, Go.Deep.blk_alloc_lt _ _ _ (by simp)]; exact heap_alloc_new w _, ?_⟩
  rw [hb.block _ (by rw [e]; simp), e]
  have := heap_alloc_new (w.alloc o1) o2
  simpa using this

set_option maxHeartbeats 2000000 in
theorem wholeM1 (w : World) (x : TypeP) (a : Option Addr) (ca : Nat) (c : Option Addr) (cc : Nat) (hk : x.ok) (ht : x.name.size ≤ 1048576) (h1 : x.kind = 1) (h2 : x.fields = []) (h3 : x.members = []) :
    Calls Try.prog 108 #[.agg (x.cells a ca c cc).toArray] w fun e w' => TypeNew w w' x e ∧ Below w.heap.size w w' := by
  have HA : Hid (∀ o1 o2, Below w.heap.size w ((w.alloc o1).alloc o2)) := Lib.hid fun o1 o2 => ((Below.refl _ _).alloc (Nat.le_refl _) o1).alloc (by simp) o2
  have C1 : Hid (∀ w, Calls Try.prog 110 #[.string x.name] w fun e w' => e = .returned (.string x.name) ∧ Below w.heap.size w w') := Lib.hid fun w => Clones.clone _ w (by omega)
  obtain ⟨nm, kd, by_, fs, ms⟩ := x
  simp only at h1 h2 h3
  subst h1 h2 h3
  have HK := Lib.hid hk
  simp only [TypeP.cells] at C1 ⊢
  have hdr1 := heap_alloc_new w (.cells #[.string nm, .int .i64 1, .int .i64 by_, .slice a ([] : List FieldP).length ca, .slice c ([] : List ByteArray).length cc] 119)
  simp only [List.length_nil] at hdr1 ⊢
  clear hk
  go_enter Try.func108, Try.ntmps108
  go_wp2_with fail
  go_region_with (first
    | (go_at_call 110; refine (C1.out _).mono ?_; rintro e w1 ⟨rfl, hb1⟩; have hkk := (kept2d hb1); have ⟨⟨y0, y1, y2, y3, y4⟩, _⟩ := keep5 hkk.1; have ⟨⟨z0, z1, z2, z3, z4⟩, f0, f1, f2, f3, f4⟩ := keep5 hkk.2))
  all_goals
    have HB1 := (HA.out _ _).drew.trans (hb1.mono (HA.out _ _).size)
    have HZ := Lib.hid hkk.2
    clear hb1 hkk hdr1
    go_wp2_with fail
    change bodyPost _ _ _ _ _ (putL w1 (w.heap.size + 1) 0 [.string nm, .int .i64 1, .int .i64 by_, .slice none 0 0, .slice none 0 0])
    obtain ⟨hr, _, _⟩ := putL_cells (g := w.heap.size + 1) (o := 0) (l := [.string nm, .int .i64 1, .int .i64 by_, .slice none 0 0, .slice none 0 0]) HZ.out (by simp)
    have HBF := putL_below (g := w.heap.size + 1) (B := w.heap.size) (by omega) [.string nm, .int .i64 1, .int .i64 by_, .slice none 0 0, .slice none 0 0] 0 HB1
    generalize putL w1 (w.heap.size + 1) 0 [.string nm, .int .i64 1, .int .i64 by_, .slice none 0 0, .slice none 0 0] = wz at *
    have ⟨x0, x1, x2, x3, x4⟩ := row5z hr
    exact bodyPost_ret (v := .agg #[.string nm, .int .i64 1, .int .i64 by_, .slice none 0 0, .slice none 0 0]) (by simp [results, Try.results108, go_sem, x0, x1, x2, x3, x4]) rfl ⟨⟨none, 0, none, 0, rfl, none, 0, none, 0, w.heap.size, rfl, HK.out, ⟨RowsX.nil (Nat.le_refl _), Nat.le_refl _⟩, RowsX.nil HBF.size, Nat.le_refl _⟩, HBF⟩
end Go.Proofs.Ytbloedfbpclcoaa.Rw
