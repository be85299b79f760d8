/-
  Contracts: the one kind's whole; of what was there nothing is changed. Conditions: in memory, texts of at most 2^20 bytes.
-/
import Derived.Test.YtbloedfbpclcoaaRows
import Derived.Test.YtbloedfbpclcoaaKindN
namespace Go.Proofs.Ytbloedfbpclcoaa.Rw
open Go.RowKit Words Go.Maps
set_option linter.unusedVariables false
set_option maxRecDepth 100000

theorem keptB {w w1 w2 : World} {o1 o2 : Obj} (h : w1.heap[w.heap.size]? = some o1 ∧ w1.heap[w.heap.size + 1]? = some o2) (g : Below w1.heap.size w1 w2) : w2.heap[w.heap.size]? = some o1 ∧ w2.heap[w.heap.size + 1]? = some o2 :=
  ⟨(g.block _ (lt_of_get h.1)).trans h.1, (g.block _ (lt_of_get h.2)).trans h.2⟩

set_option maxHeartbeats 4000000 in
theorem wholeM3 (w : World) (A B : Nat) (x : TypeP) (a : Option Addr) (ca : Nat) (c : Option Addr) (cc : Nat) (hx : TypeAt w A B (.agg (x.cells a ca c cc).toArray) x) (hB : B ≤ w.heap.size) (ht : x.name.size ≤ 1048576) (hml : x.members.length ≤ 1048576) (htm : ∀ m ∈ x.members, m.size ≤ 1048576) (h1 : x.kind = 3) (h0 : x.bytes = 0) (h2 : x.fields = []) :
    Calls Try.prog 141 #[.agg (x.cells a ca c cc).toArray] w fun e w' => TypeNew w w' x e ∧ Below w.heap.size w w' := by
  have HA : Hid (∀ o1 o2, Below w.heap.size w ((w.alloc o1).alloc o2)) := Lib.hid fun o1 o2 => ((Below.refl _ _).alloc (Nat.le_refl _) o1).alloc (by simp) o2
  have C1 : Hid (∀ w, Calls Try.prog 110 #[.string x.name] w fun e w' => e = .returned (.string x.name) ∧ Below w.heap.size w w') := Lib.hid fun w => Clones.clone _ w (by omega)
  have CM : Hid (∀ w', Below w.heap.size w w' → Calls Try.prog 139 #[.agg (x.cells a ca c cc).toArray] w' fun e w'' => TextsNew w' w'' x.members e ∧ Below w'.heap.size w' w'') := Lib.hid fun w' g => membersM3 w' A B x a ca c cc (hx.below hB g) (Nat.le_trans hB g.size) hml htm
  obtain ⟨_, _, _, _, _, hk, _⟩ := hx
  have HK := Lib.hid hk
  obtain ⟨nm, kd, by_, fs, ms⟩ := x
  simp only at h1 h2 h0
  subst h1 h2 h0
  simp only [TypeP.cells, List.length_nil] at C1 CM ⊢
  clear hk
  go_enter Try.func141, Try.ntmps141
  go_wp2_with fail
  have HBd := Lib.hid ((HA.out (.cells #[.string nm, .int .i64 3, .int .i64 0, .slice a 0 ca, .slice c ms.length cc] 121) (.cells #[.string ⟨#[]⟩, .int .i64 0, .int .i64 0, .slice none 0 0, .slice none 0 0] 38)).drew)
  go_region_with (first
    | (go_at_call 139; have HB1' := HB1; refine (CM.out _ HB1.out).mono ?_; rintro e w2 ⟨⟨a9, c9, rfl, hc9, hx9⟩, hb2⟩; have hkk2 := keptB hkk.out hb2; have ⟨⟨z0, z1, z2, z3, z4⟩, f0, f1, f2, f3, f4⟩ := keep5 hkk2.2; have HT := Lib.hid (hx9.wide (A' := w.heap.size + 2) (B' := w2.heap.size) (lt_of_get hkk.out.2) (Nat.le_refl _)); have HC9 := Lib.hid hc9; have HB2 := Lib.hid (HB1.out.trans (hb2.mono HB1.out.size)); clear hb2 hx9 hc9)
    | (go_at_call 110; have HB1' := HB1; refine (C1.out _).mono ?_; rintro e w2 ⟨rfl, hb2⟩; have hkk2 := keptB hkk.out hb2; have ⟨⟨z0, z1, z2, z3, z4⟩, f0, f1, f2, f3, f4⟩ := keep5 hkk2.2; have HT := Lib.hid ((HT1.out.below textLies (Nat.le_refl _) hb2).wide (A' := w.heap.size + 2) (B' := w2.heap.size) (Nat.le_refl _) hb2.size); have HB2 := Lib.hid (HB1.out.trans (hb2.mono HB1.out.size)); clear hb2)
    | (go_at_call 110; refine (C1.out _).mono ?_; rintro e w1 ⟨rfl, hb1⟩; have hkk := Lib.hid (kept2d hb1); have ⟨⟨y0, y1, y2, y3, y4⟩, _⟩ := keep5 hkk.out.1; have HB1 := Lib.hid (HBd.out.trans (hb1.mono HBd.out.size)); clear hb1)
    | (go_at_call 139; refine (CM.out _ HBd.out).mono ?_; rintro e w1 ⟨⟨a9, c9, rfl, hc9, hx9⟩, hb1⟩; have hkk := Lib.hid (kept2d hb1); have ⟨⟨y0, y1, y2, y3, y4⟩, _⟩ := keep5 hkk.out.1; have HT1 := Lib.hid (hx9.wide (A' := w.heap.size + 2) (B' := w1.heap.size) (by simp) (Nat.le_refl _)); have HC9 := Lib.hid hc9; have HB1 := Lib.hid (HBd.out.trans (hb1.mono HBd.out.size)); clear hb1 hx9 hc9))
  all_goals
    have HZ := Lib.hid hkk2.2
    clear hkk2
    go_wp2_with fail
    change bodyPost _ _ _ _ _ (putL w2 (w.heap.size + 1) 0 [.string nm, .int .i64 3, .int .i64 0, .slice none 0 0, .slice a9 ms.length c9])
    obtain ⟨hr, _, _⟩ := putL_cells (g := w.heap.size + 1) (o := 0) (l := [.string nm, .int .i64 3, .int .i64 0, .slice none 0 0, .slice a9 ms.length c9]) HZ.out (by simp)
    have HBF := putL_below (g := w.heap.size + 1) (B := w.heap.size) (by omega) [.string nm, .int .i64 3, .int .i64 0, .slice none 0 0, .slice a9 ms.length c9] 0 HB2.out
    have hsz := putL_size [.string nm, .int .i64 3, .int .i64 0, .slice none 0 0, .slice a9 ms.length c9] w2 (w.heap.size + 1) 0
    have HTZ := HT.out.block (w' := putL w2 (w.heap.size + 1) 0 [.string nm, .int .i64 3, .int .i64 0, .slice none 0 0, .slice a9 ms.length c9]) textLies fun q q1 q2 => putL_other _ _ _ _ q (by omega)
    generalize putL w2 (w.heap.size + 1) 0 [.string nm, .int .i64 3, .int .i64 0, .slice none 0 0, .slice a9 ms.length c9] = wz at *
    have ⟨x0, x1, x2, x3, x4⟩ := row5z hr
    rw [← hsz] at HTZ
    exact bodyPost_ret (v := .agg #[.string nm, .int .i64 3, .int .i64 0, .slice none 0 0, .slice a9 ms.length c9]) (by simp [results, Try.results141, go_sem, x0, x1, x2, x3, x4]) rfl ⟨⟨none, 0, a9, c9, rfl, none, 0, a9, c9, w.heap.size + 2, rfl, HK.out, ⟨RowsX.nil (by omega), Nat.le_refl _⟩, HTZ, HC9.out⟩, HBF⟩
end Go.Proofs.Ytbloedfbpclcoaa.Rw
