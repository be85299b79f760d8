/-
  Contract: impl.Over answers the first measure that is over; of what was there nothing is changed. Conditions: numbers of int64.
-/
import Derived.Test.YtcogbmcnljlnaaaRows
import Derived.Test.YtcogbmcnljlnaaaBnd
namespace Go.Proofs.Ytcogbmcnljlnaaa.Bnd
open Go.RowKit Rw
set_option linter.unusedVariables false
set_option maxRecDepth 100000

theorem keep4 {w1 : World} {g : Nat} {v0 v1 v2 v3 : Value} {T : TypeId} (h1 : w1.heap[g]? = some (.cells #[v0, v1, v2, v3] T (0, 0))) :
    (w1.cell? ⟨g, 0, none⟩ = some v0 ∧ w1.cell? ⟨g, 1, none⟩ = some v1 ∧ w1.cell? ⟨g, 2, none⟩ = some v2 ∧ w1.cell? ⟨g, 3, none⟩ = some v3) ∧ (w1.frozen? ⟨g, 0, none⟩ = false ∧ w1.frozen? ⟨g, 1, none⟩ = false ∧ w1.frozen? ⟨g, 2, none⟩ = false ∧ w1.frozen? ⟨g, 3, none⟩ = false) := by
  simp [World.cell?, World.frozen?, h1]

/-- Two boxes of Bounds of the call's own. -/
structure TwoB (w W : World) (d c n b d' c' n' b' : Int) : Prop where
  bel : Below w.heap.size w W
  x : W.heap[w.heap.size]? = some (.cells #[.int .i64 d, .int .i64 c, .int .i64 n, .int .i64 b] 57 (0, 0))
  y : W.heap[w.heap.size + 1]? = some (.cells #[.int .i64 d', .int .i64 c', .int .i64 n', .int .i64 b'] 57 (0, 0))
theorem TwoB.lt2 {w W : World} {d c n b d' c' n' b' : Int} (h : TwoB w W d c n b d' c' n' b') : w.heap.size + 1 < W.heap.size := lt_of_get h.y
theorem TwoB.lt1 {w W : World} {d c n b d' c' n' b' : Int} (h : TwoB w W d c n b d' c' n' b') : w.heap.size < W.heap.size := lt_of_get h.x
theorem TwoB.below {w W w' : World} {d c n b d' c' n' b' : Int} (h : TwoB w W d c n b d' c' n' b') (g : Below W.heap.size W w') : TwoB w w' d c n b d' c' n' b' :=
  ⟨h.bel.trans (g.mono h.bel.size), (g.block _ h.lt1).trans h.x, (g.block _ h.lt2).trans h.y⟩
theorem TwoB.drew {w W : World} {d c n b d' c' n' b' : Int} (h : TwoB w W d c n b d' c' n' b') : TwoB w W.drew d c n b d' c' n' b' := ⟨h.bel.drew, h.x, h.y⟩
theorem TwoB.made (w : World) (d c n b d' c' n' b' : Int) : TwoB w ((w.alloc (.cells #[.int .i64 d, .int .i64 c, .int .i64 n, .int .i64 b] 57)).alloc (.cells #[.int .i64 d', .int .i64 c', .int .i64 n', .int .i64 b'] 57)).drew d c n b d' c' n' b' := by
  have e1 : (w.alloc (.cells #[.int .i64 d, .int .i64 c, .int .i64 n, .int .i64 b] 57)).heap.size = w.heap.size + 1 := by simp
  refine TwoB.drew ⟨((Below.refl _ _).alloc (Nat.le_refl _) _).alloc (by simp) _, ?_, ?_⟩
  · rw [Go.Deep.blk_alloc_lt _ _ _ (by simp)]; exact Go.Deep.blk_alloc_new _ _
  · rw [← e1]; exact Go.Deep.blk_alloc_new _ _

set_option maxHeartbeats 4000000 in
theorem implOver (w : World) (x y : BP) (hx : x.ok) (hy : y.ok) :
    Calls Try.prog 27 #[x.val, y.val] w fun e w' => e = .returned (.string (overT x y)) ∧ Below w.heap.size w w' := by
  have HT := Lib.hid (show overT x y = nameAt (if ov x.d y.d = true then 0 else if ov x.c y.c = true then 1 else if ov x.n y.n = true then 2 else if ov x.b y.b = true then 3 else 4) from rfl)
  generalize overT x y = T at *
  have CX : Hid (∀ w, Calls Try.prog 49 #[x.val] w fun e w' => e = .returned x.val ∧ Below w.heap.size w w') := Lib.hid fun w => measuresOf w x hx
  have CY : Hid (∀ w, Calls Try.prog 49 #[y.val] w fun e w' => e = .returned y.val ∧ Below w.heap.size w w') := Lib.hid fun w => measuresOf w y hy
  obtain ⟨d, c, n, b⟩ := x
  obtain ⟨d', c', n', b'⟩ := y
  obtain ⟨⟨h1, h2⟩, ⟨h3, h4⟩, ⟨h5, h6⟩, h7, h8⟩ := hx
  obtain ⟨⟨k1, k2⟩, ⟨k3, k4⟩, ⟨k5, k6⟩, k7, k8⟩ := hy
  simp only [BP.val] at *
  have HA : Hid (∀ o1 o2, Below w.heap.size w ((w.alloc o1).alloc o2)) := Lib.hid fun o1 o2 => ((Below.refl _ _).alloc (Nat.le_refl _) o1).alloc (by simp) o2
  go_enter Try.func27, Try.ntmps27
  go_wp2_with fail
  refine (CY.out _).mono ?_
  rintro e w1 ⟨rfl, hb1⟩
  have HB1 : Hid (Below w.heap.size w w1) := Lib.hid ((HA.out _ _).trans (hb1.mono (HA.out _ _).size))
  have hbx : w1.heap[w.heap.size]? = some (.cells #[.int .i64 d, .int .i64 c, .int .i64 n, .int .i64 b] 59 (0, 0)) := by
    rw [hb1.block _ (by simp; omega), Go.Deep.blk_alloc_lt _ _ _ (by simp)]; exact Go.Deep.blk_alloc_new _ _
  have hz1 : w.heap.size + 1 < w1.heap.size := by have := hb1.size; simp at this; omega
  have ⟨⟨x0, x1, x2, x3⟩, _⟩ := keep4 hbx
  have hlt : w.heap.size < w1.heap.size := by omega
  have hlt2 : w.heap.size < w1.heap.size + 1 := by omega
  clear hb1 hbx
  go_wp2_with fail
  have HA2 := Lib.hid (((Below.refl w1.heap.size w1).alloc (Nat.le_refl _) (.cells #[.int .i64 d', .int .i64 c', .int .i64 n', .int .i64 b'] 89)).alloc (by simp) (.cells #[.string (nameAt 0), .string (nameAt 1), .string (nameAt 2), .string (nameAt 3)] 91))
  refine (CX.out _).mono ?_
  rintro e w2 ⟨rfl, hb2⟩
  have HB2 : Hid (Below w.heap.size w w2) := Lib.hid (HB1.out.trans ((HA2.out.trans (hb2.mono (by simp; omega))).mono HB1.out.size))
  have hbl : w2.heap[w1.heap.size]? = some (.cells #[.int .i64 d', .int .i64 c', .int .i64 n', .int .i64 b'] 89 (0, 0)) := by
    rw [hb2.block _ (by simp; omega), Go.Deep.blk_alloc_lt _ _ _ (by simp)]; exact Go.Deep.blk_alloc_new _ _
  have e1 : (w1.alloc (.cells #[.int .i64 d', .int .i64 c', .int .i64 n', .int .i64 b'] 89)).heap.size = w1.heap.size + 1 := by simp
  have hbn : w2.heap[w1.heap.size + 1]? = some (.cells #[.string (nameAt 0), .string (nameAt 1), .string (nameAt 2), .string (nameAt 3)] 91 (0, 0)) := by
    rw [hb2.block _ (by simp), ← e1]; exact Go.Deep.blk_alloc_new _ _
  have ⟨⟨l0, l1, l2, l3⟩, _⟩ := keep4 hbl
  have ⟨⟨n0, n1, n2, n3⟩, _⟩ := keep4 hbn
  clear hb2 hbl hbn e1 x0 x1 x2 x3 HA2 hlt hlt2 hz1
  obtain ⟨g, hg⟩ : ∃ g, w1.heap.size = g := ⟨_, rfl⟩
  rw [hg] at l0 l1 l2 l3 n0 n1 n2 n3 ⊢
  clear hg
  have i0 : ∀ w, (Instr.index 89 (.agg #[.int .i64 d, .int .i64 c, .int .i64 n, .int .i64 b]) (.int .i64 0)).run Try.prog w = .ok (.int .i64 d) w := fun _ => rfl
  have i1 : ∀ w, (Instr.index 89 (.agg #[.int .i64 d, .int .i64 c, .int .i64 n, .int .i64 b]) (.int .i64 1)).run Try.prog w = .ok (.int .i64 c) w := fun _ => rfl
  have i2 : ∀ w, (Instr.index 89 (.agg #[.int .i64 d, .int .i64 c, .int .i64 n, .int .i64 b]) (.int .i64 2)).run Try.prog w = .ok (.int .i64 n) w := fun _ => rfl
  have i3 : ∀ w, (Instr.index 89 (.agg #[.int .i64 d, .int .i64 c, .int .i64 n, .int .i64 b]) (.int .i64 3)).run Try.prog w = .ok (.int .i64 b) w := fun _ => rfl
  go_wp2_with fail
  go_loopw [14] (fun v wr => ∃ i : Int, (i = 0 ∨ i = 1 ∨ i = 2 ∨ i = 3 ∨ i = 4) ∧ v = .int .i64 i ∧ Hid ((0 < i → ov d d' = false) ∧ (1 < i → ov c c' = false) ∧ (2 < i → ov n n' = false) ∧ (3 < i → ov b b' = false)) ∧ w2 = wr) (fun v _ => 4 - (intOf v).toNat)
  case atStart => exact ⟨0, by omega, rfl, Lib.hid ⟨by omega, by omega, by omega, by omega⟩, rfl⟩
  case round =>
    obtain ⟨i, hi, rfl, HH, rfl⟩ := hrel
    rcases hi with rfl | rfl | rfl | rfl | rfl
    · rcases ov_part d d' with ⟨p1, q1⟩ | ⟨p1, p1', q1⟩ | ⟨p1, p1', q1⟩
      case inl =>
        have HF := Lib.hid (show nameAt 0 = T by rw [HT.out, if_pos q1])
        clear q1
        go_wp2_with fail
        go_ret
        exact ⟨ret_s HF.out, HB2.out⟩
      case inr.inl =>
        have HF := Lib.hid (show nameAt 0 = T by rw [HT.out, if_pos q1])
        clear q1
        go_wp2_with fail
        go_ret
        exact ⟨ret_s HF.out, HB2.out⟩
      have HQ := Lib.hid q1
      clear q1
      go_wp2_with fail
      go_roundw
      case rel => exact ⟨1, by omega, rfl, Lib.hid ⟨fun _ => HQ.out, by omega, by omega, by omega⟩, by trivial⟩
      case measure => simp [intOf]
    · rcases ov_part c c' with ⟨p1, q1⟩ | ⟨p1, p1', q1⟩ | ⟨p1, p1', q1⟩
      case inl =>
        have HF := Lib.hid (show nameAt 1 = T by rw [HT.out, if_neg (by rw [HH.out.1 (by omega)]; decide), if_pos q1])
        clear q1
        go_wp2_with fail
        go_ret
        exact ⟨ret_s HF.out, HB2.out⟩
      case inr.inl =>
        have HF := Lib.hid (show nameAt 1 = T by rw [HT.out, if_neg (by rw [HH.out.1 (by omega)]; decide), if_pos q1])
        clear q1
        go_wp2_with fail
        go_ret
        exact ⟨ret_s HF.out, HB2.out⟩
      have HQ := Lib.hid q1
      clear q1
      go_wp2_with fail
      go_roundw
      case rel => exact ⟨2, by omega, rfl, Lib.hid ⟨fun _ => HH.out.1 (by omega), fun _ => HQ.out, by omega, by omega⟩, by trivial⟩
      case measure => simp [intOf]
    · rcases ov_part n n' with ⟨p1, q1⟩ | ⟨p1, p1', q1⟩ | ⟨p1, p1', q1⟩
      case inl =>
        have HF := Lib.hid (show nameAt 2 = T by rw [HT.out, if_neg (by rw [HH.out.1 (by omega)]; decide), if_neg (by rw [HH.out.2.1 (by omega)]; decide), if_pos q1])
        clear q1
        go_wp2_with fail
        go_ret
        exact ⟨ret_s HF.out, HB2.out⟩
      case inr.inl =>
        have HF := Lib.hid (show nameAt 2 = T by rw [HT.out, if_neg (by rw [HH.out.1 (by omega)]; decide), if_neg (by rw [HH.out.2.1 (by omega)]; decide), if_pos q1])
        clear q1
        go_wp2_with fail
        go_ret
        exact ⟨ret_s HF.out, HB2.out⟩
      have HQ := Lib.hid q1
      clear q1
      go_wp2_with fail
      go_roundw
      case rel => exact ⟨3, by omega, rfl, Lib.hid ⟨fun _ => HH.out.1 (by omega), fun _ => HH.out.2.1 (by omega), fun _ => HQ.out, by omega⟩, by trivial⟩
      case measure => simp [intOf]
    · rcases ov_part b b' with ⟨p1, q1⟩ | ⟨p1, p1', q1⟩ | ⟨p1, p1', q1⟩
      case inl =>
        have HF := Lib.hid (show nameAt 3 = T by rw [HT.out, if_neg (by rw [HH.out.1 (by omega)]; decide), if_neg (by rw [HH.out.2.1 (by omega)]; decide), if_neg (by rw [HH.out.2.2.1 (by omega)]; decide), if_pos q1])
        clear q1
        go_wp2_with fail
        go_ret
        exact ⟨ret_s HF.out, HB2.out⟩
      case inr.inl =>
        have HF := Lib.hid (show nameAt 3 = T by rw [HT.out, if_neg (by rw [HH.out.1 (by omega)]; decide), if_neg (by rw [HH.out.2.1 (by omega)]; decide), if_neg (by rw [HH.out.2.2.1 (by omega)]; decide), if_pos q1])
        clear q1
        go_wp2_with fail
        go_ret
        exact ⟨ret_s HF.out, HB2.out⟩
      have HQ := Lib.hid q1
      clear q1
      go_wp2_with fail
      go_roundw
      case rel => exact ⟨4, by omega, rfl, Lib.hid ⟨fun _ => HH.out.1 (by omega), fun _ => HH.out.2.1 (by omega), fun _ => HH.out.2.2.1 (by omega), fun _ => HQ.out⟩, by trivial⟩
      case measure => simp [intOf]
    · have HF := Lib.hid (show nameAt 4 = T by rw [HT.out, if_neg (by rw [HH.out.1 (by omega)]; decide), if_neg (by rw [HH.out.2.1 (by omega)]; decide), if_neg (by rw [HH.out.2.2.1 (by omega)]; decide), if_neg (by rw [HH.out.2.2.2 (by omega)]; decide)])
      go_wp2_with fail
      go_ret
      exact ⟨ret_s HF.out, HB2.out⟩
end Go.Proofs.Ytcogbmcnljlnaaa.Bnd
