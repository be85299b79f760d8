/-
  Contracts: the draws of texts out of a row (pick) and of one of the three schemas (l04SchemaOf); of what was there only the source is changed. Conditions: as each theorem says.
-/
import Derived.Test.YtcogbmcnljlnaaaRows
import Derived.Test.YtcogbmcnljlnaaaDrawOne
import Derived.Test.YtcogbmcnljlnaaaDrawSrc
import Derived.Test.YtcogbmcnljlnaaaThree
import Derived.Test.YtcogbmcnljlnaaaReadM
namespace Go.Proofs.Ytcogbmcnljlnaaa.Draws
open Go.RowKit Texts Bytes Rw Words
set_option linter.unusedVariables false
set_option maxRecDepth 100000

set_option maxHeartbeats 2000000 in
theorem src_pick (w : World) (p len cap : Nat) (a : Option Addr) (h : Src w p a len cap) (g : Nat) (L : List ByteArray) (hg : w.heap[g]? = some (.cells (L.map Value.string).toArray 9 (0, 0))) (hgp : g ≠ p) (h1 : 1 ≤ L.length) (h2 : L.length ≤ 100) :
    Calls Try.prog 29 #[.pointer (some ⟨p, 0, none⟩), .slice (some ⟨g, 0, none⟩) L.length L.length] w fun e w' => (∃ x, x ∈ L ∧ e = .returned (.string x)) ∧ Src w' p a len cap ∧ Only p w w' := by
  have HS := Lib.hid h
  have HG := Lib.hid hg
  have hlt : g < w.heap.size := by
    rcases Nat.lt_or_ge g w.heap.size with h | h
    · exact h
    · rw [Array.getElem?_eq_none h] at hg; cases hg
  clear h hg
  go_enter Try.func29, Try.ntmps29
  go_wp2_with fail
  refine (src_n _ p len cap a HS.out (L.length : Int) (by omega)).mono ?_
  rintro e w1 ⟨⟨r, rfl, hr0, hr1⟩, hs1, ho1⟩
  obtain ⟨m, rfl⟩ := Int.eq_ofNat_of_zero_le hr0
  have hm : m < L.length := by omega
  have hmi : (m : Int) < (L.length : Int) := by omega
  have hc : w1.cell? ⟨g, m, none⟩ = some (.string L[m]) := by
    rw [Rw.row_cell ((ho1.block g hlt hgp).trans HG.out) (k := m) (by simpa using hm)]; simp
  have hx := Lib.hid (List.getElem_mem hm)
  have HS1 := Lib.hid hs1
  have HO1 := Lib.hid ho1
  generalize L[m] = x at hc hx
  generalize L.length = n at *
  clear hs1 ho1 hr1 hr0
  go_wp2_with fail
  go_ret
  exact ⟨⟨x, hx.out, rfl⟩, HS1.out, HO1.out⟩

/-- One of the three. -/
def IsThree (s : List TypeP) : Prop := s = three0 ∨ s = three1 ∨ s = three2
theorem three_out {t : ByteArray} (h : t ∈ [text0, text1, text2]) : ∃ s, IsThree s ∧ outS t = (s, 0) := by
  have key : ∀ (s : List TypeP) (t : ByteArray), schemaB s = true → schT s = t → t.size ≤ 8000 → t.size ≠ 0 → outS t = (s, 0) := fun s t h1 h2 h3 h4 => by
    have e := out_three h1 h2 h3 h4
    unfold outS
    rw [if_neg (by omega), e, if_pos ⟨h2, h4⟩]
  simp only [List.mem_cons, List.not_mem_nil, or_false] at h
  rcases h with rfl | rfl | rfl
  · exact ⟨three0, .inl rfl, key _ _ right0 print0 (by decide) (by decide)⟩
  · exact ⟨three1, .inr (.inl rfl), key _ _ right1 print1 (by decide) (by decide)⟩
  · exact ⟨three2, .inr (.inr rfl), key _ _ right2 print2 (by decide) (by decide)⟩

/-- Where the types of a schema lie that was read, and that the members of each are a row of its own. -/
def MembersO (w : World) (B : Nat) (v : Value) (s : List TypeP) : Prop := ∀ (i : Nat) (x : TypeP), s[i]? = some x → ∃ gb cap c cc base, v = .agg #[.slice (some ⟨gb, 0, none⟩) s.length cap] ∧ B ≤ gb ∧ B ≤ base ∧
  w.cell? ⟨gb, i * 5 + 4, none⟩ = some (.slice c x.members.length cc) ∧ OwnTs w base (.slice c x.members.length cc) x.members

theorem field_so (a : Option Addr) (n c : Nat) (k : Int) (w : World) : Sem.run Try.prog (Instr.field 123 (.agg #[.slice a n c, .int .i64 k]) 0) w = .ok (.agg #[.slice a n c]) w := rfl

set_option maxHeartbeats 2000000 in
theorem src_schemaOf (w : World) (p len cap : Nat) (a : Option Addr) (h : Src w p a len cap) :
    Calls Try.prog 51 #[.pointer (some ⟨p, 0, none⟩)] w fun e w' => (∃ s v, IsThree s ∧ e = .returned v ∧ SchemaX w' w.heap.size w'.heap.size v s ∧ MembersO w' w.heap.size v s) ∧ Src w' p a len cap ∧ Only p w w' := by
  have hplt := h.lt
  have HS := Lib.hid h
  clear h
  go_enter Try.func51, Try.ntmps51
  go_wp2_with fail
  have e1 : (w.alloc (.cells #[.slice none 0 0] 25)).heap.size = w.heap.size + 1 := by simp
  have HA := Lib.hid (((Below.refl w.heap.size w).alloc (Nat.le_refl _) (.cells #[.slice none 0 0] 25)).alloc (by simp) (.cells ([text0, text1, text2].map Value.string).toArray 9))
  have hg : ((w.alloc (.cells #[.slice none 0 0] 25)).alloc (.cells ([text0, text1, text2].map Value.string).toArray 9)).heap[w.heap.size + 1]? = some (.cells ([text0, text1, text2].map Value.string).toArray 9 (0, 0)) := by
    rw [← e1]; exact Go.Deep.blk_alloc_new _ _
  have h0 : ((w.alloc (.cells #[.slice none 0 0] 25)).alloc (.cells ([text0, text1, text2].map Value.string).toArray 9)).heap[w.heap.size]? = some (.cells #[.slice none 0 0] 25 (0, 0)) := by
    rw [Go.Deep.blk_alloc_lt _ _ _ (by simp)]; exact Go.Deep.blk_alloc_new _ _
  refine (src_pick _ p len cap a (HS.out.below hplt HA.out) (w.heap.size + 1) [text0, text1, text2] hg (by omega) (by simp) (by simp)).mono ?_
  rintro e w1 ⟨⟨t, ht, rfl⟩, hs1, ho1⟩
  have hz1 : w.heap.size + 1 < w1.heap.size := by have := ho1.size; simp at this; omega
  have hk1 : w1.heap[w.heap.size]? = some (.cells #[.slice none 0 0] 25 (0, 0)) := (ho1.block _ (by simp; omega) (by omega)).trans h0
  obtain ⟨s, h3, hout⟩ := three_out ht
  have hsz : t.size ≤ 8000 := by
    simp only [List.mem_cons, List.not_mem_nil, or_false] at ht
    rcases ht with rfl | rfl | rfl <;> decide
  have HO1 : Hid (Only p w w1) := Lib.hid (((Only.refl p w).of_below (Nat.le_refl _) HA.out).trans ho1)
  have HS1 := Lib.hid hs1
  have HK1 := Lib.hid hk1
  have H3 := Lib.hid h3
  have HOUT := Lib.hid hout
  have CR := Lib.hid fun w => specSchemaReadM t (by unfold OkS; omega) w
  have hp1 : p < w1.heap.size := hs1.lt
  clear hs1 ho1 hk1 h3 hout hg h0 e1 HA HS ht hsz
  go_wp2_with fail
  refine (CR.out _).mono ?_
  rintro e w2 ⟨⟨⟨sa, ca, rfl, hca, hx⟩, hm⟩, hb2⟩
  rw [HOUT.out] at hca hx
  have HM : Hid (MembersO w2 w1.heap.size (.agg #[.slice sa s.length ca]) s) := Lib.hid (fun i x hi => by
    obtain ⟨gb, cap', c, cc, base, e1, e2, e3, e4, e5⟩ := hm i x (by rw [HOUT.out]; exact hi)
    rw [HOUT.out] at e1
    have e6 : Value.agg #[.slice sa s.length ca] = .agg #[.slice (some ⟨gb, 0, none⟩) s.length cap'] := by
      have := Ending.returned.inj e1
      simp at this ⊢
      exact this
    exact ⟨gb, cap', c, cc, base, e6, e2, e3, e4, e5⟩)
  have hz2 : w1.heap.size ≤ w2.heap.size := hb2.size
  have hk2 := (hb2.block w.heap.size (by omega)).trans HK1.out
  have ⟨k0, f0⟩ := keep1 hk2
  have HK2 := Lib.hid hk2
  have HS2 : Hid (Src w2 p a len cap) := Lib.hid (HS1.out.below hp1 hb2)
  have HO2 : Hid (Only p w w2) := Lib.hid (HO1.out.of_below (by omega) hb2)
  have HX := Lib.hid (show TypesX w2 w1.heap.size w2.heap.size sa s.length s from hx)
  have HC := Lib.hid (show s.length ≤ ca from hca)
  rw [HOUT.out]
  clear hb2 hk2 hx hca hm CR
  dsimp only
  obtain ⟨n, hn⟩ : ∃ n, s.length = n := ⟨_, rfl⟩
  rw [hn] at HM HX HC ⊢
  have HN := Lib.hid hn
  clear hn
  go_wp2_with fail
  rw [field_so]
  go_wp2_with fail
  have hkW := heap_setCell_same w2 w.heap.size 0 _ _ (.slice sa n ca) HK2.out
  have hBW : Below w.heap.size w2 (w2.setCell ⟨w.heap.size, 0, none⟩ (.slice sa n ca)) := (Below.refl w.heap.size w2).setCell (Nat.le_refl _) _
  have hoth : ∀ c, c ≠ w.heap.size → (w2.setCell ⟨w.heap.size, 0, none⟩ (.slice sa n ca)).heap[c]? = w2.heap[c]? := fun c hc => Go.Deep.blk_setCell_other _ ⟨w.heap.size, 0, none⟩ _ _ hc
  have HSF : Hid (Src (w2.setCell ⟨w.heap.size, 0, none⟩ (.slice sa n ca)) p a len cap) := Lib.hid (HS2.out.below hplt hBW)
  have HOF : Hid (Only p w (w2.setCell ⟨w.heap.size, 0, none⟩ (.slice sa n ca))) := Lib.hid (HO2.out.of_below (Nat.le_refl _) hBW)
  have HXF : Hid (TypesX (w2.setCell ⟨w.heap.size, 0, none⟩ (.slice sa n ca)) w.heap.size (w2.setCell ⟨w.heap.size, 0, none⟩ (.slice sa n ca)).heap.size sa n s) := Lib.hid ((HX.out.block typeLiesX fun c c1 _ => hoth c (by omega)).wide (by omega) (by simp))
  have HMF : Hid (MembersO (w2.setCell ⟨w.heap.size, 0, none⟩ (.slice sa n ca)) w.heap.size (.agg #[.slice sa n ca]) s) := Lib.hid (fun i x hi => by
    obtain ⟨gb, cap', c, cc, base, e1, e2, e3, e4, e5⟩ := HM.out i x hi
    exact ⟨gb, cap', c, cc, base, e1, by omega, by omega, (World.cell?_of_block (w := w2) (hoth gb (by omega))).trans e4, OwnTs.frame e5 fun q q1 _ => hoth q (by omega)⟩)
  clear hBW hoth
  generalize w2.setCell ⟨w.heap.size, 0, none⟩ (.slice sa n ca) = wf at *
  have ⟨x0, _⟩ := keep1 hkW
  exact bodyPost_ret (v := .agg #[.slice sa n ca]) (by simp [results, Try.results51, go_sem, x0]) rfl ⟨⟨s, _, H3.out, rfl, ⟨sa, ca, by rw [HN.out], by rw [HN.out]; exact HXF.out, by rw [HN.out]; exact HC.out⟩, HMF.out⟩, HSF.out, HOF.out⟩
end Go.Proofs.Ytcogbmcnljlnaaa.Draws
