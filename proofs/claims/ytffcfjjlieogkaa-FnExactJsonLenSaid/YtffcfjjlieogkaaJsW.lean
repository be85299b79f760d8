/-
  Contracts: a builder's Write puts bytes behind what it has, all else stays; a writer in memory: what it has poured out and what is in its buffer; impl.writer.empty pours out what is in it, into a builder or into a measure. Conditions: in memory, at most 10^12 bytes.
-/
import Derived.Test.YtffcfjjlieogkaaRows
import Derived.Test.YtffcfjjlieogkaaJsS
import Derived.Test.YtffcfjjlieogkaaShelf
import Derived.Lib.OthersKept
import Derived.Lib.Builder
namespace Go.Proofs.Ytffcfjjlieogkaa.Rw
open Go.RowKit Words Texts Bytes
set_option linter.unusedVariables false
set_option maxRecDepth 100000

abbrev Bld (w : World) (B b : Nat) (l : List UInt8) : Prop := Lib.IsBuilder 44 5 B b (Lib.byteCells l) w
theorem sizeB : (Try.prog.info? 44).map (·.size) = some 2 := by kernel_rfl
theorem liesB : liesAt Try.prog Try.prog.depth 44 (2 / Try.prog.cellsOf 44) 0 44 1 = true := by kernel_rfl
theorem ckUsed (b : Nat) (w : World) (h0 : w.cell? ⟨b, 0, none⟩ = some (.pointer (some ⟨b, 0, none⟩))) :
    Calls Try.prog 29 #[.pointer (some ⟨b, 0, none⟩)] w fun e w' => e = .returned (.tuple #[]) ∧ w' = w := by
  obtain ⟨j, hj, _⟩ := Option.map_eq_some_iff.1 sizeB
  go_enter Try.func29, Try.ntmps29
  go_wp2_with fail
  rw [Lib.run_neq_ptr_same w _ Try.underlying42 hj]
  go_wp2_with fail
  go_end0
  exact ⟨rfl, rfl⟩
theorem ckFresh (b : Nat) (w : World) (h0 : w.cell? ⟨b, 0, none⟩ = some (.pointer none)) (hsh : w.shape? b = some (44, 2)) (hfz : w.frozen? ⟨b, 0, none⟩ = false) :
    Calls Try.prog 29 #[.pointer (some ⟨b, 0, none⟩)] w fun e w' => e = .returned (.tuple #[]) ∧ w' = w.setCell ⟨b, 0, none⟩ (.pointer (some ⟨b, 0, none⟩)) := by
  obtain ⟨j, hj, hjs⟩ := Option.map_eq_some_iff.1 sizeB
  go_enter Try.func29, Try.ntmps29
  go_wp2_with fail
  rw [Lib.run_to_unsafe w ⟨b, 0, none⟩ Try.underlying42 Try.underlying69 hj (by rw [hjs]; decide) hsh (Nat.zero_lt_succ 1)]
  simp only [Result.andThen]
  rw [Oper.upon_value]
  go_wp2_with fail
  rw [run_callFunc_extern Try.func36 (by kernel_rfl) (by kernel_rfl) (by kernel_rfl) (e := Extern.AbiNoEscape.same) (by kernel_rfl)]
  rw [Lib.run_noEscape]
  simp only [Result.andThen]
  rw [Oper.upon_value]
  go_wp2_with fail
  rw [Lib.run_from_unsafe w ⟨b, 0, none⟩ Try.underlying69 Try.underlying42 hj hsh liesB]
  simp only [Result.andThen]
  rw [Oper.upon_value]
  go_wp2_with fail
  go_end0
  exact ⟨rfl, rfl⟩
theorem bldCheck (B b : Nat) (l : List UInt8) (w : World) (h : Bld w B b l) :
    Calls Try.prog 29 #[.pointer (some ⟨b, 0, none⟩)] w fun e w' => e = .returned (.tuple #[]) ∧ Lib.BuilderAt 44 5 B b (.pointer (some ⟨b, 0, none⟩)) (Lib.byteCells l) w' ∧ Below B w w' ∧ Lib.OthersKept 5 (some b) w w' ∧ ∀ a : Addr, a.block ≠ b → w'.cell? a = w.cell? a := by
  rcases h with h | h
  · refine (ckFresh b w h.cell0 h.shape h.frozen0).mono ?_
    rintro e w' ⟨rfl, rfl⟩
    exact ⟨rfl, h.used _, (Below.refl B w).setCell (p := ⟨b, 0, none⟩) h.1 _, (Lib.OthersKept.refl _ _ _).setCell ⟨b, 0, none⟩ rfl _, fun a ha => World.cell?_of_block (Below.heap_setCell _ _ _ _ ha)⟩
  · refine (ckUsed b w h.cell0).mono ?_
    rintro e w' ⟨rfl, rfl⟩
    exact ⟨rfl, h, Below.refl B _, Lib.OthersKept.refl _ _ _, fun _ _ => rfl⟩
theorem addadd {w w1 : World} {b : Nat} (hc : ∀ a : Addr, a.block ≠ b → w1.cell? a = w.cell? a) {ad : Addr} (hne : ad.block ≠ b) (j : Nat) : w1.cell? (ad.add j) = w.cell? (ad.add j) := hc _ (by unfold Addr.add; split <;> exact hne)
set_option maxHeartbeats 1000000 in
theorem bldWrite (B b : Nat) (l : List UInt8) (w : World) (h : Bld w B b l) (hBw : B ≤ w.heap.size) (ad : Addr) (m c : Nat) (part : List UInt8) (hm : part.length = m) (hne : ad.block ≠ b)
    (hp : ∀ j u, (Lib.byteCells part)[j]? = some u → w.cell? (ad.add j) = some u) (hsz : l.length + m ≤ 1000000000000) :
    Calls Try.prog 20 #[.pointer (some ⟨b, 0, none⟩), .slice (some ad) m c] w fun e w' => e = .returned (.tuple #[.int .i64 m, .nilIface]) ∧ Bld w' B b (l ++ part) ∧ Below B w w' ∧ Lib.OthersKept 5 (some b) w w' := by
  obtain ⟨i0, hi, hz0, hz1, hz2⟩ := info_parts info5
  have HCK := Lib.hid (bldCheck B b l w h)
  have HP := Lib.hid hp
  have HNE := Lib.hid hne
  have HM := Lib.hid hm
  clear h hp hne hm
  go_enter Try.func20, Try.ntmps20
  go_wp2_with (go_at_call 29; refine HCK.out.mono ?_)
  rintro e w1 ⟨rfl, ⟨hB, v, hbk, hown, hnb⟩, hb1, hk1, hc1⟩
  have c0 : w1.cell? ⟨b, 0, none⟩ = some (.pointer (some ⟨b, 0, none⟩)) := by rw [Lib.cell_of_heap hbk]; rfl
  have c1 : w1.cell? ⟨b, 1, none⟩ = some v := by rw [Lib.cell_of_heap hbk]; rfl
  have hln : (Lib.byteCells part).length = m * 1 := by rw [Lib.byteCells_length, HM.out, Nat.mul_one]
  have hll : (Lib.byteCells l).length = l.length := Lib.byteCells_length l
  go_wp2_with (at_builtin; refine wpList_append_own _ rfl _ _ 38 rfl B 5 i0 (.int .u8 0) 1 1 Try.underlying38 hi hz0 hz1 hz2 rfl (by decide) _ _ _ rfl hown ad m c (Lib.byteCells part) rfl hln (fun j u hj => (addadd hc1 HNE.out j).trans (HP.out j u hj)) (Lib.byteCells_one part) (by rw [hll]; unfold maxLen; omega) (by rw [hll]; omega) (Nat.le_trans hBw hb1.size) ?_)
  intro v' w2 hown' hgrow _
  have hlt : b < w1.heap.size := lt_of_get hbk
  have hb2 : w2.heap[b]? = some (.cells #[.pointer (some ⟨b, 0, none⟩), v] 44 (0, 0)) := by
    rw [hgrow.block b hlt (fun e => hnb e.symm)]; exact hbk
  have d0 : w2.cell? ⟨b, 0, none⟩ = some (.pointer (some ⟨b, 0, none⟩)) := by rw [Lib.cell_of_heap hb2]; rfl
  have d1 : w2.cell? ⟨b, 1, none⟩ = some v := by rw [Lib.cell_of_heap hb2]; rfl
  have f1 : w2.frozen? ⟨b, 1, none⟩ = false := Lib.frozen_of_heap hb2 1
  obtain ⟨ao, n', cap, rfl⟩ : ∃ ao n' cap, v' = .slice ao n' cap := by
    rcases hown'.2 with ⟨hv, _⟩ | ⟨g, cap, cur, hv, _⟩
    · exact ⟨_, _, _, hv⟩
    · exact ⟨_, _, _, hv⟩
  have HF : Hid (Bld (w2.setCell ⟨b, 1, none⟩ (.slice ao n' cap)) B b (l ++ part)) := Lib.hid (.inr (by
    have := Lib.BuilderAt.put (T := 44) (e := 5) hB hb2 (bs' := Lib.byteCells (l ++ part)) (v' := .slice ao n' cap) (by rw [Lib.byteCells_append, List.length_append, Lib.byteCells_length l, Lib.byteCells_length part, HM.out]; exact hown') (by decide)
    exact this))
  have HB : Hid (Below B w (w2.setCell ⟨b, 1, none⟩ (.slice ao n' cap))) := Lib.hid ((hb1.grown hgrow (Nat.le_trans hBw hb1.size) (fun k hk => (hown.lt k hk).1)).setCell (p := ⟨b, 1, none⟩) hB _)
  have HK : Hid (Lib.OthersKept 5 (some b) w (w2.setCell ⟨b, 1, none⟩ (.slice ao n' cap))) := Lib.hid ((hk1.grown hgrow fun g hg => by
    rcases hown.2 with ⟨rfl, _⟩ | ⟨g2, cap2, cur, rfl, _, hg2, _⟩
    · simp [Value.ownBlock] at hg
    · simp [Value.ownBlock] at hg
      subst hg
      exact ⟨_, _, hg2⟩).setCell ⟨b, 1, none⟩ rfl _)
  clear hown hown' hgrow hb1 hk1 hc1 hbk hb2
  go_wp2_with fail
  exact bodyPost_ret (v := .tuple #[.int .i64 m, .nilIface]) (by simp [results, Try.results20, go_sem]) rfl ⟨rfl, HF.out, HB.out, HK.out⟩
end Go.Proofs.Ytffcfjjlieogkaa.Rw
