/-
  Contracts: spec.l01Split parts a text at a byte; of what was there nothing is changed. Conditions: a text of at most 2^20 bytes.
-/
import Derived.Test.YtnkknfnndoegpaaGreatDoorRows
import Derived.Test.YtnkknfnndoegpaaGreatDoorSplitP
namespace Go.Proofs.YtnkknfnndoegpaaGreatDoor.Splits
open Go.RowKit Texts Bytes
set_option linter.unusedVariables false

set_option maxHeartbeats 1000000 in
theorem specSplit (t : ByteArray) (ht : t.size ≤ 1048576) (c : UInt8) (w : World) :
    Calls Tryz.prog 9 #[.string t, .int .u8 (c.toNat : Int)] w fun e w' => (∃ a cap, e = .returned (.slice a (splitL c t.data.toList).length cap) ∧ StrsAt w' w.heap.size w'.heap.size a (splitL c t.data.toList).length (splitL c t.data.toList)) ∧ Below w.heap.size w w' := by
  have hc0 : 0 ≤ (c.toNat : Int) ∧ (c.toNat : Int) ≤ 255 := by have := c.toNat_lt; omega
  go_enter Tryz.func9, Tryz.ntmps9
  go_wp2_with fail
  go_loopw [5, 6, 7] (fun v f i wr => ∃ (a b : Nat) (out : List (List UInt8)), a ≤ b ∧ b ≤ t.size ∧ f = .int .i64 a ∧ i = .int .i64 b ∧ Hid (out ++ glue (part t a b) (splitL c (t.data.toList.drop b)) = splitL c t.data.toList) ∧ out.length ≤ b ∧ OwnS wr w.heap.size v out ∧ Below w.heap.size w wr) (fun _ _ i _ => t.size - (intOf i).toNat)
  case atStart => exact ⟨0, 0, [], by omega, by omega, rfl, rfl, Lib.hid (by rw [part_self, glue_nil (splitL_ne _ _)]; rfl), by simp, OwnS.made w _ (Nat.le_refl _), (Below.refl _ _).alloc (Nat.le_refl _) _⟩
  case round =>
    obtain ⟨a, b, out, hab, hbt, rfl, rfl, hrel, hol, hown, hb⟩ := hrel
    have HB := Lib.hid hb
    have hz := hb.size
    by_cases hlt : b < t.size
    · have hli : (b : Int) < (t.size : Int) := by omega
      have hbx : (0 : Int) ≤ (t[b].toNat : Int) ∧ (t[b].toNat : Int) ≤ 255 := by have := t[b].toNat_lt; omega
      by_cases hx : t[b] = c
      · have hhit := Lib.hid (split_hit hab hlt hx hrel.out)
        have hxi : (t[b].toNat : Int) = (c.toNat : Int) := by rw [hx]
        have hpe := part_extract t hbt (a := a)
        have hai : (a : Int) ≤ (b : Int) := by omega
        have hlen : out.length ≤ 1048576 := by omega
        clear hb hrel
        go_wp2_with (at_builtin; refine app_str rfl _ _ rfl w.heap.size _ out rfl (hown.alloc _) ⟨wr.heap.size, 0, none⟩ 1 rfl (part t a b) (one_new _ _ _) (by omega) (by simp; omega) ?_; intro v' w2 hown2 hb2)
        have HB2 := Lib.hid (HB.out.trans (((Below.refl wr.heap.size wr).alloc (Nat.le_refl _) (.cells #[.string ⟨(part t a b).toArray⟩] 9)).mono HB.out.size |>.trans (hb2.mono (by simp))))
        have hol2 : (out ++ [part t a b]).length ≤ b + 1 := by rw [List.length_append]; simp; omega
        clear hb2 hown
        go_roundw
        case rel => exact ⟨b + 1, b + 1, _, by omega, by omega, by go_num, by go_num, hhit, hol2, hown2, HB2.out⟩
        case measure => simp [intOf]; omega
      · have hmiss := Lib.hid (split_miss hab hlt hx hrel.out)
        have hxn : ((t[b].toNat : Int) == (c.toNat : Int)) = false := by
          rw [beq_eq_false_iff_ne]; intro e; exact hx (UInt8.toNat_inj.1 (by omega))
        have hxm : (t[b].toNat : Int) ≠ (c.toNat : Int) := by
          intro e; exact hx (UInt8.toNat_inj.1 (by omega))
        clear hb hrel
        go_wp2_with fail
        go_roundw
        case rel => exact ⟨a, b + 1, out, by omega, by omega, rfl, by go_num, hmiss, by omega, hown, HB.out⟩
        case measure => simp [intOf]; omega
    · obtain rfl : b = t.size := by omega
      have hend := Lib.hid (split_end hrel.out)
      have hpe := part_extract t (Nat.le_refl t.size) (a := a)
      have hai : (a : Int) ≤ (t.size : Int) := by omega
      have hlen : out.length ≤ 1048576 := by omega
      clear hb hrel hlt
      go_wp2_with (at_builtin; refine app_str rfl _ _ rfl w.heap.size _ out rfl (hown.alloc _) ⟨wr.heap.size, 0, none⟩ 1 rfl (part t a t.size) (one_new _ _ _) (by omega) (by simp; omega) ?_; intro v' w2 hown2 hb2)
      have HB2 := Lib.hid (HB.out.trans (((Below.refl wr.heap.size wr).alloc (Nat.le_refl _) (.cells #[.string ⟨(part t a t.size).toArray⟩] 9)).mono HB.out.size |>.trans (hb2.mono (by simp))))
      obtain ⟨a', cap', rfl, hst⟩ := hown2.strs
      rw [hend.out] at hst ⊢
      have HST := Lib.hid hst
      clear hb2 hown hst
      go_wp2_with fail
      go_ret
      exact ⟨⟨a', cap', rfl, HST.out⟩, HB2.out⟩
end Go.Proofs.YtnkknfnndoegpaaGreatDoor.Splits
