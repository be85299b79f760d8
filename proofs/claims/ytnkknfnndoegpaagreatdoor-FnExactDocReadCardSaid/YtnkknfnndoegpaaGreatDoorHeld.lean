/-
  Contracts: laws.heldSelS tells that marks are there still; nothing is changed. Conditions: marked selections in memory.
-/
import Derived.Test.YtnkknfnndoegpaaGreatDoorRows
import Derived.Test.YtnkknfnndoegpaaGreatDoorMark
import Derived.Deep.RegionHeld3
namespace Go.Proofs.YtnkknfnndoegpaaGreatDoor.Selss
open Go.RowKit Decs Texts Bytes
set_option linter.unusedVariables false
set_option maxRecDepth 100000

set_option maxHeartbeats 4000000 in
theorem heldSelS : ∀ (n : Nat) (s : Sels), s.all < n → ∀ (w : World) (A B : Nat) (a : Option Addr) (cap k : Nat), SelsAt w A B a s.len (s.mark k) → B ≤ w.heap.size → 1 ≤ k → k + 4 * s.all ≤ 900000 →
    Calls Tryz.prog 31 #[.slice a s.len cap, .int .i64 k] w fun e w' => e = .returned (.int .i64 ((k + 4 * s.all : Nat) : Int)) ∧ Below w.heap.size w w' := by
  intro n
  induction n with
  | zero => intro s h; omega
  | succ n ih =>
    intro s hall w A B a cap k hs hB h1 hk
    have hlen : s.len ≤ 9223372036854775807 := by have := hs.2.1; rw [Sels.mark_len] at this; exact this
    have IH := Lib.hid ih
    have HS := Lib.hid hs
    clear ih hs
    go_enter Tryz.func31, Tryz.ntmps31
    go_wp2_with fail
    go_loopw [1, 5] (fun v i wr => ∃ (i' kk : Nat), i' ≤ s.len ∧ Hid (kk = k + 4 * (s.all - (s.drop i').all)) ∧ kk ≤ 900000 ∧ v = .int .i64 kk ∧ i = .int .i64 i' ∧ Below w.heap.size w wr) (fun _ i _ => s.len - (intOf i).toNat)
    case atStart => exact ⟨0, k, by omega, Lib.hid (by rw [Sels.drop_zero]; omega), by omega, rfl, rfl, Below.refl _ _⟩
    case round =>
      obtain ⟨i, kk, hi, hkk, hk9, rfl, rfl, hb⟩ := hrel
      have HB := Lib.hid hb
      by_cases hlt : i < s.len
      · have hli : (i : Int) < (s.len : Int) := by omega
        obtain ⟨k0, key0, nm0, f0, u, r, hd⟩ := Sels.drop_at hlt
        have hst := Lib.hid (Sels.all_step hd)
        have hua : u.all < n := by have := Sels.all_drop hd; omega
        obtain ⟨kx, key, nm, f, u2, r2, b, off, a', cap', hd2, rfl, hbb, hok, ⟨hc0, hc1, hc2, hc3, hc4⟩, hu⟩ := (HS.out.below (Nat.le_refl _) (hb.mono hB)).at hlt
        rw [Sels.mark_drop, hd] at hd2
        rw [← hd, ← hkk.out, hd] at hd2
        cases hd2
        rw [Sels.mark_len] at hc4 hu
        have hkk2 : kk + 4 + 4 * u.all ≤ 900000 := by have e1 := hkk.out; have e2 := hst.out; have e3 := Sels.drop_all i s; omega
        have HU := Lib.hid hu
        have CM1 : Hid (∀ w, Calls Tryz.prog 51 #[.int .i64 ((kk : Int) + 1)] w fun e w' => e = .returned (.string (mkT (kk + 1))) ∧ Below w.heap.size w w') := Lib.hid fun w => markText (kk + 1) (by omega) (by omega) w
        have CM2 : Hid (∀ w, Calls Tryz.prog 51 #[.int .i64 ((kk : Int) + 1 + 1)] w fun e w' => e = .returned (.string (mkT (kk + 2))) ∧ Below w.heap.size w w') := Lib.hid fun w => markText (kk + 2) (by omega) (by omega) w
        have CU : Hid (∀ w, SelsAt w A B a' u.len (u.mark (kk + 4)) → B ≤ w.heap.size → Calls Tryz.prog 31 #[.slice a' u.len cap', .int .i64 ((kk : Int) + 1 + 1 + 1 + 1)] w fun e w' => e = .returned (.int .i64 ((kk + 4 + 4 * u.all : Nat) : Int)) ∧ Below w.heap.size w w') := Lib.hid fun w h1 h2 => IH.out u hua w A B a' cap' (kk + 4) h1 h2 (by omega) (by omega)
        have hkn : Hid (kk + 4 + 4 * u.all = k + 4 * (s.all - (s.drop (i + 1)).all)) := Lib.hid (by
          have e1 := hkk.out; have e2 := hst.out; have e3 := Sels.drop_all i s; omega)
        have hblt : b < wr.heap.size := by have := HB.out.size; omega
        have hbd : b < wr.drew.heap.size := hblt
        have x1 : wr.drew.cell? ⟨b, off + i * 5 + 1, none⟩ = some (.string (mkT (kk + 1))) := hc1
        have x2 : wr.drew.cell? ⟨b, off + i * 5 + 2, none⟩ = some (.string (mkT (kk + 2))) := hc2
        have x3 : wr.drew.cell? ⟨b, off + i * 5 + 3, none⟩ = some (.int .i64 ((kk : Int) + 3)) := hc3
        have x4 : wr.drew.cell? ⟨b, off + i * 5 + 4, none⟩ = some (.slice a' u.len cap') := hc4
        have HBd := Lib.hid HB.out.drew
        have HUd : Hid (SelsAt wr.drew A B a' u.len (u.mark (kk + 4))) := Lib.hid hu.drew
        clear hd hb hlt hok hu HU
        go_wp2_with fail
        go_region_held3 (fun w' => w'.cell? ⟨b, off + i * 5 + 1, none⟩ = some (.string (mkT (kk + 1)))) (go_keep)
          (first | (go_at_call 51; refine (CM1.out _).mono ?_; rintro e w2 ⟨rfl, hb2⟩; have d1 := kcell hb2 hbd x1))
        all_goals
          have HB2 := Lib.hid (HBd.out.trans (hb2.mono HBd.out.size))
          have d2 := kcell hb2 hbd x2
          have d3 := kcell hb2 hbd x3
          have d4 := kcell hb2 hbd x4
          have hblt2 : b < w2.heap.size := Nat.lt_of_lt_of_le hbd hb2.size
          have hbd2 : b < w2.drew.heap.size := hblt2
          have HU2 := Lib.hid (HUd.out.below (Nat.le_trans hB HBd.out.size) hb2).drew
          have y2 : w2.drew.cell? ⟨b, off + i * 5 + 2, none⟩ = some (.string (mkT (kk + 2))) := d2
          have y3 : w2.drew.cell? ⟨b, off + i * 5 + 3, none⟩ = some (.int .i64 ((kk : Int) + 3)) := d3
          have y4 : w2.drew.cell? ⟨b, off + i * 5 + 4, none⟩ = some (.slice a' u.len cap') := d4
          have HB2d := Lib.hid HB2.out.drew
          clear hb2 hc0 hc1 hc2 hc3 hc4 x1 x2 x3 x4 d1 d3 d4 HB2
          go_wp2_with fail
          go_region_held3 (fun w' => w'.cell? ⟨b, off + i * 5 + 2, none⟩ = some (.string (mkT (kk + 2)))) (go_keep)
            (first | (go_at_call 51; refine (CM2.out _).mono ?_; rintro e w3 ⟨rfl, hb3⟩; have e2 := kcell hb3 hbd2 y2))
          all_goals
            have HB3 := Lib.hid (HB2d.out.trans (hb3.mono HB2d.out.size))
            have e3 := kcell hb3 hbd2 y3
            have e4 := kcell hb3 hbd2 y4
            have HU3 := Lib.hid (HU2.out.below (Nat.le_trans hB HB2d.out.size) hb3)
            clear hb3 y2 y3 y4 d2 HB2d
            go_wp2_with fail
            refine (CU.out _ HU3.out (Nat.le_trans hB HB3.out.size)).mono ?_
            rintro e w4 ⟨rfl, hb4⟩
            have HB4 := Lib.hid (HB3.out.trans (hb4.mono HB3.out.size))
            clear hb4 e3 e4
            go_wp2_with fail
            go_roundw
            case rel => exact ⟨i + 1, kk + 4 + 4 * u.all, by omega, hkn, hkk2, rfl, by go_num, HB4.out⟩
            case measure => simp [intOf]; omega
      · obtain rfl : i = s.len := by omega
        have hfin : Hid (kk = k + 4 * s.all) := Lib.hid (by have e1 := hkk.out; rw [Sels.drop_end (Nat.le_refl _)] at e1; simpa [Sels.all] using e1)
        clear hlt hb
        go_wp2_with fail
        go_ret
        exact ⟨ret_i (by rw [hfin.out]), HB.out⟩
end Go.Proofs.YtnkknfnndoegpaaGreatDoor.Selss
