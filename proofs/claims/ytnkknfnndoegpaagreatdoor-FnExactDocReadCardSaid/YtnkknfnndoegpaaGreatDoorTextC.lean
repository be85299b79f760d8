/-
  Contracts: spec.l03Text answers the text of selections that may be; of what was there nothing is changed. Conditions: in memory, no more than 1000 of them.
-/
import Derived.Test.YtnkknfnndoegpaaGreatDoorRows
import Derived.Test.YtnkknfnndoegpaaGreatDoorTextS
namespace Go.Proofs.YtnkknfnndoegpaaGreatDoor.Selss
open Go.RowKit Words Decs
set_option linter.unusedVariables false
set_option maxRecDepth 100000

theorem selsB_drop {s : Sels} {deep : Int} (h : selsB s deep = true) : ∀ i, selsB (s.drop i) deep = true
  | 0 => h
  | i + 1 => by
    have ih := selsB_drop h i
    cases hd : s.drop i with
    | nil =>
      have h1 := Sels.drop_len i s
      rw [hd] at h1; simp only [Sels.len] at h1
      rw [Sels.drop_end (by omega)]; rfl
    | cons k key nm f u r =>
      rw [hd] at ih
      rw [Sels.drop_succ i s hd]
      unfold selsB at ih
      simp only [Bool.and_eq_true] at ih
      exact ih.2
set_option maxRecDepth 100000 in
set_option maxHeartbeats 4000000 in
theorem specText : ∀ (n : Nat) (s : Sels), s.all < n → ∀ (w : World) (A B : Nat) (a : Option Addr) (cap : Nat) (deep : Int), SelsAt w A B a s.len s → B ≤ w.heap.size → selsB s deep = true → s.all ≤ 1000 →
    Calls Tryz.prog 21 #[.slice a s.len cap] w fun e w' => e = .returned (.string s.text) ∧ Below w.heap.size w w' := by
  intro n
  induction n with
  | zero => intro s h; omega
  | succ n ih =>
    intro s hall w A B a cap deep hs hB hsel hmany
    have hlen := hs.2.1
    have IH := Lib.hid ih
    have HS := Lib.hid hs
    have HSEL := Lib.hid hsel
    clear ih hs hsel
    go_enter Tryz.func21, Tryz.ntmps21
    go_wp2_with fail
    go_loopw [3, 4] (fun t i wr => ∃ (i' : Nat) (T : ByteArray), i' ≤ s.len ∧ t = .string T ∧ Hid (T ++ (s.drop i').body = sB [123, 32] ++ s.body) ∧ i = .int .i64 i' ∧ Below w.heap.size w wr) (fun _ i _ => s.len - (intOf i).toNat)
    case atStart => exact ⟨0, _, by omega, rfl, Lib.hid rfl, rfl, Below.refl _ _⟩
    case round =>
      obtain ⟨i, T, hi, rfl, hT, rfl, hb⟩ := hrel
      have HB := Lib.hid hb
      have hbs := body_size s deep HSEL.out
      have hTs : T.size ≤ 40002 := by
        have := congrArg ByteArray.size hT.out
        simp [ByteArray.size_append, sB_size] at this; omega
      by_cases hlt : i < s.len
      · have hli : (i : Int) < (s.len : Int) := by omega
        obtain ⟨k, key, nm, f, u, r, b, off, a', cap', hd, rfl, hbb, hok, ⟨hc0, hc1, hc2, hc3, hc4⟩, hu⟩ := (HS.out.below (Nat.le_refl _) (hb.mono hB)).at hlt
        have hua : u.all < n := by have := Sels.all_drop hd; omega
        have hum : u.all ≤ 1000 := by have := Sels.all_drop hd; omega
        have hst := Lib.hid (body_step hd)
        have hul := hu.2.1
        have hsd := selsB_drop HSEL.out i
        rw [hd] at hsd
        unfold selsB at hsd
        simp only [Bool.and_eq_true] at hsd
        obtain ⟨⟨⟨hone, hdeep⟩, husel⟩, _⟩ := hsd
        have htx := text_size husel
        have HUN : Hid (∀ (w : World), SelsAt w A B a' u.len u → B ≤ w.heap.size → Calls Tryz.prog 21 #[.slice a' u.len cap'] w fun e w' => e = .returned (.string u.text) ∧ Below w.heap.size w w') := Lib.hid fun w h1 h2 => IH.out u hua w A B a' cap' _ h1 h2 husel hum
        have HU := Lib.hid hu
        have HA : Hid (∀ o, Below w.heap.size w (wr.alloc o)) := Lib.hid fun o => HB.out.alloc HB.out.size o
        have HA2 : Hid (∀ o, Below wr.heap.size wr (wr.alloc o)) := Lib.hid fun o => (Below.refl _ _).alloc (Nat.le_refl _) o
        have htx2 : u.text.size ≤ 40003 := by omega
        have hcs := oneB_cases hone
        have hds : f ≠ -1 → k = 1 → (decB f).size ≤ 3 := fun h h1 => by
          rcases hcs with ⟨_, _, _, h3, h4⟩ | ⟨h2, _⟩ | ⟨h2, _⟩
          · exact decB_size (by omega) h4
          · omega
          · omega
        clear hlt hd hb hu hok husel hone hdeep htx
        rcases hcs with ⟨rfl, hks, hns, hf0, hf1⟩ | ⟨rfl, hns, hup⟩ | ⟨rfl, hns, hu0⟩
        · have hx1 : (1 : Int) ≠ 3 := by decide
          by_cases hkn : key = nm
          · subst hkn
            by_cases hfm : f = -1
            · subst hfm
              by_cases hu0 : u.len = 0
              · have hui : (u.len : Int) = 0 := by omega
                have huj : ((u.len : Int) == 0) = true := by rw [hui]; rfl
                go_wp2_with fail
                go_roundw
                case rel => exact ⟨i + 1, _, by omega, rfl, Lib.hid (by rw [← hT.out, hst.out]; simp [headT, fieldT, sB, ByteArray.append_assoc, hu0]), by go_num, HA.out _⟩
                case measure => simp [intOf]; omega
              · have hu1 : u.len ≠ 0 := hu0
                have hui : (0 : Int) < (u.len : Int) := by omega
                have huj : ((u.len : Int) == 0) = false := by rw [beq_eq_false_iff_ne]; omega
                go_wp2_with fail
                refine (HUN.out _ (HU.out.below (Nat.le_trans hB HB.out.size) (HA2.out _)) (Nat.le_trans hB (HA.out _).size)).mono ?_
                rintro e w1 ⟨rfl, hb1⟩
                have HB1 := Lib.hid ((HA.out _).trans (hb1.mono (HA.out _).size))
                clear hb1
                go_wp2_with fail
                go_roundw
                case rel => exact ⟨i + 1, _, by omega, rfl, Lib.hid (by rw [← hT.out, hst.out]; simp [headT, fieldT, sB, ByteArray.append_assoc, hu1]), by go_num, HB1.out⟩
                case measure => simp [intOf]; omega
            · have hfn : 0 ≤ f := by omega
              have hfb : (f == -1) = false := by rw [beq_eq_false_iff_ne]; exact hfm
              have hd3 := hds hfm rfl
              have CD : Hid (∀ w, Calls Tryz.prog 39 #[.int .i64 f] w fun e w' => e = .returned (.string (decB f)) ∧ Below w.heap.size w w') := Lib.hid fun w => by
                obtain ⟨q, rfl⟩ := Int.eq_ofNat_of_zero_le hfn
                exact specDec q (by omega) w
              go_wp2_with fail
              refine (CD.out _).mono ?_
              rintro e w2 ⟨rfl, hb2⟩
              have HA0 := Lib.hid ((HA.out _).trans (hb2.mono (HA.out _).size))
              have HX0 := Lib.hid ((HA2.out _).trans (hb2.mono (HA2.out _).size))
              have q4 := hb2.cell (p := ⟨wr.heap.size, 4, none⟩) (by simp)
              simp at q4
              clear hb2
              by_cases hu0 : u.len = 0
              · have hui : (u.len : Int) = 0 := by omega
                have huj : ((u.len : Int) == 0) = true := by rw [hui]; rfl
                go_wp2_with fail
                go_roundw
                case rel => exact ⟨i + 1, _, by omega, rfl, Lib.hid (by rw [← hT.out, hst.out]; simp [headT, fieldT, sB, ByteArray.append_assoc, hfm, hu0]), by go_num, HA0.out⟩
                case measure => simp [intOf]; omega
              · have hu1 : u.len ≠ 0 := hu0
                have hui : (0 : Int) < (u.len : Int) := by omega
                have huj : ((u.len : Int) == 0) = false := by rw [beq_eq_false_iff_ne]; omega
                go_wp2_with fail
                refine (HUN.out _ (HU.out.below (Nat.le_trans hB HB.out.size) HX0.out) (Nat.le_trans hB HA0.out.size)).mono ?_
                rintro e w1 ⟨rfl, hb1⟩
                have HB1 := Lib.hid (HA0.out.trans (hb1.mono HA0.out.size))
                clear hb1
                go_wp2_with fail
                go_roundw
                case rel => exact ⟨i + 1, _, by omega, rfl, Lib.hid (by rw [← hT.out, hst.out]; simp [headT, fieldT, sB, ByteArray.append_assoc, hfm, hu1]), by go_num, HB1.out⟩
                case measure => simp [intOf]; omega
          · have hkn1 := toList_ne hkn
            have hkn2 := toList_beq hkn
            by_cases hfm : f = -1
            · subst hfm
              by_cases hu0 : u.len = 0
              · have hui : (u.len : Int) = 0 := by omega
                have huj : ((u.len : Int) == 0) = true := by rw [hui]; rfl
                go_wp2_with fail
                go_roundw
                case rel => exact ⟨i + 1, _, by omega, rfl, Lib.hid (by rw [← hT.out, hst.out]; simp [headT, fieldT, sB, ByteArray.append_assoc, hkn, hu0]), by go_num, HA.out _⟩
                case measure => simp [intOf]; omega
              · have hu1 : u.len ≠ 0 := hu0
                have hui : (0 : Int) < (u.len : Int) := by omega
                have huj : ((u.len : Int) == 0) = false := by rw [beq_eq_false_iff_ne]; omega
                go_wp2_with fail
                refine (HUN.out _ (HU.out.below (Nat.le_trans hB HB.out.size) (HA2.out _)) (Nat.le_trans hB (HA.out _).size)).mono ?_
                rintro e w1 ⟨rfl, hb1⟩
                have HB1 := Lib.hid ((HA.out _).trans (hb1.mono (HA.out _).size))
                clear hb1
                go_wp2_with fail
                go_roundw
                case rel => exact ⟨i + 1, _, by omega, rfl, Lib.hid (by rw [← hT.out, hst.out]; simp [headT, fieldT, sB, ByteArray.append_assoc, hkn, hu1]), by go_num, HB1.out⟩
                case measure => simp [intOf]; omega
            · have hfn : 0 ≤ f := by omega
              have hfb : (f == -1) = false := by rw [beq_eq_false_iff_ne]; exact hfm
              have hd3 := hds hfm rfl
              have CD : Hid (∀ w, Calls Tryz.prog 39 #[.int .i64 f] w fun e w' => e = .returned (.string (decB f)) ∧ Below w.heap.size w w') := Lib.hid fun w => by
                obtain ⟨q, rfl⟩ := Int.eq_ofNat_of_zero_le hfn
                exact specDec q (by omega) w
              go_wp2_with fail
              refine (CD.out _).mono ?_
              rintro e w2 ⟨rfl, hb2⟩
              have HA0 := Lib.hid ((HA.out _).trans (hb2.mono (HA.out _).size))
              have HX0 := Lib.hid ((HA2.out _).trans (hb2.mono (HA2.out _).size))
              have q4 := hb2.cell (p := ⟨wr.heap.size, 4, none⟩) (by simp)
              simp at q4
              clear hb2
              by_cases hu0 : u.len = 0
              · have hui : (u.len : Int) = 0 := by omega
                have huj : ((u.len : Int) == 0) = true := by rw [hui]; rfl
                go_wp2_with fail
                go_roundw
                case rel => exact ⟨i + 1, _, by omega, rfl, Lib.hid (by rw [← hT.out, hst.out]; simp [headT, fieldT, sB, ByteArray.append_assoc, hkn, hfm, hu0]), by go_num, HA0.out⟩
                case measure => simp [intOf]; omega
              · have hu1 : u.len ≠ 0 := hu0
                have hui : (0 : Int) < (u.len : Int) := by omega
                have huj : ((u.len : Int) == 0) = false := by rw [beq_eq_false_iff_ne]; omega
                go_wp2_with fail
                refine (HUN.out _ (HU.out.below (Nat.le_trans hB HB.out.size) HX0.out) (Nat.le_trans hB HA0.out.size)).mono ?_
                rintro e w1 ⟨rfl, hb1⟩
                have HB1 := Lib.hid (HA0.out.trans (hb1.mono HA0.out.size))
                clear hb1
                go_wp2_with fail
                go_roundw
                case rel => exact ⟨i + 1, _, by omega, rfl, Lib.hid (by rw [← hT.out, hst.out]; simp [headT, fieldT, sB, ByteArray.append_assoc, hkn, hfm, hu1]), by go_num, HB1.out⟩
                case measure => simp [intOf]; omega
        · have hx1 : (2 : Int) ≠ 3 := by decide
          have hu1 : u.len ≠ 0 := by omega
          have hui : (0 : Int) < (u.len : Int) := by omega
          have huj : ((u.len : Int) == 0) = false := by rw [beq_eq_false_iff_ne]; omega
          go_wp2_with fail
          refine (HUN.out _ (HU.out.below (Nat.le_trans hB HB.out.size) (HA2.out _)) (Nat.le_trans hB (HA.out _).size)).mono ?_
          rintro e w1 ⟨rfl, hb1⟩
          have HB1 := Lib.hid ((HA.out _).trans (hb1.mono (HA.out _).size))
          clear hb1
          go_wp2_with fail
          go_roundw
          case rel => exact ⟨i + 1, _, by omega, rfl, Lib.hid (by rw [← hT.out, hst.out]; simp [headT, sB, ByteArray.append_assoc, hu1]), by go_num, HB1.out⟩
          case measure => simp [intOf]; omega
        · have hx1 : (3 : Int) = 3 := rfl
          go_wp2_with fail
          go_roundw
          case rel => exact ⟨i + 1, _, by omega, rfl, Lib.hid (by rw [← hT.out, hst.out]; simp [headT, sB, ByteArray.append_assoc, hu0]), by go_num, HA.out _⟩
          case measure => simp [intOf]; omega
      · obtain rfl : i = s.len := by omega
        have hf : Hid (T ++ sB [125] = s.text) := Lib.hid (by
          have := hT.out
          rw [Sels.drop_end (Nat.le_refl _)] at this
          simp only [Sels.body, ByteArray.append_empty] at this
          rw [this]; rfl)
        clear hlt hb
        go_wp2_with fail
        go_ret
        exact ⟨Decs.ret_string hf.out, HB.out⟩
end Go.Proofs.YtnkknfnndoegpaaGreatDoor.Selss
