/-
  Contract: laws.heldFieldS tells that the marks are there still; of what was there nothing is changed. Conditions: marks from 1 to 9 000 000.
-/
import Derived.Test.YtceabbbmgfeofaaGreatDoorRows
import Derived.Test.YtceabbbmgfeofaaGreatDoorMarkL
namespace Go.Proofs.YtceabbbmgfeofaaGreatDoor.Rw
open Go.RowKit Decs
set_option linter.unusedVariables false
set_option maxRecDepth 100000

set_option maxHeartbeats 4000000 in
theorem heldFieldS (w : World) (A B : Nat) (a : Option Addr) (len cap : Nat) (l : List FieldP) (k : Nat) (hs : FieldsAt w A B a len (fieldsMark l k)) (hB : B ≤ w.heap.size) (h1 : 1 ≤ k) (hk : k + 6 * l.length ≤ 9000000) :
    Calls Tryz.prog 163 #[.slice a len cap, .int .i64 k] w fun e w' => e = .returned (.int .i64 ((k + 6 * l.length : Nat) : Int)) ∧ Below w.heap.size w w' := by
  have hll : l.length = len := by rw [← hs.1, fieldsMark_len]
  have hlen := hs.2.1
  have HS := Lib.hid hs
  clear hs
  go_enter Tryz.func163, Tryz.ntmps163
  go_wp2_with fail
  go_loopw [1, 5] (fun v i wr => ∃ (i' kk : Nat), i' ≤ len ∧ kk ≤ 9000000 ∧ Hid (kk = k + 6 * i') ∧ v = .int .i64 kk ∧ i = .int .i64 i' ∧ Below w.heap.size w wr) (fun _ i _ => len - (intOf i).toNat)
  case atStart => exact ⟨0, k, by omega, by omega, Lib.hid rfl, rfl, rfl, Below.refl _ _⟩
  case round =>
    obtain ⟨i, kk, hi, hk9, hkk, rfl, rfl, hb⟩ := hrel
    have HB := Lib.hid hb
    by_cases hlt : i < len
    · have hli : (i : Int) < (len : Int) := by omega
      have hkk2 : kk + 6 ≤ 9000000 := by have := hkk.out; omega
      obtain ⟨y, b, off, hd, rfl, hAb, hbb, hok, hc⟩ := (HS.out.below fieldLies (Nat.le_refl _) (hb.mono hB)).at hlt
      rw [fieldsMark_at l k i y hd, ← hkk.out] at hc
      obtain ⟨c0, c1, c2, c3, c4, c5⟩ := row6 (show RowN wr b (off + i * 6) [.string (mkT kk), .string (mkT (kk + 1)), .bool (((kk : Int) + 1 + 1) % 3 == 0), .bool (((kk : Int) + 1 + 1 + 1) % 3 == 0), .int .i64 ((kk : Int) + 1 + 1 + 1 + 1), .int .i64 ((kk : Int) + 1 + 1 + 1 + 1 + 1)] from hc)
      have CM : Hid (∀ w, Calls Tryz.prog 160 #[.int .i64 kk] w fun e w' => e = .returned (.string (mkT kk)) ∧ Below w.heap.size w w') := Lib.hid fun w => markText kk (by have := hkk.out; omega) (by omega) w
      have CM2 : Hid (∀ w, Calls Tryz.prog 160 #[.int .i64 ((kk : Int) + 1)] w fun e w' => e = .returned (.string (mkT (kk + 1))) ∧ Below w.heap.size w w') := Lib.hid fun w => markText (kk + 1) (by omega) (by omega) w
      have hbd : b < wr.drew.heap.size := by have := HB.out.size; show b < wr.heap.size; omega
      have x0 : wr.drew.cell? ⟨b, off + i * 6, none⟩ = some (.string (mkT kk)) := c0
      have x1 : wr.drew.cell? ⟨b, off + i * 6 + 1, none⟩ = some (.string (mkT (kk + 1))) := c1
      have x2 : Hid (wr.drew.cell? ⟨b, off + i * 6 + 2, none⟩ = some (.bool (((kk : Int) + 1 + 1) % 3 == 0))) := Lib.hid c2
      have x3 : Hid (wr.drew.cell? ⟨b, off + i * 6 + 3, none⟩ = some (.bool (((kk : Int) + 1 + 1 + 1) % 3 == 0))) := Lib.hid c3
      have x4 : Hid (wr.drew.cell? ⟨b, off + i * 6 + 4, none⟩ = some (.int .i64 ((kk : Int) + 1 + 1 + 1 + 1))) := Lib.hid c4
      have x5 : Hid (wr.drew.cell? ⟨b, off + i * 6 + 5, none⟩ = some (.int .i64 ((kk : Int) + 1 + 1 + 1 + 1 + 1))) := Lib.hid c5
      have HBd := Lib.hid HB.out.drew
      clear hd hb hlt hok hc c1 c2 c3 c4 c5
      go_wp2_with fail
      go_region_held3 (fun w' => w'.cell? ⟨b, off + i * 6, none⟩ = some (.string (mkT kk))) (go_keep)
        (first | (go_at_call 160; refine (CM.out _).mono ?_; rintro e w2 ⟨rfl, hb2⟩; have d0 := kcell hb2 hbd x0))
      all_goals
        have HB2 := Lib.hid (HBd.out.trans (hb2.mono HBd.out.size))
        have d1 := kcell hb2 hbd x1
        have d2 := Lib.hid (kcell hb2 hbd x2.out)
        have d3 := Lib.hid (kcell hb2 hbd x3.out)
        have d4 := Lib.hid (kcell hb2 hbd x4.out)
        have d5 := Lib.hid (kcell hb2 hbd x5.out)
        have hbd2 : b < w2.drew.heap.size := Nat.lt_of_lt_of_le hbd hb2.size
        have y1 : w2.drew.cell? ⟨b, off + i * 6 + 1, none⟩ = some (.string (mkT (kk + 1))) := d1
        have HB2d := Lib.hid HB2.out.drew
        clear hb2 c0 x0 x1 d0 HB2 x2 x3 x4 x5
        go_wp2_with fail
        go_region_held3 (fun w' => w'.cell? ⟨b, off + i * 6 + 1, none⟩ = some (.string (mkT (kk + 1)))) (go_keep)
          (first | (go_at_call 160; refine (CM2.out _).mono ?_; rintro e w3 ⟨rfl, hb3⟩; have e1 := kcell hb3 hbd2 y1))
        all_goals
          have HB3 := Lib.hid (HB2d.out.trans (hb3.mono HB2d.out.size))
          have e2 := kcell (w' := w3) hb3 hbd2 d2.out
          have e3 := kcell (w' := w3) hb3 hbd2 d3.out
          have e4 := kcell (w' := w3) hb3 hbd2 d4.out
          have e5 := kcell (w' := w3) hb3 hbd2 d5.out
          clear hb3 y1 d1 HB2d e1 d2 d3 d4 d5
          go_wp2_with fail
          go_roundw
          case rel => exact ⟨i + 1, kk + 6, by omega, hkk2, Lib.hid (by have := hkk.out; omega), by go_num, by go_num, HB3.out⟩
          case measure => simp [intOf]; omega
    · obtain rfl : i = len := by omega
      have hfin := Lib.hid hkk.out
      clear hlt hb
      go_wp2_with fail
      go_ret
      exact ⟨ret_i (by rw [hfin.out, hll]), HB.out⟩
end Go.Proofs.YtceabbbmgfeofaaGreatDoor.Rw
