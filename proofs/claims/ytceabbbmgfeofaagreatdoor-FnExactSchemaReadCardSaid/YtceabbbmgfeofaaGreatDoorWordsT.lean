/-
  Contracts: impl.fieldText, the kinds' words: how a field, a line is written; of what was there nothing is changed. Conditions: right types; the library's table of powers of ten reads as the program lays it.
-/
import Derived.Test.YtceabbbmgfeofaaGreatDoorRows
import Derived.Test.YtceabbbmgfeofaaGreatDoorVarsR
import Derived.Test.YtceabbbmgfeofaaGreatDoorKindE
import Derived.Test.YtceabbbmgfeofaaGreatDoorOwnRw
import Derived.Deep.RegionWith
namespace Go.Proofs.YtceabbbmgfeofaaGreatDoor.Rw
open Go.RowKit Words Decs Splits
set_option linter.unusedVariables false
set_option maxRecDepth 100000

/-- A field's word, as the program writes it. -/
def fwordT (f : FieldP) : ByteArray := ((f.name ++ cB [58]) ++ f.typ) ++ tailT f
theorem fword_bL (f : FieldP) : bL (fwordT f) = wordT f := by unfold fwordT wordT; rw [bL_append, bL_append, bL_append, bL_cB]; simp
theorem decQ_size (f : Int) (hf : OkI f) : (decB f).size ≤ 20 := by
  unfold OkI at hf
  have h20 : ∀ m : Nat, m ≤ 9223372036854775808 → (decL m).length ≤ 19 := fun m hm => lenL 18 m (by have : (10 : Nat) ^ (18 + 1) = 10000000000000000000 := by decide
                                                                                                    omega)
  have := h20 f.natAbs (by omega)
  unfold decB
  simp only [ByteArray.size, List.size_toArray, List.length_append]
  split <;> simp <;> omega

set_option maxHeartbeats 4000000 in
theorem implFieldText (w : World) (s : List TypeP) (f : FieldP) (hf : FieldOk s f) (hok : f.ok) (B : Nat) (hp : Decs.Pow B w) (hB : B ≤ w.heap.size) :
    Calls Tryz.prog 263 #[.agg f.cells.toArray] w fun e w' => e = .returned (.string (fwordT f)) ∧ Below w.heap.size w w' := by
  have HA : Hid (∀ o, Below w.heap.size w (w.alloc o)) := Lib.hid fun o => (Below.refl _ _).alloc (Nat.le_refl _) o
  have hn := (word_small hf.word).2
  have ht := (type_small hf.typ).2
  have hsz := sized_cases hf.sized
  obtain ⟨_, _, hs, hc⟩ := hok
  have CF : Hid (∀ (n : Int), OkI n → ∀ w' : World, Below w.heap.size w w' → Calls Tryz.prog 267 #[.int .i64 n, .int .i64 10] w' fun e w'' => e = .returned (.string (decB n)) ∧ Below w'.heap.size w' w'') := Lib.hid fun n hn w' h => fmtInt n hn.1 hn.2 B w' (hp.over hB h)
  have hT : Hid (fwordT f = ((f.name ++ ⟨#[58]⟩) ++ f.typ) ++ tailT f) := Lib.hid rfl
  have hTT : Hid (tailT f = ((if f.list = true ∧ f.cap = 0 then (cB [91] ++ decB f.size) ++ cB [93] else ByteArray.empty) ++ (if f.list = true ∧ 0 < f.cap then (cB [91, 60] ++ decB f.cap) ++ cB [93] else ByteArray.empty)) ++ (if f.must = true then cB [33] else ByteArray.empty)) := Lib.hid rfl
  have hd1 := decQ_size f.size hs
  have hd2 := decQ_size f.cap hc
  have C1 := Lib.hid (CF.out f.size hs)
  have C2 := Lib.hid (CF.out f.cap hc)
  obtain ⟨nm, tp, ls, mu, sz, cp⟩ := f
  simp only [FieldP.cells] at hT hTT hd1 hd2 C1 C2 hn ht hsz ⊢
  generalize fwordT ⟨nm, tp, ls, mu, sz, cp⟩ = fw at *
  generalize tailT ⟨nm, tp, ls, mu, sz, cp⟩ = tt at *
  obtain ⟨ds, hds⟩ : ∃ d, decB sz = d := ⟨_, rfl⟩
  obtain ⟨dc, hdc⟩ : ∃ d, decB cp = d := ⟨_, rfl⟩
  rw [hds] at hTT hd1 C1
  rw [hdc] at hTT hd2 C2
  clear hds hdc CF hp hs hc
  rcases hsz with ⟨rfl, rfl, rfl⟩ | ⟨rfl, rfl, h3, h4⟩ | ⟨rfl, rfl, h3, h4⟩
  · cases mu
    · have hf : Hid ((nm ++ ⟨#[58]⟩) ++ tp = fw) := Lib.hid (by rw [hT.out, hTT.out]; simp)
      go_enter Tryz.func263, Tryz.ntmps263
      go_wp2_with fail
      go_ret
      exact ⟨ret_string hf.out, HA.out _⟩
    · have hf : Hid (((nm ++ ⟨#[58]⟩) ++ tp) ++ ⟨#[33]⟩ = fw) := Lib.hid (by rw [hT.out, hTT.out]; simp [cB])
      go_enter Tryz.func263, Tryz.ntmps263
      go_wp2_with fail
      go_ret
      exact ⟨ret_string hf.out, HA.out _⟩
  · cases mu
    · have hf : Hid (((nm ++ ⟨#[58]⟩) ++ tp) ++ ((⟨#[91]⟩ ++ ds) ++ ⟨#[93]⟩) = fw) := Lib.hid (by rw [hT.out, hTT.out]; simp [cB])
      go_enter Tryz.func263, Tryz.ntmps263
      go_wp2_with fail
      refine (C1.out _ (HA.out _)).mono ?_
      rintro e w1 ⟨rfl, hb1⟩
      have HB1 := Lib.hid ((HA.out _).trans (hb1.mono (HA.out _).size))
      have k1 := (keep6 ((hb1.block w.heap.size (by simp)).trans (heap_alloc_new w _))).1
      obtain ⟨k0, k1, k2, k3, k4, k5⟩ := k1
      clear hb1
      go_wp2_with fail
      go_ret
      exact ⟨ret_string hf.out, HB1.out⟩
    · have hf : Hid ((((nm ++ ⟨#[58]⟩) ++ tp) ++ ((⟨#[91]⟩ ++ ds) ++ ⟨#[93]⟩)) ++ ⟨#[33]⟩ = fw) := Lib.hid (by rw [hT.out, hTT.out]; simp [cB, ByteArray.append_assoc])
      go_enter Tryz.func263, Tryz.ntmps263
      go_wp2_with fail
      refine (C1.out _ (HA.out _)).mono ?_
      rintro e w1 ⟨rfl, hb1⟩
      have HB1 := Lib.hid ((HA.out _).trans (hb1.mono (HA.out _).size))
      have k1 := (keep6 ((hb1.block w.heap.size (by simp)).trans (heap_alloc_new w _))).1
      obtain ⟨k0, k1, k2, k3, k4, k5⟩ := k1
      clear hb1
      go_wp2_with fail
      go_ret
      exact ⟨ret_string hf.out, HB1.out⟩
  · have hcp : (0 : Int) < cp := by omega
    have hcz : ¬ cp = 0 := by omega
    cases mu
    · have hf : Hid (((nm ++ ⟨#[58]⟩) ++ tp) ++ ((⟨#[91, 60]⟩ ++ dc) ++ ⟨#[93]⟩) = fw) := Lib.hid (by rw [hT.out, hTT.out]; simp [cB, hcp, hcz])
      go_enter Tryz.func263, Tryz.ntmps263
      go_wp2_with fail
      refine (C2.out _ (HA.out _)).mono ?_
      rintro e w1 ⟨rfl, hb1⟩
      have HB1 := Lib.hid ((HA.out _).trans (hb1.mono (HA.out _).size))
      have k1 := (keep6 ((hb1.block w.heap.size (by simp)).trans (heap_alloc_new w _))).1
      obtain ⟨k0, k1, k2, k3, k4, k5⟩ := k1
      clear hb1
      go_wp2_with fail
      go_ret
      exact ⟨ret_string hf.out, HB1.out⟩
    · have hf : Hid ((((nm ++ ⟨#[58]⟩) ++ tp) ++ ((⟨#[91, 60]⟩ ++ dc) ++ ⟨#[93]⟩)) ++ ⟨#[33]⟩ = fw) := Lib.hid (by rw [hT.out, hTT.out]; simp [cB, hcp, hcz, ByteArray.append_assoc])
      go_enter Tryz.func263, Tryz.ntmps263
      go_wp2_with fail
      refine (C2.out _ (HA.out _)).mono ?_
      rintro e w1 ⟨rfl, hb1⟩
      have HB1 := Lib.hid ((HA.out _).trans (hb1.mono (HA.out _).size))
      have k1 := (keep6 ((hb1.block w.heap.size (by simp)).trans (heap_alloc_new w _))).1
      obtain ⟨k0, k1, k2, k3, k4, k5⟩ := k1
      clear hb1
      go_wp2_with fail
      go_ret
      exact ⟨ret_string hf.out, HB1.out⟩
end Go.Proofs.YtceabbbmgfeofaaGreatDoor.Rw
