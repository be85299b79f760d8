/-
  Lists of int64 in memory: what came in, what was made; laws.toInt64S makes one like it, laws.eqInt64S says of two alike that they are; of what was there nothing is changed. Conditions: sizes within 2^20.
-/
import Derived.Test.YtmmhelkgcmeakaaRows
import Derived.WalkKit
import Derived.Outline
import Derived.Lib.Hide
import Derived.Below
import Derived.OpenShut
import Derived.Laws.MakeOwn
import Derived.Deep.OwnRows
import Derived.RegionTactic
import Derived.BigRegion
namespace Go.Proofs.Ytmmhelkgcmeakaa.Intss
open Go.RowKit
set_option linter.unusedVariables false

/-- A slice of integers that came in: it is nil; or it leads to a row of 'cap' cells, the numbers 'zs', each within its kind. -/
def IsRow (k : IntKind) (w : World) (a : Option Addr) (len cap : Nat) (zs : List Int) : Prop :=
  (a = none ∧ len = 0 ∧ cap = 0 ∧ zs = []) ∨
  ∃ x, a = some x ∧ len ≤ cap ∧ cap ≤ maxLen ∧ zs.length = cap ∧ (∀ i, i < zs.length → w.cell? (x.add i) = some (.int k (zs.getD i 0))) ∧ ∀ n ∈ zs, (Lit.int k n).wf = true
/-- The numbers of a slice of int64, as the walks want them: all below block B. -/
structure Ints (w : World) (B : Nat) (a : Option Addr) (len : Nat) (l : List Int) : Prop where
  size : l.length = len
  fits : ∀ x ∈ l, -9223372036854775808 ≤ x ∧ x ≤ 9223372036854775807
  row : ∀ i, i < len → ∃ b off, a = some ⟨b, off, none⟩ ∧ b < B ∧ w.cell? ⟨b, off + i, none⟩ = some (.int .i64 (l.getD i 0))
theorem Ints.fit {w : World} {B : Nat} {a : Option Addr} {len : Nat} {l : List Int} (h : Ints w B a len l) {i : Nat} (hi : i < len) : -9223372036854775808 ≤ l.getD i 0 ∧ l.getD i 0 ≤ 9223372036854775807 := by
  have hl : i < l.length := by rw [h.size]; exact hi
  rw [List.getD_eq_getElem?_getD, List.getElem?_eq_getElem hl]
  exact h.fits _ (List.getElem_mem hl)
theorem Ints.of_row {w : World} {a : Option Addr} {len cap : Nat} {zs : List Int} (h : IsRow .i64 w a len cap zs) : Ints w w.heap.size a len (zs.take len) := by
  rcases h with ⟨rfl, rfl, rfl, rfl⟩ | ⟨⟨b, off, spot⟩, ha, hl, hm, hz, hc, hw⟩
  · exact ⟨rfl, fun x hx => by simp at hx, fun i hi => absurd hi (by omega)⟩
  · refine ⟨by rw [List.length_take]; omega, fun x hx => bounds_i64 (hw x (List.mem_of_mem_take hx)), fun i hi => ?_⟩
    have hs : spot = none := by
      have h0 := hc 0 (by omega)
      simpa [Addr.add] using World.cell?_spot h0
    subst hs
    have hci := hc i (by omega)
    have ea : (⟨b, off, none⟩ : Addr).add i = ⟨b, off + i, none⟩ := by unfold Addr.add; split <;> simp_all
    rw [ea] at hci
    have hb : b < w.heap.size := by
      rcases Nat.lt_or_ge b w.heap.size with k | k
      · exact k
      · unfold World.cell? at hci; rw [Array.getElem?_eq_none k] at hci; simp at hci
    refine ⟨b, off, ha, hb, ?_⟩
    rw [hci, List.getD_eq_getElem?_getD, List.getD_eq_getElem?_getD, List.getElem?_take_of_lt hi]
theorem Ints.below {w w' : World} {B C len : Nat} {a : Option Addr} {l : List Int} (h : Ints w B a len l) (hB : B ≤ C) (g : Below C w w') : Ints w' B a len l :=
  ⟨h.size, h.fits, fun i hi => by
    obtain ⟨b, off, ha, hb, hc⟩ := h.row i hi
    exact ⟨b, off, ha, hb, (g.cell (p := ⟨b, off + i, none⟩) (by show b < C; omega)).trans hc⟩⟩
theorem Ints.mono {w : World} {B C len : Nat} {a : Option Addr} {l : List Int} (h : Ints w B a len l) (hB : B ≤ C) : Ints w C a len l :=
  ⟨h.size, h.fits, fun i hi => by
    obtain ⟨b, off, ha, hb, hc⟩ := h.row i hi
    exact ⟨b, off, ha, by omega, hc⟩⟩
theorem Ints.of_rowIs {w : World} {g B len : Nat} {t : TypeId} {l : List Int} (hl : l.length = len) (hf : ∀ x ∈ l, -9223372036854775808 ≤ x ∧ x ≤ 9223372036854775807) (h : w.rowIs g t len (fun i => .int .i64 (l.getD i 0))) (hB : g < B) : Ints w B (some ⟨g, 0, none⟩) len l :=
  ⟨hl, hf, fun i hi => ⟨g, 0, rfl, hB, by rw [Nat.zero_add]; exact h.cell hi⟩⟩

theorem infoI : (Try.prog.info? 2).map (fun i => (i.zero, i.size, i.bytes)) = some (some (.int .i64 0), 1, 8) := by kernel_rfl
theorem make_ints (n : Nat) (h : n ≤ 1048576) (W : World) :
    (Instr.makeSlice 25 (.int .i64 (n : Int)) (.int .i64 (n : Int))).run Try.prog W = .ok (.slice (some ⟨W.heap.size, 0, none⟩) n n) (W.alloc (.cells (madeCells #[.int .i64 0] n) 2)) :=
  run_make_row' (P := Try.prog) 25 2 (.int .i64 0) 8 Try.underlying25 infoI rfl .i64 .i64 n (by omega) (by omega) W

theorem toInts (w : World) (a : Option Addr) (len cap : Nat) (l : List Int) (h : Ints w w.heap.size a len l) (hsm : len ≤ 1048576) :
    Calls Try.prog 23 #[.slice a len cap] w fun e w' => e = .returned (.slice (some ⟨w.heap.size, 0, none⟩) len len) ∧ Ints w' (w.heap.size + 1) (some ⟨w.heap.size, 0, none⟩) len l ∧ Below w.heap.size w w' ∧ w.heap.size < w'.heap.size := by
  have hmk := make_ints len hsm
  have HI := Lib.hid h
  clear h
  go_enter Try.func23, Try.ntmps23
  go_wp2_with fail
  go_loopw [4] (fun i wr => ∃ k : Nat, k ≤ len ∧ i = .int .i64 k ∧ Below w.heap.size w wr ∧ wr.rowIs w.heap.size 2 len (fun j => .int .i64 (if j < k then l.getD j 0 else 0))) (fun i _ => len - (intOf i).toNat)
  case atStart => exact ⟨0, by omega, rfl, (Below.refl _ _).alloc (Nat.le_refl _) _, (World.rowIs_made w (.int .i64 0) len 2).congr (fun _ _ => rfl)⟩
  case round =>
    obtain ⟨k, hk, rfl, hb, hr⟩ := hrel
    have hz := Lib.hid hb.size
    by_cases hlt : k < len
    · have hli : (k : Int) < (len : Int) := by omega
      obtain ⟨b, off, rfl, hbb, hc⟩ := (HI.out.below (Nat.le_refl _) hb).row k hlt
      have hne : b ≠ w.heap.size := by omega
      have ct := hr.cell hlt
      have cf := hr.frozen k
      have R1 : Hid (∀ (X : World), X = wr.setCell ⟨w.heap.size, k, none⟩ (.int .i64 (l.getD k 0)) → X.rowIs w.heap.size 2 len (fun j => .int .i64 (if j < k + 1 then l.getD j 0 else 0))) := Lib.hid fun X hX => by
        rw [hX]
        refine (hr.set k _).congr fun j hj => ?_
        by_cases e : j = k
        · subst e; simp
        · by_cases e2 : j < k
          · rw [if_neg e, if_pos e2, if_pos (by omega)]
          · rw [if_neg e, if_neg e2, if_neg (by omega)]
      have HB := Lib.hid hb
      clear hb hr hlt
      go_wp2_with fail
      go_roundw
      case rel => exact ⟨k + 1, by omega, by go_num, HB.out.setCell (Nat.le_refl _) _, R1.out _ rfl⟩
      case measure => simp [intOf]; omega
    · obtain rfl : k = len := by omega
      have HE : Hid (∀ X : World, X = wr → Ints X (w.heap.size + 1) (some ⟨w.heap.size, 0, none⟩) k l) := Lib.hid fun X hX => by
        rw [hX]
        exact Ints.of_rowIs HI.out.size HI.out.fits (hr.congr fun j hj => by rw [if_pos hj]) (Nat.lt_succ_self _)
      have HB := Lib.hid hb
      have HL := Lib.hid hr.lt
      clear hb hr hlt
      go_wp2_with fail
      go_ret
      exact ⟨rfl, HE.out _ rfl, HB.out, HL.out⟩

theorem eqInts (w : World) (a b : Option Addr) (B len cap cap' : Nat) (l : List Int) (h : Ints w B a len l) (g : Ints w B b len l) (hB : B ≤ w.heap.size) (hsm : len ≤ 1048576) :
    Calls Try.prog 24 #[.slice a len cap, .slice b len cap'] w fun e w' => e = .returned (.bool true) ∧ Below w.heap.size w w' := by
  have HI := Lib.hid h
  have HG := Lib.hid g
  clear h g
  go_enter Try.func24, Try.ntmps24
  go_wp2_with fail
  go_loopw [5] (fun i wr => ∃ k : Nat, k ≤ len ∧ i = .int .i64 k ∧ Below w.heap.size w wr) (fun i _ => len - (intOf i).toNat)
  case atStart => exact ⟨0, by omega, rfl, Below.refl _ _⟩
  case round =>
    obtain ⟨k, hk, rfl, hb⟩ := hrel
    have HB := Lib.hid hb
    by_cases hlt : k < len
    · have hli : (k : Int) < (len : Int) := by omega
      obtain ⟨b1, o1, rfl, hb1, hc1⟩ := (HI.out.below hB hb).row k hlt
      obtain ⟨b2, o2, rfl, hb2, hc2⟩ := (HG.out.below hB hb).row k hlt
      generalize l.getD k 0 = v at hc1 hc2
      clear hlt hb
      go_wp2_with fail
      go_region
      go_wp2_with fail
      go_roundw
      case rel => exact ⟨k + 1, by omega, by go_num, HB.out.drew⟩
      case measure => simp [intOf]; omega
    · obtain rfl : k = len := by omega
      clear hlt hb
      go_wp2_with fail
      go_ret
      exact ⟨rfl, HB.out⟩
end Go.Proofs.Ytmmhelkgcmeakaa.Intss
