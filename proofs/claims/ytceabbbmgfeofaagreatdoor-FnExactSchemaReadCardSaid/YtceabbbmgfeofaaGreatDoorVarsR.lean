/-
  What the library's variables hold for reading a schema, and that it lasts; contracts of the library's parts that cut, trim, part and read numbers, in the plain words of CutQ. Conditions: texts of at most 8000 bytes; the library's variables hold what the program lays.
-/
import Derived.Test.YtceabbbmgfeofaaGreatDoorRows
import Derived.Test.YtceabbbmgfeofaaGreatDoorBytes
import Derived.Test.YtceabbbmgfeofaaGreatDoorDec
import Derived.Test.YtceabbbmgfeofaaGreatDoorShelf
import Derived.Lib.AppendIntMem
import Derived.Test.YtceabbbmgfeofaaGreatDoorCutQ
import Derived.Lib.AtoiErrMem
namespace Go.Proofs.YtceabbbmgfeofaaGreatDoor.Clones
open Go.RowKit Texts
set_option linter.unusedVariables false
theorem shape_of_row {W : World} {g : Nat} {Y : Array Value} {t : TypeId} (h : W.heap[g]? = some (.cells Y t (0, 0))) : W.shape? g = some (t, Y.size) := by
  unfold World.shape?; rw [h]
theorem ne_nil {s : ByteArray} (h : ¬ s.size = 0) : s.data.toList ≠ [] := by
  intro e
  have := congrArg List.length e
  exact h (by rw [Array.length_toList] at this; exact this)
theorem liteClone (s : ByteArray) (w : World) (hs : s.size ≤ 140737488351232) :
    Calls Tryz.prog 133 #[.string s] w fun e w' => e = .returned (.string s) ∧ Below w.heap.size w w' := by
  by_cases h0 : s.size = 0
  · obtain rfl := empty_of_size h0
    clear h0
    go_enter Tryz.func133, Tryz.ntmps133
    go_wp2_with fail
    go_ret
    exact ⟨rfl, Below.refl _ _⟩
  · have h1 : 0 < s.size := by omega
    have hz : ((s.size : Int) == 0) = false := beq_eq_false_iff_ne.2 (by omega)
    have hne := ne_nil h0
    clear h0
    have hmk := make_bytes s.size (by omega)
    obtain ⟨M, hM⟩ : ∃ M, M = zeros s.size := ⟨_, rfl⟩
    have hMs : M.size = s.size := by rw [hM, zeros_size]
    rw [← hM] at hmk
    clear hM
    have hcp := Lib.run_copy_row_string (P := Tryz.prog) (w.alloc (.cells M 5)) 22 9 3 5 w.heap.size 0 s.size s.size s M 5 Tryz.underlying22 size5 (heap_alloc_new w _) (by omega) (by omega)
    obtain ⟨Y, hY⟩ : ∃ Y, Y = (M.toList.take 0 ++ Lib.byteCells s.data.toList ++ M.toList.drop (0 + s.size)).toArray := ⟨_, rfl⟩
    rw [← hY] at hcp
    have hYl : Y.toList = Lib.byteCells s.data.toList := by
      rw [hY, List.toList_toArray, List.take_zero, List.nil_append, List.drop_of_length_le (by rw [Array.length_toList]; omega), List.append_nil]
    have hYs : Y.size = s.size := by rw [← Array.length_toList, hYl, Lib.byteCells_length]; simp
    have hUS := Lib.run_unsafeString_row (P := Tryz.prog) ((w.alloc (.cells M 5)).setRow w.heap.size Y) 279 3 9 5 Tryz.underlying279 cells5 w.heap.size Y.size (shape_of_row (row_heap w M Y _)) s.data.toList hne (by rw [hYs]; simp) (by simp; omega)
      (fun j x hx => Lib.cells_of_row (row_heap w M Y _) Y.size j _ (by rw [List.take_of_length_le (by rw [Array.length_toList]; exact Nat.le_refl _), hYl]; simp [Lib.byteCells, hx]))
    have hlen : s.data.toList.length = s.size := by simp
    rw [hlen, str_eq] at hUS
    have HYs := Lib.hid hYs
    have HMs := Lib.hid hMs
    clear hY hYl hYs hMs hlen hne
    go_enter Tryz.func133, Tryz.ntmps133
    go_wp2_with fail
    go_ret
    exact ⟨rfl, Lib.below_freeze (below_row w M Y _) (p := ⟨w.heap.size, 0, none⟩) (Nat.le_refl _) _⟩
theorem clone (s : ByteArray) (w : World) (hs : s.size ≤ 140737488351232) :
    Calls Tryz.prog 82 #[.string s] w fun e w' => e = .returned (.string s) ∧ Below w.heap.size w w' := by
  go_enter Tryz.func82, Tryz.ntmps82
  go_wp2_with (go_at_call 133; refine (liteClone s _ hs).mono ?_; rintro e w' ⟨rfl, hb⟩)
  go_ret
  exact ⟨rfl, hb⟩
end Go.Proofs.YtceabbbmgfeofaaGreatDoor.Clones
namespace Go.Proofs.YtceabbbmgfeofaaGreatDoor.Decs
open Go.RowKit
set_option linter.unusedVariables false
/-- The table of powers of ten reads as it is laid, and goes on so whatever is written from block B on. -/
def Pow (B : Nat) (w : World) : Prop := Lib.TabBelow Tryz.prog B w "internal/strconv.uint64pow10" .u64 Lib.pow10Tab
theorem Pow.on {B : Nat} {w w1 : World} (h : Pow B w) (hb : Below B w w1) : Pow B w1 := Lib.TabBelow.on h hb
theorem Pow.mono {B C : Nat} {w : World} (h : Pow B w) (hB : B ≤ C) : Pow C w := fun w' hb => h w' (hb.mono hB)
theorem Pow.over {B : Nat} {w w1 : World} (h : Pow B w) (hB : B ≤ w.heap.size) (hb : Below w.heap.size w w1) : Pow B w1 := h.on (hb.mono hB)
theorem Pow.new {w w1 : World} (h : Pow w.heap.size w) (hb : Below w.heap.size w w1) : Pow w1.heap.size w1 := (h.on hb).mono hb.size
theorem decDigits_decL : ∀ (n m : Nat), n < m → Lib.decDigits n = decL n := by
  intro n m
  induction m generalizing n with
  | zero => intro h; omega
  | succ m ih =>
    intro h
    rw [Lib.decDigits]
    by_cases hn : n < 10
    · rw [dif_pos hn, decL_small hn]
    · rw [dif_neg hn, decL_big (by omega), ih (n / 10) (by omega)]
theorem itoa_decB (f : Int) : (⟨(Lib.itoa f).toArray⟩ : ByteArray) = decB f := by
  unfold Lib.itoa decB
  by_cases h : f < 0
  · rw [if_pos h, if_pos h, decDigits_decL _ _ (Nat.lt_succ_self _)]; rfl
  · rw [if_neg h, if_neg h, decDigits_decL _ _ (Nat.lt_succ_self _), show f.natAbs = f.toNat by omega]; rfl
theorem fmtInt (f : Int) (h0 : -9223372036854775808 ≤ f) (h1 : f ≤ 9223372036854775807) (B : Nat) (w : World) (hp : Pow B w) :
    Calls Tryz.prog 267 #[.int .i64 f, .int .i64 10] w fun e w' => e = .returned (.string (decB f)) ∧ Below w.heap.size w w' := by
  refine (Tryz.strconv_FormatInt_10 f h0 h1 w (Lib.TabBelow.here hp)).mono ?_
  rintro e w' ⟨rfl, k, os, rfl⟩
  exact ⟨ret_string (itoa_decB f), Lib.below_grow _ w (Nat.le_refl _) k os⟩
end Go.Proofs.YtceabbbmgfeofaaGreatDoor.Decs
namespace Go.Proofs.YtceabbbmgfeofaaGreatDoor.Rw
open Go.RowKit Words Decs Splits
set_option linter.unusedVariables false
set_option maxRecDepth 100000
structure VarsN (w : World) : Prop where
  pow : Lib.TabIs Tryz.prog w "internal/strconv.uint64pow10" .u64 Lib.pow10Tab
  max : ∃ m, w.cell? ⟨1, 0, none⟩ = some (.int .i64 m)
  syn : ∃ t x, w.cell? ⟨4, 0, none⟩ = some (.iface t x)
  rng : ∃ t x, w.cell? ⟨5, 0, none⟩ = some (.iface t x)
/-- So it is, and goes on so whatever is written from block B on. -/
def VarsR (B : Nat) (w : World) : Prop := ∀ w', Below B w w' → VarsN w'
theorem VarsR.here {B : Nat} {w : World} (h : VarsR B w) : VarsN w := h w (Below.refl _ _)
theorem VarsR.on {B : Nat} {w w1 : World} (h : VarsR B w) (hb : Below B w w1) : VarsR B w1 := fun w' g => h w' (hb.trans g)
theorem VarsR.mono {B C : Nat} {w : World} (h : VarsR B w) (hB : B ≤ C) : VarsR C w := fun w' hb => h w' (hb.mono hB)
theorem VarsR.over {B : Nat} {w w1 : World} (h : VarsR B w) (hB : B ≤ w.heap.size) (hb : Below w.heap.size w w1) : VarsR B w1 := h.on (hb.mono hB)
theorem VarsR.pow {B : Nat} {w : World} (h : VarsR B w) : Decs.Pow B w := fun w' hb => (h w' hb).pow
theorem below_drawn (w : World) (n : Nat) : Below w.heap.size w (w.drewN n) := ⟨rfl, rfl, rfl, Nat.le_refl _, fun _ _ => rfl⟩
theorem cutC (s sep : ByteArray) (w : World) (B : Nat) (hv : VarsR B w) (hs : s.size ≤ 8000) :
    Calls Tryz.prog 154 #[.string s, .string sep] w fun e w' => e = .returned (.tuple #[.string (ubR (Lib.cut (bL s) (bL sep)).1), .string (ubR (Lib.cut (bL s) (bL sep)).2.1), .bool (Lib.cut (bL s) (bL sep)).2.2]) ∧ Below w.heap.size w w' := by
  obtain ⟨m, hm⟩ := hv.here.max
  refine (Tryz.strings_Cut s sep m w (by omega) hm).mono ?_
  rintro e w' ⟨rfl, n, rfl⟩
  exact ⟨rfl, below_drawn w n⟩
theorem pintC (s : ByteArray) (w : World) (B : Nat) (hv : VarsR B w) (hs : s.size ≤ 8000) :
    Calls Tryz.prog 187 #[.string s, .int .i64 10, .int .i64 64] w fun e w' => (∃ x, e = .returned (.tuple #[.int .i64 (pintR (bL s)), x])) ∧ Below w.heap.size w w' := by
  unfold pintR
  rcases h : Lib.parseIntB 64 (bL s) with v | _ | _
  · refine (Tryz.strconv_ParseInt_10_at64_ok s (by omega) v h w).mono ?_
    rintro e w' ⟨rfl, rfl | ⟨t, rfl⟩⟩
    · exact ⟨⟨_, rfl⟩, Below.refl _ _⟩
    · exact ⟨⟨_, rfl⟩, Lib.bytesWorld_below _ _ _⟩
  · obtain ⟨t, x, hx⟩ := hv.here.syn
    refine (Tryz.strconv_ParseInt_10_at64_syntax s (by omega) h _ w hx (.inr ⟨t, x, rfl⟩)).mono ?_
    rintro e w' ⟨N, rfl, _, _, hb⟩
    exact ⟨⟨_, rfl⟩, hb⟩
  · obtain ⟨t, x, hx⟩ := hv.here.rng
    refine (Tryz.strconv_ParseInt_10_at64_range s (by omega) h _ w hx (.inr ⟨t, x, rfl⟩)).mono ?_
    rintro e w' ⟨N, rfl, _, _, hb⟩
    exact ⟨⟨_, rfl⟩, hb⟩
theorem trimC (s p : ByteArray) (w : World) (hs : s.size ≤ 8000) :
    Calls Tryz.prog 112 #[.string s, .string p] w fun e w' => e = .returned (.string (ubR (Lib.trimSuffix (bL s) (bL p)))) ∧ w = w' := by
  refine (Tryz.strings_TrimSuffix s p w (by omega)).mono ?_
  rintro e w' ⟨rfl, rfl⟩
  exact ⟨rfl, rfl⟩
theorem sufC (s p : ByteArray) (w : World) (hs : s.size ≤ 8000) :
    Calls Tryz.prog 202 #[.string s, .string p] w fun e w' => e = .returned (.tuple #[.string (ubR (Lib.trimSuffix (bL s) (bL p))), .bool (Lib.hasSuffix (bL s) (bL p))]) ∧ w = w' := by
  refine (Tryz.strings_CutSuffix s p w (by omega)).mono ?_
  rintro e w' ⟨rfl, rfl⟩
  exact ⟨rfl, rfl⟩
theorem preC (s p : ByteArray) (w : World) :
    Calls Tryz.prog 203 #[.string s, .string p] w fun e w' => e = .returned (.tuple #[.string (ubR (Lib.trimPrefix (bL s) (bL p))), .bool (Lib.hasPrefix (bL s) (bL p))]) ∧ w = w' := by
  refine (Tryz.strings_CutPrefix s p w).mono ?_
  rintro e w' ⟨rfl, rfl⟩
  exact ⟨rfl, rfl⟩
theorem textsR_sizes (c : UInt8) (t : ByteArray) (ht : t.size ≤ 8000) : ((splitL c (bL t)).map ubR).length ≤ 8001 ∧ ∀ x ∈ (splitL c (bL t)).map ubR, x.size ≤ 8000 := by
  have hl := bL_len t
  have h1 := splitR_len c (bL t)
  refine ⟨by rw [List.length_map]; omega, fun x hx => ?_⟩
  obtain ⟨y, hy, rfl⟩ := List.mem_map.1 hx
  have := splitR_sizes c (bL t) y hy
  rw [ubR_size]; omega
/-- The parts of a text, in a block of their own. -/
theorem splitC (t : ByteArray) (c : UInt8) (w : World) (B : Nat) (hv : VarsR B w) (ht : t.size ≤ 8000) :
    Calls Tryz.prog 111 #[.string t, .string ⟨#[c]⟩] w fun e w' => (∃ a, e = .returned (.slice a ((splitL c (bL t)).map ubR).length ((splitL c (bL t)).map ubR).length) ∧ TextsX w' w.heap.size w'.heap.size a ((splitL c (bL t)).map ubR).length ((splitL c (bL t)).map ubR)) ∧ Below w.heap.size w w' := by
  obtain ⟨m, hm⟩ := hv.here.max
  refine (Tryz.strings_Split t ⟨#[c]⟩ m w (by omega) hm (by show 0 < 1; decide)).mono ?_
  rintro e w' ⟨rfl, rfl⟩
  have hlen := Lib.splitB_all ⟨#[c]⟩ (by show 0 < 1; decide) 0 _ t rfl
  have hmap : (Lib.splitB ⟨#[c]⟩ 0 (Lib.countB t ⟨#[c]⟩) t) = (splitL c (bL t)).map ubR := by
    rw [← splitB_R, List.map_map]
    conv => lhs; rw [← List.map_id (Lib.splitB ⟨#[c]⟩ 0 (Lib.countB t ⟨#[c]⟩) t)]
    exact List.map_congr_left fun x _ => (ubR_bL x).symm
  have hl2 : Lib.countB t ⟨#[c]⟩ + 1 = ((splitL c (bL t)).map ubR).length := by rw [← hmap, hlen]
  obtain ⟨hs1, hs2⟩ := textsR_sizes c t ht
  rw [hl2, hmap]
  generalize (splitL c (bL t)).map ubR = L at *
  have hblk := heap_alloc_new w (.cells (L.map Value.string).toArray 9)
  refine ⟨⟨_, rfl, ?_⟩, (Below.refl _ _).alloc (Nat.le_refl _) _⟩
  refine RowsX.made (by omega) (by simp) (LieRX.flat ⟨_, _, hblk⟩ (by simp) (by simp) fun j y hj => ⟨by have := hs2 y (List.mem_iff_getElem?.2 ⟨j, hj⟩); unfold OkS; omega, ?_⟩)
  rw [Nat.zero_add, Nat.mul_one]
  exact cell_of hblk (by simp [hj])
end Go.Proofs.YtceabbbmgfeofaaGreatDoor.Rw
