/-
  For every two inputs, laws.FnSchema answers true: what something of a type may be are objects that there are, a field that is told has the name that was asked for, and both sides answer alike. Conditions: none beyond the row's own.
-/
import Derived.Test.YtcogbmcnljlnaaaRows
import Derived.WalkKit
import Derived.ProofKit
import Derived.OpenShut
import Derived.ShutString
import Derived.ChangeOld
import Derived.Below
import Derived.Test.YtcogbmcnljlnaaaSchemaLaw
import Derived.Test.YtcogbmcnljlnaaaDrawTy
import Derived.Deep.RegionHeld3
import Derived.Deep.CutRange
import Derived.Deep.DeepMust
namespace Go.Proofs.Ytcogbmcnljlnaaa.fnSchema
open Go.ChangeShapes Go.WideShapes Go.ChangeAt Go.RowKit
open Go.ChangeMaps (open_string shut_string)
open Rw Words
set_option linter.unusedVariables false

theorem own : ownKnob Try.prog.godebug = none := by kernel_rfl
theorem laidOut : laidOutB Try.prog = true := by kernel_rfl

/-- WHAT THE WALK IS TOLD OF A SLICE OF INTEGERS THAT CAME IN: it is nil; or it leads to a row of 'cap' cells, the numbers 'zs' (the first 'len' are its elements, the rest its spare room), each fitting its kind. -/
def IsRow (k : IntKind) (w : World) (a : Option Addr) (len cap : Nat) (zs : List Int) : Prop :=
  (a = none ∧ len = 0 ∧ cap = 0 ∧ zs = []) ∨
  ∃ x, a = some x ∧ len ≤ cap ∧ cap ≤ maxLen ∧ zs.length = cap ∧ (∀ i, i < zs.length → w.cell? (x.add i) = some (.int k (zs.getD i 0))) ∧ ∀ n ∈ zs, (Lit.int k n).wf = true

/-! ### STEP 1: THE WALK: the Go text returns true, AND WRITES NOTHING THAT WAS THERE: 'Below w.heap.size w w'' (Derived/Below.lean: '.refl', '.alloc', '.drew', '.setCell' at a new block, '.trans'). Open each 'IsRow' by 'rcases' AHEAD of 'go_enter'; part every test ahead of the walk. -/
set_option maxRecDepth 100000 in
set_option maxHeartbeats 16000000 in
theorem walk (a0 : Option Addr) (len0 cap0 : Nat) (z0 : List Int) (a1 : Option Addr) (len1 cap1 : Nat) (z1 : List Int) (w : World) (w0 : IsRow .u8 w a0 len0 cap0 z0) (w1 : IsRow .u8 w a1 len1 cap1 z1) :
    Calls Try.prog 3 #[.slice a0 len0 cap0, .slice a1 len1 cap1] w fun e w' => e = .returned (.bool true) ∧ Below w.heap.size w w' := by
  have B0 := Lib.hid (Draws.BytesAt.of_row w0)
  have B1 := Lib.hid (Draws.BytesAt.of_row w1)
  clear w0 w1
  by_cases hbig : 1048576 < len0
  · have hbi : (1048576 : Int) < (len0 : Int) := by omega
    go_enter Try.func3, Try.ntmps3
    go_wp2_with fail
    go_ret
    exact ⟨rfl, Below.refl _ _⟩
  have hbi : (len0 : Int) ≤ 1048576 := by omega
  by_cases hbig1 : 1048576 < len1
  · have hbi1 : (1048576 : Int) < (len1 : Int) := by omega
    clear hbig
    go_enter Try.func3, Try.ntmps3
    go_wp2_with fail
    go_ret
    exact ⟨rfl, Below.refl _ _⟩
  have hbi1 : (len1 : Int) ≤ 1048576 := by omega
  clear hbig hbig1
  go_enter Try.func3, Try.ntmps3
  go_wp2_with fail
  refine (Draws.drawTypeOf _ len0 cap0 a0 B0.out (by omega)).mono ?_
  rintro e W1 ⟨⟨s1, v1, t1, hw1, rfl, hx1, ht1⟩, hb1⟩
  have HL1 := Lib.hid (((LS.start w).below hb1).more (hx1.wide (Nat.zero_le _) (Nat.le_refl _)))
  obtain ⟨sa1, ca1, rfl, _, _⟩ := hx1
  obtain ⟨n1, hn1⟩ : ∃ n, s1.length = n := ⟨_, rfl⟩
  rw [hn1] at HL1 ⊢
  have HW1 := Lib.hid hw1
  have HT1 := Lib.hid ht1
  clear hn1 hw1 ht1 hb1
  go_wp2_with fail
  have HA1 := Lib.hid ((HL1.out.alloc (.cells #[.slice sa1 n1 ca1] 25)).grow (Go.Deep.blk_alloc_new W1 _))
  refine (Draws.drawFieldOf _ len1 cap1 a1 ((B1.out.below HA1.out.bel).mono HA1.out.bel.size) (by omega)).mono ?_
  rintro e W2 ⟨⟨s2, v2, f2, t2, hw2, rfl, hx2, hf2, ht2⟩, hb2⟩
  have HL2 := Lib.hid ((HA1.out.below hb2).more (hx2.wide (Nat.zero_le _) (Nat.le_refl _)))
  obtain ⟨sa2, ca2, rfl, _, _⟩ := hx2
  obtain ⟨n2, hn2⟩ : ∃ n, s2.length = n := ⟨_, rfl⟩
  rw [hn2] at HL2 ⊢
  have HW2 := Lib.hid hw2
  have HT2 := Lib.hid ht2
  have HF2 := Lib.hid hf2
  clear hn2 hw2 ht2 hf2 hb2 HA1 HL1
  go_wp2_with fail
  have HA2 := Lib.hid ((HL2.out.alloc (.cells #[.slice sa2 n2 ca2] 25)).grow (Go.Deep.blk_alloc_new W2 _))
  refine (Draws.drawMembersOf _ len0 cap0 a0 ((B0.out.below HA2.out.bel).mono HA2.out.bel.size) (by omega)).mono ?_
  rintro e W3 ⟨⟨s3, v3, t3, hw3, rfl, hx3, ht3⟩, hb3⟩
  have HL3 := Lib.hid ((HA2.out.below hb3).more (hx3.wide (Nat.zero_le _) (Nat.le_refl _)))
  obtain ⟨sa3, ca3, rfl, _, _⟩ := hx3
  obtain ⟨n3, hn3⟩ : ∃ n, s3.length = n := ⟨_, rfl⟩
  rw [hn3] at HL3 ⊢
  have HW3 := Lib.hid hw3
  have HT3 := Lib.hid ht3
  clear hn3 hw3 ht3 hb3 HA2 HL2
  have HA3 := Lib.hid ((HL3.out.alloc (.cells #[.slice sa3 n3 ca3] 25)).grow (Go.Deep.blk_alloc_new W3 _))
  clear HL3
  go_upto_region 6 with fail
  generalize W3.alloc (.cells #[.slice sa3 n3 ca3] 25) = W4 at HA3 ⊢
  obtain ⟨g1, hg1⟩ : ∃ g, W1.heap.size = g := ⟨_, rfl⟩
  obtain ⟨g2, hg2⟩ : ∃ g, W2.heap.size = g := ⟨_, rfl⟩
  obtain ⟨g3, hg3⟩ : ∃ g, W3.heap.size = g := ⟨_, rfl⟩
  obtain ⟨B, hB⟩ : ∃ B, W4.heap.size = B := ⟨_, rfl⟩
  rw [hg1, hg2, hg3, hB] at HA3
  rw [hg1, hg2, hg3]
  have HB := Lib.hid hB
  clear hg1 hg2 hg3 hB
  have HF := Lib.hid (field_told s2 t2 f2)
  obtain ⟨F, hF⟩ : ∃ F, fieldOfP s2 t2 f2 = F := ⟨_, rfl⟩
  have HFE := Lib.hid hF
  rw [hF] at HF
  clear hF
  obtain ⟨M, hM⟩ : ∃ M, membersOfP s3 t3 = M := ⟨_, rfl⟩
  have HMO : Hid (∀ m ∈ M, (typeOfP s3 m).kind = 2) := Lib.hid fun m hm => members_objs (by rw [hM]; exact hm)
  have HML : Hid (M.length ≤ 1048576) := Lib.hid (by rw [← hM]; exact membersOfP_few HW3.out t3)
  have HME := Lib.hid hM
  clear hM
  obtain ⟨nm, hnm⟩ : ∃ n, M.length = n := ⟨_, rfl⟩
  have HNM := Lib.hid hnm
  clear hnm
  obtain ⟨fn, ft, fl, fm, fz, fk⟩ := F
  have CF : Hid (∀ W, LS w W B [(g3, .cells #[.slice sa3 n3 ca3] 25 (0, 0)), (g2, .cells #[.slice sa2 n2 ca2] 25 (0, 0)), (g1, .cells #[.slice sa1 n1 ca1] 25 (0, 0))] [(.agg #[.slice sa3 n3 ca3], s3), (.agg #[.slice sa2 n2 ca2], s2), (.agg #[.slice sa1 n1 ca1], s1)] → Calls Try.prog 10 #[.agg #[.slice sa2 n2 ca2], .string t2, .string f2] W fun e w' => e = .returned (.agg #[.string fn, .string ft, .bool fl, .bool fm, .int .i64 fz, .int .i64 fk]) ∧ Hid (Below W.heap.size W w' ∧ LS w w' B [(g3, .cells #[.slice sa3 n3 ca3] 25 (0, 0)), (g2, .cells #[.slice sa2 n2 ca2] 25 (0, 0)), (g1, .cells #[.slice sa1 n1 ca1] 25 (0, 0))] [(.agg #[.slice sa3 n3 ca3], s3), (.agg #[.slice sa2 n2 ca2], s2), (.agg #[.slice sa1 n1 ca1], s1)])) := Lib.hid fun W h => by
    have := cFieldI h (v := .agg #[.slice sa2 n2 ca2]) (s := s2) (by simp) HW2.out t2 f2 (by have := HT2.out; unfold OkS; omega) (by have := HF2.out; unfold OkS; omega)
    rw [HFE.out] at this; exact this
  have CM : Hid (∀ W, LS w W B [(g3, .cells #[.slice sa3 n3 ca3] 25 (0, 0)), (g2, .cells #[.slice sa2 n2 ca2] 25 (0, 0)), (g1, .cells #[.slice sa1 n1 ca1] 25 (0, 0))] [(.agg #[.slice sa3 n3 ca3], s3), (.agg #[.slice sa2 n2 ca2], s2), (.agg #[.slice sa1 n1 ca1], s1)] → Calls Try.prog 11 #[.agg #[.slice sa3 n3 ca3], .string t3] W fun e w' => (∃ a cap, Hid (TextsX w' W.heap.size w'.heap.size a nm M ∧ nm ≤ cap ∧ Below W.heap.size W w' ∧ LS w w' B [(g3, .cells #[.slice sa3 n3 ca3] 25 (0, 0)), (g2, .cells #[.slice sa2 n2 ca2] 25 (0, 0)), (g1, .cells #[.slice sa1 n1 ca1] 25 (0, 0))] [(.agg #[.slice sa3 n3 ca3], s3), (.agg #[.slice sa2 n2 ca2], s2), (.agg #[.slice sa1 n1 ca1], s1)]) ∧ e = .returned (.slice a nm cap))) := Lib.hid fun W h => by
    have := cMemI h (v := .agg #[.slice sa3 n3 ca3]) (s := s3) (by simp) HW3.out t3 (by have := HT3.out; unfold OkS; omega)
    rw [HME.out, HNM.out] at this; exact this
  have HD := Lib.hid HA3.out.drew
  have HDA := Lib.hid (HA3.out.alloc (.cells #[.string ⟨#[]⟩, .string ⟨#[]⟩, .bool false, .bool false, .int .i64 0, .int .i64 0] 31)).drew
  have E4 : Hid ((W4.alloc (.cells #[.string ⟨#[]⟩, .string ⟨#[]⟩, .bool false, .bool false, .int .i64 0, .int .i64 0] 31)).drew.heap[W4.heap.size]? = some (.cells #[.string ⟨#[]⟩, .string ⟨#[]⟩, .bool false, .bool false, .int .i64 0, .int .i64 0] 31 (0, 0))) := Lib.hid (Go.Deep.blk_alloc_new _ _)
  have hy4 : B ≤ W4.heap.size := by rw [HB.out]; exact Nat.le_refl _
  go_cut [12, 13] from 39 to 45 (fun v12 v13 wx => ∃ g a cap, v12 = .pointer (some ⟨g, 0, none⟩) ∧ v13 = .slice a nm cap ∧ Hid (B ≤ g ∧ wx.heap[g]? = some (.cells #[.string fn, .string ft, .bool fl, .bool fm, .int .i64 fz, .int .i64 fk] 31 (0, 0)) ∧ TextsAt wx 0 wx.heap.size a nm M ∧ nm ≤ cap ∧ LS w wx B [(g3, .cells #[.slice sa3 n3 ca3] 25 (0, 0)), (g2, .cells #[.slice sa2 n2 ca2] 25 (0, 0)), (g1, .cells #[.slice sa1 n1 ca1] 25 (0, 0))] [(.agg #[.slice sa3 n3 ca3], s3), (.agg #[.slice sa2 n2 ca2], s2), (.agg #[.slice sa1 n1 ca1], s1)]))
  case first =>
    go_region_held3 (fun w' => w'.cell? ⟨g2, 0, none⟩ = some (.slice sa2 n2 ca2) ∧ w'.cell? ⟨g3, 0, none⟩ = some (.slice sa3 n3 ca3))
      (first | with_reducible exact HD.out.two | with_reducible exact HDA.out.two | with_reducible exact L6.out.two | with_reducible exact (L6.out.alloc _).two | with_reducible exact L5.out.two | with_reducible exact (L5.out.alloc _).two | exact (L6.out.put hy6 [.string fn, .string ft, .bool fl, .bool fm, .int .i64 fz, .int .i64 fk]).two | go_keep)
      (first
      | (go_at_call 10; have tok := T5; refine (CF.out _ (by first | with_reducible exact L5.out | with_reducible exact L5.out.alloc _)).mono ?_; rintro e w6 ⟨rfl, P6⟩; have L6 := Lib.hid P6.out.2; have hb6 := Lib.hid P6.out.1; first | (have T6 := Lib.hid (T5.out.below textLies (Nat.le_refl _) hb6.out); have hz6 : w5.heap.size ≤ w6.heap.size := hb6.out.size) | (have T6 := Lib.hid ((T5.out.below textLies (Nat.le_refl _) ((Below.refl w5.heap.size w5).alloc (Nat.le_refl _) (.cells #[.string ⟨#[]⟩, .string ⟨#[]⟩, .bool false, .bool false, .int .i64 0, .int .i64 0] 31))).below textLies (by simp) hb6.out); have hz6 : w5.heap.size ≤ w6.heap.size := Nat.le_trans (by simp) hb6.out.size); first | (have E6 := Lib.hid ((hb6.out.block W4.heap.size (lt_of_get E5.out)).trans E5.out); have hy6 := hy5; have hk := keep6 E6.out; have y0 := hk.2.1; have y1 := hk.2.2.1; have y2 := hk.2.2.2.1; have y3 := hk.2.2.2.2.1; have y4 := hk.2.2.2.2.2.1; have y5 := hk.2.2.2.2.2.2; have z0 := hk.1.1; have z1 := hk.1.2.1; have z2 := hk.1.2.2.1; have z3 := hk.1.2.2.2.1; have z4 := hk.1.2.2.2.2.1; have z5 := hk.1.2.2.2.2.2; clear hk) | (have E6 := Lib.hid ((hb6.out.block w5.heap.size (by simp)).trans (Go.Deep.blk_alloc_new w5 (.cells #[.string ⟨#[]⟩, .string ⟨#[]⟩, .bool false, .bool false, .int .i64 0, .int .i64 0] 31))); have hy6 := hl5; have hk := keep6 E6.out; have y0 := hk.2.1; have y1 := hk.2.2.1; have y2 := hk.2.2.2.1; have y3 := hk.2.2.2.2.1; have y4 := hk.2.2.2.2.2.1; have y5 := hk.2.2.2.2.2.2; have z0 := hk.1.1; have z1 := hk.1.2.1; have z2 := hk.1.2.2.1; have z3 := hk.1.2.2.2.1; have z4 := hk.1.2.2.2.2.1; have z5 := hk.1.2.2.2.2.2; clear hk) | skip)
      | (go_at_call 11; have tok := F5; refine (CM.out _ (by first | with_reducible exact L5.out | with_reducible exact L5.out.alloc _)).mono ?_; rintro e w6 ⟨am, cm, P6, rfl⟩; have L6 := Lib.hid P6.out.2.2.2; have hb6 := Lib.hid P6.out.2.2.1; have hcm := Lib.hid P6.out.2.1; first | (have E6 := Lib.hid ((hb6.out.block W4.heap.size (lt_of_get E5.out)).trans E5.out); have hy6 := hy5; have hk := keep6 E6.out; have y0 := hk.2.1; have y1 := hk.2.2.1; have y2 := hk.2.2.2.1; have y3 := hk.2.2.2.2.1; have y4 := hk.2.2.2.2.2.1; have y5 := hk.2.2.2.2.2.2; have z0 := hk.1.1; have z1 := hk.1.2.1; have z2 := hk.1.2.2.1; have z3 := hk.1.2.2.2.1; have z4 := hk.1.2.2.2.2.1; have z5 := hk.1.2.2.2.2.2; clear hk) | (have E6 := Lib.hid ((hb6.out.block w5.heap.size (by simp)).trans (Go.Deep.blk_alloc_new w5 (.cells #[.string ⟨#[]⟩, .string ⟨#[]⟩, .bool false, .bool false, .int .i64 0, .int .i64 0] 31))); have hy6 := hl5; have hk := keep6 E6.out; have y0 := hk.2.1; have y1 := hk.2.2.1; have y2 := hk.2.2.2.1; have y3 := hk.2.2.2.2.1; have y4 := hk.2.2.2.2.2.1; have y5 := hk.2.2.2.2.2.2; have z0 := hk.1.1; have z1 := hk.1.2.1; have z2 := hk.1.2.2.1; have z3 := hk.1.2.2.2.1; have z4 := hk.1.2.2.2.2.1; have z5 := hk.1.2.2.2.2.2; clear hk) | skip)
      | (go_at_call 10; refine (CF.out _ (by first | with_reducible exact HD.out | with_reducible exact HDA.out)).mono ?_; rintro e w5 ⟨rfl, P5⟩; have F5 := P5; have L5 := Lib.hid P5.out.2; have hb5 := Lib.hid P5.out.1; have hl5 : B ≤ w5.heap.size := L5.out.hi; first | (have E5 := Lib.hid ((hb5.out.block W4.heap.size (by simp)).trans E4.out); have hy5 := hy4; have hk := keep6 E5.out; have y0 := hk.2.1; have y1 := hk.2.2.1; have y2 := hk.2.2.2.1; have y3 := hk.2.2.2.2.1; have y4 := hk.2.2.2.2.2.1; have y5 := hk.2.2.2.2.2.2; have z0 := hk.1.1; have z1 := hk.1.2.1; have z2 := hk.1.2.2.1; have z3 := hk.1.2.2.2.1; have z4 := hk.1.2.2.2.2.1; have z5 := hk.1.2.2.2.2.2; clear hk) | skip)
      | (go_at_call 11; refine (CM.out _ (by first | with_reducible exact HD.out | with_reducible exact HDA.out)).mono ?_; rintro e w5 ⟨am, cm, Q5, rfl⟩; have L5 := Lib.hid Q5.out.2.2.2; have hb5 := Lib.hid Q5.out.2.2.1; have hcm := Lib.hid Q5.out.2.1; have T5 := Lib.hid Q5.out.1; have hl5 : B ≤ w5.heap.size := L5.out.hi; first | (have E5 := Lib.hid ((hb5.out.block W4.heap.size (by simp)).trans E4.out); have hy5 := hy4; have hk := keep6 E5.out; have y0 := hk.2.1; have y1 := hk.2.2.1; have y2 := hk.2.2.2.1; have y3 := hk.2.2.2.2.1; have y4 := hk.2.2.2.2.2.1; have y5 := hk.2.2.2.2.2.2; have z0 := hk.1.1; have z1 := hk.1.2.1; have z2 := hk.1.2.2.1; have z3 := hk.1.2.2.2.1; have z4 := hk.1.2.2.2.2.1; have z5 := hk.1.2.2.2.2.2; clear hk) | skip))
    all_goals
      go_wp2_with fail
      go_meet
      first
        | (have tk := E6; have tk2 := T6; exact ⟨_, am, cm, rfl, rfl, end6b L6.out E6.out [.string fn, .string ft, .bool fl, .bool fm, .int .i64 fz, .int .i64 fk] rfl hy6 T6.out hz6 (by first | exact Or.inr (Nat.le_refl _) | exact Or.inl (by simp)) hcm.out⟩)
        | (have tk := E6; exact ⟨_, am, cm, rfl, rfl, end6b L6.out E6.out [.string fn, .string ft, .bool fl, .bool fm, .int .i64 fz, .int .i64 fk] rfl hy6 P6.out.1 (Nat.le_refl _) (by first | exact Or.inl (by simp) | exact Or.inl (lt_of_get E5.out)) hcm.out⟩)
        | (have tk := T6; exact ⟨w6.heap.size, am, cm, rfl, rfl, end6a L6.out #[.string fn, .string ft, .bool fl, .bool fm, .int .i64 fz, .int .i64 fk] _ T6.out hz6 hcm.out⟩)
        | exact ⟨w6.heap.size, am, cm, rfl, rfl, end6a L6.out #[.string fn, .string ft, .bool fl, .bool fm, .int .i64 fz, .int .i64 fk] _ P6.out.1 (Nat.le_refl _) hcm.out⟩
  case rest =>
    obtain ⟨g, am, cm, rfl, rfl, HR⟩ := hcut
    have hQ0 : LS w wc wc.heap.size [(g, .cells #[.string fn, .string ft, .bool fl, .bool fm, .int .i64 fz, .int .i64 fk] 31 (0, 0)), (g3, .cells #[.slice sa3 n3 ca3] 25 (0, 0)), (g2, .cells #[.slice sa2 n2 ca2] 25 (0, 0)), (g1, .cells #[.slice sa1 n1 ca1] 25 (0, 0))] [(.agg #[.slice sa3 n3 ca3], s3), (.agg #[.slice sa2 n2 ca2], s2), (.agg #[.slice sa1 n1 ca1], s1)] ∧ TextsAt wc 0 wc.heap.size am nm M := ⟨HR.out.2.2.2.2.grow HR.out.2.1, HR.out.2.2.1⟩
    obtain ⟨B2, hB2⟩ : ∃ b, wc.heap.size = b := ⟨_, rfl⟩
    rw [hB2] at hQ0
    clear hB2
    obtain ⟨Q, hQ⟩ : ∃ Q : World → Prop, Q = (fun W => LS w W B2 [(g, .cells #[.string fn, .string ft, .bool fl, .bool fm, .int .i64 fz, .int .i64 fk] 31 (0, 0)), (g3, .cells #[.slice sa3 n3 ca3] 25 (0, 0)), (g2, .cells #[.slice sa2 n2 ca2] 25 (0, 0)), (g1, .cells #[.slice sa1 n1 ca1] 25 (0, 0))] [(.agg #[.slice sa3 n3 ca3], s3), (.agg #[.slice sa2 n2 ca2], s2), (.agg #[.slice sa1 n1 ca1], s1)] ∧ TextsAt W 0 B2 am nm M) := ⟨_, rfl⟩
    have Q0 : Hid (Q wc) := Lib.hid (by rw [hQ]; exact hQ0)
    have QB : Hid (∀ W W', Q W → Below W.heap.size W W' → Q W') := Lib.hid (by rw [hQ]; exact fun W W' h g' => ⟨h.1.below g', h.2.below textLies h.1.hi g'⟩)
    have QD : Hid (∀ W, Q W → Q W.drew) := Lib.hid fun W h => QB.out W _ h ⟨rfl, rfl, rfl, Nat.le_refl _, fun _ _ => rfl⟩
    have QBel : Hid (∀ W, Q W → Below w.heap.size w W) := Lib.hid (by rw [hQ]; exact fun W h => h.1.bel)
    have QM : Hid (∀ W, Q W → TextsAt W 0 W.heap.size am nm M) := Lib.hid (by rw [hQ]; exact fun W h => h.2.wide textLies (Nat.le_refl _) h.1.hi)
    have QN : Hid (∀ w', Q w' → (w'.cell? ⟨g1, 0, none⟩ = some (.slice sa1 n1 ca1) ∧ w'.cell? ⟨g2, 0, none⟩ = some (.slice sa2 n2 ca2) ∧ w'.cell? ⟨g3, 0, none⟩ = some (.slice sa3 n3 ca3)) ∧ w'.cell? ⟨g, 0, none⟩ = some (.string fn) ∧ w'.cell? ⟨g, 1, none⟩ = some (.string ft) ∧ w'.cell? ⟨g, 2, none⟩ = some (.bool fl) ∧ w'.cell? ⟨g, 3, none⟩ = some (.bool fm) ∧ w'.cell? ⟨g, 4, none⟩ = some (.int .i64 fz) ∧ w'.cell? ⟨g, 5, none⟩ = some (.int .i64 fk)) := Lib.hid (by rw [hQ]; exact fun W h => h.1.nine)
    have QL : Hid (∀ W, Q W → LS w W B2 [(g, .cells #[.string fn, .string ft, .bool fl, .bool fm, .int .i64 fz, .int .i64 fk] 31 (0, 0)), (g3, .cells #[.slice sa3 n3 ca3] 25 (0, 0)), (g2, .cells #[.slice sa2 n2 ca2] 25 (0, 0)), (g1, .cells #[.slice sa1 n1 ca1] 25 (0, 0))] [(.agg #[.slice sa3 n3 ca3], s3), (.agg #[.slice sa2 n2 ca2], s2), (.agg #[.slice sa1 n1 ca1], s1)]) := Lib.hid (by rw [hQ]; exact fun W h => h.1)
    obtain ⟨ty, hty⟩ : ∃ ty, typeOfP s1 t1 = ty := ⟨_, rfl⟩
    have CTI : Hid (∀ W, Q W → Calls Try.prog 13 #[.agg #[.slice sa1 n1 ca1], .string t1] W fun e w' => ∃ u, Hid (TypeAt w' 0 w'.heap.size u ty ∧ Below W.heap.size W w' ∧ Q w') ∧ e = .returned u) := Lib.hid fun W h => (cTypeI (QL.out W h) (v := .agg #[.slice sa1 n1 ca1]) (s := s1) (by simp) HW1.out t1 (by have := HT1.out; unfold OkS; omega)).mono fun e w' gg => by
      obtain ⟨u, gu, rfl⟩ := gg
      exact ⟨u, Lib.hid ⟨by rw [← hty]; exact gu.out.1, gu.out.2.1, QB.out W _ h gu.out.2.1⟩, rfl⟩
    have CTS : Hid (∀ W, Q W → Calls Try.prog 14 #[.agg #[.slice sa1 n1 ca1], .string t1] W fun e w' => ∃ u, Hid (TypeAt w' 0 w'.heap.size u ty ∧ Below W.heap.size W w' ∧ Q w') ∧ e = .returned u) := Lib.hid fun W h => (cTypeS (QL.out W h) (v := .agg #[.slice sa1 n1 ca1]) (s := s1) (by simp) HW1.out t1 (by have := HT1.out; unfold OkS; omega)).mono fun e w' gg => by
      obtain ⟨u, gu, rfl⟩ := gg
      exact ⟨u, Lib.hid ⟨by rw [← hty]; exact gu.out.1, gu.out.2.1, QB.out W _ h gu.out.2.1⟩, rfl⟩
    have CLW : Hid (∀ W u v, Q W → TypeAt W 0 W.heap.size u ty → TypeAt W 0 W.heap.size v ty → Calls Try.prog 12 #[u, v] W fun e w' => e = .returned (.bool true) ∧ Hid (Q w')) := Lib.hid fun W u v h h1 h2 => (lwType W 0 _ 0 _ u v ty h1 h2 (Nat.le_refl _) (Nat.le_refl _)).mono fun e w' gg => ⟨gg.1, Lib.hid (QB.out W _ h gg.2)⟩
    have CFS : Hid (∀ W, Q W → Calls Try.prog 15 #[.agg #[.slice sa2 n2 ca2], .string t2, .string f2] W fun e w' => e = .returned (.agg #[.string fn, .string ft, .bool fl, .bool fm, .int .i64 fz, .int .i64 fk]) ∧ Hid (Q w')) := Lib.hid fun W h => by
      have := cFieldS (QL.out W h) (v := .agg #[.slice sa2 n2 ca2]) (s := s2) (by simp) t2 f2 (by have := HT2.out; unfold OkS; omega) (by have := HF2.out; unfold OkS; omega)
      rw [HFE.out] at this
      exact this.mono fun e w' gg => ⟨gg.1, Lib.hid (QB.out W _ h gg.2.out.1)⟩
    have CMS : Hid (∀ W, Q W → Calls Try.prog 17 #[.agg #[.slice sa3 n3 ca3], .string t3] W fun e w' => ∃ a cap, Hid (TextsAt w' 0 w'.heap.size a nm M ∧ Q w') ∧ e = .returned (.slice a nm cap)) := Lib.hid fun W h => by
      have := cMemS (QL.out W h) (v := .agg #[.slice sa3 n3 ca3]) (s := s3) (by simp) HW3.out t3 (by have := HT3.out; unfold OkS; omega)
      rw [HME.out, HNM.out] at this
      exact this.mono fun e w' gg => by
        obtain ⟨a, cap, gu, rfl⟩ := gg
        exact ⟨a, cap, Lib.hid ⟨(gu.out.1.at_ textLies id).wide textLies (Nat.zero_le _) (Nat.le_refl _), QB.out W _ h gu.out.2.2.1⟩, rfl⟩
    have CLT : Hid (∀ W a cap, Q W → TextsAt W 0 W.heap.size a nm M → Calls Try.prog 16 #[.slice am nm cm, .slice a nm cap] W fun e w' => e = .returned (.bool true) ∧ Hid (Q w')) := Lib.hid fun W a cap h h1 => (lwTexts W 0 _ 0 _ am a nm cm cap M (QM.out W h) h1 (Nat.le_refl _) (Nat.le_refl _)).mono fun e w' gg => ⟨gg.1, Lib.hid (QB.out W _ h gg.2)⟩
    clear hQ hQ0 hty HR
    go_upto_region 7 with fail
    go_cut [69] from 46 to 69 (fun v wx => v = .bool false ∧ Hid (Q wx))
    case first =>
      have Q1 := Lib.hid (QD.out _ Q0.out)
      go_region_held3 (fun w' => (w'.cell? ⟨g1, 0, none⟩ = some (.slice sa1 n1 ca1) ∧ w'.cell? ⟨g2, 0, none⟩ = some (.slice sa2 n2 ca2) ∧ w'.cell? ⟨g3, 0, none⟩ = some (.slice sa3 n3 ca3)) ∧ w'.cell? ⟨g, 0, none⟩ = some (.string fn) ∧ w'.cell? ⟨g, 1, none⟩ = some (.string ft) ∧ w'.cell? ⟨g, 2, none⟩ = some (.bool fl) ∧ w'.cell? ⟨g, 3, none⟩ = some (.bool fm) ∧ w'.cell? ⟨g, 4, none⟩ = some (.int .i64 fz) ∧ w'.cell? ⟨g, 5, none⟩ = some (.int .i64 fk))
        (first | with_reducible exact QN.out _ Q1.out | with_reducible exact QN.out _ Q2.out | with_reducible exact QN.out _ Q3.out | with_reducible exact QN.out _ Q4.out | with_reducible exact QN.out _ Q5.out | with_reducible exact QN.out _ Q6.out | with_reducible exact QN.out _ Q7.out)
        (first
        | (go_at_call 16; refine (CLT.out _ _ _ Q6.out M6.out).mono ?_; rintro e y7 ⟨rfl, Q7⟩)
        | (go_at_call 17; refine (CMS.out _ Q5.out).mono ?_; rintro e y6 ⟨a6, c6, P6, rfl⟩; have Q6 := Lib.hid P6.out.2; have M6 := Lib.hid P6.out.1)
        | (go_at_call 15; refine (CFS.out _ Q4.out).mono ?_; rintro e y5 ⟨rfl, Q5⟩)
        | (go_at_call 12; refine (CLW.out _ _ _ Q3.out (by first | with_reducible exact A2.out | with_reducible exact A3.out) (by first | with_reducible exact A3.out | with_reducible exact A2.out)).mono ?_; rintro e y4 ⟨rfl, Q4⟩)
        | (go_at_call 14; have tok := Q2; refine (CTS.out _ Q2.out).mono ?_; rintro e y3 ⟨u3, P3, rfl⟩; have Q3 := Lib.hid P3.out.2.2; have A3 := Lib.hid P3.out.1; have A2' := Lib.hid ((A2.out.below (Nat.le_refl _) P3.out.2.1).wide (Nat.le_refl _) P3.out.2.1.size); clear A2; have A2 := A2')
        | (go_at_call 13; have tok := Q2; refine (CTI.out _ Q2.out).mono ?_; rintro e y3 ⟨u3, P3, rfl⟩; have Q3 := Lib.hid P3.out.2.2; have A3 := Lib.hid P3.out.1; have A2' := Lib.hid ((A2.out.below (Nat.le_refl _) P3.out.2.1).wide (Nat.le_refl _) P3.out.2.1.size); clear A2; have A2 := A2')
        | (go_at_call 14; refine (CTS.out _ Q1.out).mono ?_; rintro e y2 ⟨u2, P2, rfl⟩; have Q2 := Lib.hid P2.out.2.2; have A2 := Lib.hid P2.out.1)
        | (go_at_call 13; refine (CTI.out _ Q1.out).mono ?_; rintro e y2 ⟨u2, P2, rfl⟩; have Q2 := Lib.hid P2.out.2.2; have A2 := Lib.hid P2.out.1))
      all_goals
        go_wp2_with fail
        go_meet
        exact ⟨rfl, Q7⟩
    case rest =>
      obtain ⟨rfl, Q9⟩ := hcut
      have hnm : nm ≤ 1048576 := by rw [← HNM.out]; exact HML.out
      have HFO : Hid (OkS ft) := Lib.hid (by
        have := fieldOfP_ok (HA3.out.sch (.agg #[.slice sa2 n2 ca2]) s2 (by simp)) t2 f2
        rw [HFE.out] at this; exact this.2.1)
      have hgl := (QL.out _ Q9.out)
      have CTB : Hid (∀ W x, OkS x → Q W → x ∈ M → Calls Try.prog 13 #[.agg #[.slice sa3 n3 ca3], .string x] W fun e w' => ∃ q1 q2 q3 q4 q5 q6 q7 q8, Hid (Q w') ∧ e = .returned (.agg #[.string q1, .int .i64 2, .int .i64 q2, .slice q3 q4 q5, .slice q6 q7 q8])) := Lib.hid fun W x hx h hm => (cTypeI (QL.out W h) (v := .agg #[.slice sa3 n3 ca3]) (s := s3) (by simp) HW3.out x hx).mono fun e w' gg => by
        obtain ⟨u, gu, rfl⟩ := gg
        obtain ⟨⟨c1, c2, c3, c4, rfl, _⟩, hb, _⟩ := gu.out
        have hk := HMO.out x hm
        exact ⟨_, _, _, _, _, _, _, _, Lib.hid (QB.out W _ h hb), by rw [← hk]; rfl⟩
      clear hgl
      go_wp2_with fail
      go_loopw [14] (fun v wr => ∃ i : Nat, i ≤ nm ∧ v = .int .i64 i ∧ Hid (Q wr)) (fun v _ => nm - (intOf v).toNat)
      case atStart => exact ⟨0, by omega, rfl, Q9⟩
      case round =>
        obtain ⟨i, hi, rfl, QR⟩ := hrel
        have ⟨⟨_, k7, k10⟩, k0, k1, _⟩ := QN.out _ QR.out
        by_cases hlt : i < nm
        · have hli : (i : Int) < (nm : Int) := by omega
          obtain ⟨x, b, off, hd, ham, hA, hbb, hok, hc⟩ := (QM.out _ QR.out).at hlt
          subst ham
          rw [Nat.mul_one] at hc
          have HX := Lib.hid (List.mem_of_getElem? hd)
          have HOK := Lib.hid hok
          clear hlt hd hok hA hbb
          go_wp2_with fail
          go_region_with (go_at_call 13; refine (CTB.out _ x HOK.out (QD.out _ QR.out) HX.out).mono ?_; rintro e w5 ⟨q1, q2, q3, q4, q5, q6, q7, q8, Q5, rfl⟩; have hfd := field_ty q1 2 q2 q3 q4 q5 q6 q7 q8)
          all_goals
            clear hfd
            go_wp2_with fail
            go_roundw
            case rel => exact ⟨i + 1, by omega, by go_num, Q5⟩
            case measure => simp [intOf]; omega
        · obtain rfl : i = nm := by omega
          clear hlt
          rcases HF.out with hfe | ⟨hne, hfn, hk1, hk2⟩
          · have hfe' : fn = ⟨#[]⟩ := hfe
            clear hfe
            subst hfe'
            go_wp2_with fail
            go_ret
            exact ⟨rfl, QBel.out _ QR.out⟩
          · have hne' : fn ≠ ⟨#[]⟩ := hne
            have hfn' : fn = f2 := hfn
            have hk2' : (typeOfP s2 ft).kind ≠ 0 := hk2
            clear hne hfn hk2
            have hne := hne'
            have hk2 := hk2'
            clear hne' hk2'
            subst hfn'
            have e1 : (fn.toList == []) = false := beq_eq_false_iff_ne.2 fun h => hne (ByteArray.ext (Array.toList_inj.1 (by rw [Lib.toList_data] at h; exact h)))
            have e2 : fn.toList.isEmpty = false := by simpa using e1
            have CTA : Hid (∀ W, Q W → Calls Try.prog 13 #[.agg #[.slice sa2 n2 ca2], .string t2] W fun e w' => ∃ q1 q2 q3 q4 q5 q6 q7 q8, Hid (Q w') ∧ e = .returned (.agg #[.string q1, .int .i64 2, .int .i64 q2, .slice q3 q4 q5, .slice q6 q7 q8])) := Lib.hid fun W h => (cTypeI (QL.out W h) (v := .agg #[.slice sa2 n2 ca2]) (s := s2) (by simp) HW2.out t2 (by have := HT2.out; unfold OkS; omega)).mono fun e w' gg => by
              obtain ⟨u, gu, rfl⟩ := gg
              obtain ⟨⟨c1, c2, c3, c4, rfl, _⟩, hb, _⟩ := gu.out
              exact ⟨_, _, _, _, _, _, _, _, Lib.hid (QB.out W _ h hb), by rw [← hk1]; rfl⟩
            obtain ⟨kk, hkk⟩ : ∃ k, (typeOfP s2 ft).kind = k := ⟨_, rfl⟩
            have CTC : Hid (∀ W, Q W → Calls Try.prog 13 #[.agg #[.slice sa2 n2 ca2], .string ft] W fun e w' => ∃ q1 q2 q3 q4 q5 q6 q7 q8, Hid (Q w') ∧ e = .returned (.agg #[.string q1, .int .i64 kk, .int .i64 q2, .slice q3 q4 q5, .slice q6 q7 q8])) := Lib.hid fun W h => (cTypeI (QL.out W h) (v := .agg #[.slice sa2 n2 ca2]) (s := s2) (by simp) HW2.out ft HFO.out).mono fun e w' gg => by
              obtain ⟨u, gu, rfl⟩ := gg
              obtain ⟨⟨c1, c2, c3, c4, rfl, _⟩, hb, _⟩ := gu.out
              exact ⟨_, _, _, _, _, _, _, _, Lib.hid (QB.out W _ h hb), by rw [← hkk]; rfl⟩
            rw [hkk] at hk2
            have e3 : (kk != 0) = true := by simpa using hk2
            have e4 : (kk == 0) = false := beq_eq_false_iff_ne.2 hk2
            clear hne hk1 hk2 hkk
            go_wp2_with fail
            refine (CTA.out _ QR.out).mono ?_
            rintro e w5 ⟨q1, q2, q3, q4, q5, q6, q7, q8, Q5, rfl⟩
            have ⟨⟨_, k7', k10'⟩, k0', k1', _⟩ := QN.out _ Q5.out
            have hfd := field_ty q1 2 q2 q3 q4 q5 q6 q7 q8
            go_wp2_with fail
            refine (CTC.out _ Q5.out).mono ?_
            rintro e w6 ⟨r1, r2, r3, r4, r5, r6, r7, r8, Q6, rfl⟩
            have hfe := field_ty r1 kk r2 r3 r4 r5 r6 r7 r8
            go_wp2_with fail
            go_ret
            exact ⟨rfl, QBel.out _ Q6.out⟩

/-! ### THE ROW's STEP: WRITTEN OUT: LEAVE IT -/
set_option maxRecDepth 100000 in
theorem lifted (os : Os) (started : os.Started) (H : Type) (enc : TypeId × Value → H) :
    ReturnsInHanded {} Try.checked os 3 .any (Rows.fnSchemaSpec.pre6 enc Try.prog Try.f3 Rows.fnSchemaRow.domain false) (Rows.fnSchemaSpec.post enc Try.prog Try.f3 false true false false) := by
  refine returnsInHanded_of_change (C := Try.checked) own started (by kernel_rfl) Try.func3
    (ChangeSpec.witness6 (enc := enc) (C := Try.checked) false ⟨#[], #[.slice none 0 0, .slice none 0 0], []⟩ 8 (by kernel_rfl) (by kernel_rfl) (by kernel_rfl) (by kernel_rfl)) ?_
  intro W base args ds gs before hval0 hW hcnd _
  have hval : ∀ (j : Nat) t v, Try.f3.params[j]? = some t → args[j]? = some v → Value.okWide Try.prog W .any base t v := hval0
  have hW' := hW
  obtain ⟨p, q, hA0, hV, rfl, hfz, hnd⟩ := hW
  have hA : DataW.TrodAll enc Try.prog W 0 (fun _ => true) true Try.f3.params.toList args.toList ds p := hA0
  rw [Try.params3] at hA hval
  obtain ⟨v0, vs0, d0, ds0, p0, q0, hargs, rfl, rfl, h0, r0⟩ := trodAll_cons hA
  obtain ⟨v1, vs1, d1, ds1, p1, q1, rfl, rfl, rfl, h1, r1⟩ := trodAll_cons r0
  obtain ⟨rfl, rfl, rfl⟩ := trodAll_nil r1
  obtain rfl : args = #[v0, v1] := by cases args; simp_all
  obtain ⟨rfl, rfl⟩ := trodVars_none hV
  obtain ⟨a0, len0, cap0, rfl⟩ := okWide_slice Try.underlying22 (hval 0 22 v0 rfl rfl)
  have k0 := h0
  have lt0 : ∀ x ∈ p0, x.block < W.heap.size := by obtain ⟨m, hm⟩ := k0; exact DataW.trod_lt m _ _ _ hm
  obtain ⟨z0, w0⟩ : ∃ zs, IsRow .u8 W a0 len0 cap0 zs := by
    obtain ⟨fuel, hf⟩ := h0
    rcases open_ints Try.underlying22 Try.underlying5 (by kernel_rfl) hf with ⟨hcs, _⟩ | ⟨x, l, c, zs, hcs, _, hl, hm, hz, _, hcell, hwz⟩
    · simp [Value.cells] at hcs
      obtain ⟨rfl, rfl, rfl⟩ := hcs
      exact ⟨[], .inl ⟨rfl, rfl, rfl, rfl⟩⟩
    · simp [Value.cells] at hcs
      obtain ⟨rfl, rfl, rfl⟩ := hcs
      exact ⟨zs, .inr ⟨_, rfl, hl, hm, by simpa using hz, hcell, hwz⟩⟩
  obtain ⟨a1, len1, cap1, rfl⟩ := okWide_slice Try.underlying22 (hval 1 22 v1 rfl rfl)
  have k1 := h1
  have lt1 : ∀ x ∈ p1, x.block < W.heap.size := by obtain ⟨m, hm⟩ := k1; exact DataW.trod_lt m _ _ _ hm
  obtain ⟨z1, w1⟩ : ∃ zs, IsRow .u8 W a1 len1 cap1 zs := by
    obtain ⟨fuel, hf⟩ := h1
    rcases open_ints Try.underlying22 Try.underlying5 (by kernel_rfl) hf with ⟨hcs, _⟩ | ⟨x, l, c, zs, hcs, _, hl, hm, hz, _, hcell, hwz⟩
    · simp [Value.cells] at hcs
      obtain ⟨rfl, rfl, rfl⟩ := hcs
      exact ⟨[], .inl ⟨rfl, rfl, rfl, rfl⟩⟩
    · simp [Value.cells] at hcs
      obtain ⟨rfl, rfl, rfl⟩ := hcs
      exact ⟨zs, .inr ⟨_, rfl, hl, hm, by simpa using hz, hcell, hwz⟩⟩
  clear hA0 hval0
  refine (walk a0 len0 cap0 z0 a1 len1 cap1 z1 W w0 w1).mono fun e W' ⟨he, bel⟩ => ?_
  subst he
  exact ⟨_, rfl, _, _, _, [], _, [], hW', trodAll_mk1 (shut_bool Try.underlying4 _), (trodAll_cons_mk (Below.trod laidOut (by kernel_rfl) (of_decide_eq_true (by kernel_rfl)) k0 bel lt0) (trodAll_cons_mk (Below.trod laidOut (by kernel_rfl) (of_decide_eq_true (by kernel_rfl)) k1 bel lt1) trodAll_mk0)), rfl, bel.frame _, fun h => by cases h⟩

theorem over : Rows.fnSchemaRow.holds Try.pinned (OpenSpec.ofChange Rows.fnSchemaSpec) :=
  OpenClaim.holds_of_wide 3 Try.f3 rfl rfl rfl rfl rfl rfl rfl ⟨rfl, rfl, rfl, rfl, rfl⟩ rfl rfl rfl rfl rfl (by kernel_rfl) Try.func3 (by kernel_rfl)
    (of_decide_eq_true (by kernel_rfl)) (by unfold Func.isWrapper; first | (rw [if_pos (by decide +kernel)]; kernel_rfl) | (rw [if_neg (by decide +kernel)]; exact ⟨rfl, rfl⟩))
    (fun os started H enc _ => lifted os started H enc)

/-- The given statement. -/
theorem proved : Rows.FnSchemaSaid := over
#print axioms proved
end Go.Proofs.Ytcogbmcnljlnaaa.fnSchema
