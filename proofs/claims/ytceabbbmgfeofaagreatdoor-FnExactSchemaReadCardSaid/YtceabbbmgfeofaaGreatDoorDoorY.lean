/-
  What the rows' list of package-level variables gives: the table of powers of ten, the two errors of strconv, MaxLen; and a world that meets the list. No condition beside.
-/
import Derived.Test.YtceabbbmgfeofaaGreatDoorRows
import Derived.Test.YtceabbbmgfeofaaGreatDoorVarsR
import Derived.ProofKit
import Derived.OpenShut
import Derived.ShutString
import Derived.ChangeOld
import Derived.LaidLaws
import Derived.LaidHandle
import Derived.LaidSub
import Derived.MakeChecks
import Derived.Stop.LaidErr
import Derived.Deep.DeepHandedRow
namespace Go.Proofs.YtceabbbmgfeofaaGreatDoor.Doors
open Go.ChangeShapes Go.WideShapes Go.ChangeAt Go.RowKit Decs
set_option linter.unusedVariables false
set_option maxRecDepth 100000

theorem own : ownKnob Tryz.prog.godebug = none := by kernel_rfl
theorem laidOut : laidOutB Tryz.prog = true := by kernel_rfl
abbrev listed : List (String × DataW Unit) := [("math/bits.deBruijn32tab", Rows.laid_math_bits_deBruijn32tab), ("math/bits.deBruijn64tab", Rows.laid_math_bits_deBruijn64tab), ("internal/strconv.uint64pow10", Rows.laid_internal_strconv_uint64pow10), ("unicode/utf8.acceptRanges", Rows.laid_unicode_utf8_acceptRanges), ("strconv.ErrRange", Rows.laid_strconv_ErrRange), ("strconv.ErrSyntax", Rows.laid_strconv_ErrSyntax), ("unicode/utf8.first", Rows.laid_unicode_utf8_first)]

theorem pow {W : World} (h : laidMetH Tryz.prog listed W) : Decs.Pow W.heap.size W := by
  have h1 := h.filter (fun x => x.1 == "internal/strconv.uint64pow10")
  have e : (listed.filter fun x => x.1 == "internal/strconv.uint64pow10") = [("internal/strconv.uint64pow10", Lib.tabData .u64 Lib.pow10Tab)] := by kernel_rfl
  rw [e] at h1
  have h2 : laidMet Tryz.prog [("internal/strconv.uint64pow10", Lib.tabData .u64 Lib.pow10Tab)] W := h1
  exact Lib.tabBelow_of_tabIs (Lib.tabIs_of_head (g := 6) (t := 334) (e := 131) (n := 20) (by kernel_rfl) rfl Tryz.underlying334 Tryz.underlying131 (by kernel_rfl) (by kernel_rfl) h2)

theorem gSyn : Tryz.prog.globalNamed "strconv.ErrSyntax" = some 4 := by kernel_rfl
theorem gRng : Tryz.prog.globalNamed "strconv.ErrRange" = some 5 := by kernel_rfl
theorem tSyn : (Tryz.prog.globals[4]?).map (·.type) = some 79 := by kernel_rfl
theorem tRng : (Tryz.prog.globals[5]?).map (·.type) = some 79 := by kernel_rfl
theorem ifaceCell {W : World} {n nm : String} {g : Nat} {d : DataW Unit} (hg : Tryz.prog.globalNamed n = some g) (h : laidMet Tryz.prog [(n, .iface nm d)] W) (ht : (Tryz.prog.globals[g]?).map (·.type) = some 79) : ∃ u x, W.cell? ⟨g, 0, none⟩ = some (.iface u x) := by
  obtain ⟨ps, ⟨g0, t0, cs0, f0, p0, q0, hg0, ht0, hv0, hd0, _⟩, _⟩ := h
  obtain rfl := Option.some.inj (hg.symm.trans hg0)
  obtain rfl := Option.some.inj (ht.symm.trans ht0)
  obtain ⟨l0⟩ := cs0
  obtain ⟨f1, u, v, e, _, _⟩ := iface_of_trod Tryz.underlying79 hd0
  subst e
  exact ⟨u, v, by simpa using World.var?_cell hg hv0 0⟩
theorem syn {W : World} (h : laidMetH Tryz.prog listed W) : ∃ u x, W.cell? ⟨4, 0, none⟩ = some (.iface u x) := by
  have h1 := h.filter (fun x => x.1 == "strconv.ErrSyntax")
  have e : (listed.filter fun x => x.1 == "strconv.ErrSyntax") = [("strconv.ErrSyntax", Rows.laid_strconv_ErrSyntax)] := by kernel_rfl
  rw [e] at h1
  have h2 : laidMet Tryz.prog [("strconv.ErrSyntax", Rows.laid_strconv_ErrSyntax)] W := h1
  exact ifaceCell gSyn h2 tSyn
theorem rng {W : World} (h : laidMetH Tryz.prog listed W) : ∃ u x, W.cell? ⟨5, 0, none⟩ = some (.iface u x) := by
  have h1 := h.filter (fun x => x.1 == "strconv.ErrRange")
  have e : (listed.filter fun x => x.1 == "strconv.ErrRange") = [("strconv.ErrRange", Rows.laid_strconv_ErrRange)] := by kernel_rfl
  rw [e] at h1
  have h2 : laidMet Tryz.prog [("strconv.ErrRange", Rows.laid_strconv_ErrRange)] W := h1
  exact ifaceCell gRng h2 tRng
/-- A variable of an integer type holds SOME integer. -/
theorem intOfShape {W : World} {g : Nat} {zero : Array Value} (h : W.ShapedOpen Tryz.prog) (hg : g < Tryz.prog.globals.size)
    (h0 : ((begin Tryz.prog (fun _ _ => 0) default).world.heap[g]?).bind Obj.row? = some (zero, 3)) (hz : zero.size = 1) (hb : Tryz.prog.buildable 3 = true) (hc : Tryz.prog.cellTypes Tryz.prog.depth 3 = some [3]) : ∃ m, W.cell? ⟨g, 0, none⟩ = some (.int .i64 m) := by
  obtain ⟨cs, hh, hs, hr⟩ := h.1 g zero 3 hg h0
  obtain ⟨ts, hts, _, hall⟩ := hr hb
  rw [hc] at hts
  cases hts
  have h1 : 0 < cs.size := by omega
  obtain ⟨u, hu', hok⟩ := hall 0 cs[0] (by simp [h1])
  have : u = 3 := by simpa using hu'.symm
  subst this
  have hcell : W.cell? ⟨g, 0, none⟩ = some cs[0] := by simp [World.cell?, hh, h1]
  rw [hcell]
  unfold Cell.ok at hok
  rw [Tryz.underlying3] at hok
  cases hv : cs[0] <;> rw [hv] at hok <;> first | (simp at hok; done) | (obtain ⟨rfl, _⟩ := hok; exact ⟨_, rfl⟩) | skip
  trace_state
theorem maxLen_ {W : World} (h : W.ShapedOpen Tryz.prog) : ∃ m, W.cell? ⟨1, 0, none⟩ = some (.int .i64 m) :=
  intOfShape (zero := #[.int .i64 0]) h (of_decide_eq_true (by kernel_rfl)) (by kernel_rfl) rfl (by kernel_rfl) (by kernel_rfl)
theorem vars {W : World} (h : laidMetH Tryz.prog listed W) (hs : W.ShapedOpen Tryz.prog) : Rw.VarsR W.heap.size W := by
  intro w' hb
  have keep : ∀ {g : Nat} {v : Value}, W.cell? ⟨g, 0, none⟩ = some v → w'.cell? ⟨g, 0, none⟩ = some v := fun {g v} hc => by
    have hlt : g < W.heap.size := World.block_lt_of_cell? W ⟨g, 0, none⟩ hc
    rw [hb.cell (p := ⟨g, 0, none⟩) hlt]; exact hc
  refine ⟨pow h w' hb, ?_, ?_, ?_⟩
  · obtain ⟨m, hm⟩ := maxLen_ hs; exact ⟨m, keep hm⟩
  · obtain ⟨u, x, hx⟩ := syn h; exact ⟨u, x, keep hx⟩
  · obtain ⟨u, x, hx⟩ := rng h; exact ⟨u, x, keep hx⟩

def litV : DataW Unit → Value
  | .lit (.int k n) => .int k n
  | _ => .nilIface
def tabV : DataW Unit → List Value
  | .agg l => l.flatMap fun x => match x with
    | .agg l2 => l2.map litV
    | d => [litV d]
  | _ => []
def layV (g : Nat) (vs : List Value) (h : Array Obj) : Array Obj := h.modify g fun
  | .cells _ t frozen => .cells vs.toArray t frozen
  | o => o
noncomputable def baseW (os : Os) : World := World.holding Tryz.prog os ⟨#[], #[], []⟩
noncomputable def heap0 (os : Os) : Array Obj :=
  ((baseW os).heap.push (.cells #[.string ⟨#[118, 97, 108, 117, 101, 32, 111, 117, 116, 32, 111, 102, 32, 114, 97, 110, 103, 101]⟩] 326)).push (.cells #[.string ⟨#[105, 110, 118, 97, 108, 105, 100, 32, 115, 121, 110, 116, 97, 120]⟩] 326)
noncomputable def heap1 (os : Os) : Array Obj :=
  layV 7 (tabV Rows.laid_math_bits_deBruijn32tab) (layV 8 (tabV Rows.laid_math_bits_deBruijn64tab) (layV 6 (tabV Rows.laid_internal_strconv_uint64pow10)
    (layV 3 (tabV Rows.laid_unicode_utf8_acceptRanges) (layV 2 (tabV Rows.laid_unicode_utf8_first) (layV 5 [.iface 324 (.pointer (some ⟨(baseW os).heap.size, 0, none⟩))] (layV 4 [.iface 324 (.pointer (some ⟨(baseW os).heap.size + 1, 0, none⟩))] (heap0 os)))))))
noncomputable def laidWorld (os : Os) : World := { baseW os with heap := heap1 os }
theorem laid_met (os : Os) (args : Array Value) : laidMetH Tryz.prog listed ((laidWorld os).forCall (fun _ _ => 0) ⟨#[], args, []⟩).memory :=
  laidMetH_of_parts (laidMet_of_run' 8 (by kernel_rfl) (by kernel_rfl)) (by kernel_rfl)
end Go.Proofs.YtceabbbmgfeofaaGreatDoor.Doors
