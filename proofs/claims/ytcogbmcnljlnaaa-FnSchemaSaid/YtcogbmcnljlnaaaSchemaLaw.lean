/-
  Contracts: laws.lwTexts, lwType say of like ones that they are; of what was there nothing is changed. Conditions: in memory.
-/
/-
  What something of a type may be are objects; a field that is told has the name that was asked for: plainly, of right schemas; and the state of the law's memory. Conditions: as each theorem says.
-/
import Derived.Test.YtcogbmcnljlnaaaRows
import Derived.Test.YtcogbmcnljlnaaaSch
import Derived.Deep.QuietTactic
import Derived.BigQuiet
import Derived.Test.YtcogbmcnljlnaaaKindR
import Derived.Test.YtcogbmcnljlnaaaSchTC
namespace Go.Proofs.Ytcogbmcnljlnaaa.Rw
open Go.RowKit
set_option linter.unusedVariables false
set_option maxRecDepth 100000

theorem lwTexts (w : World) (A B A' B' : Nat) (a a' : Option Addr) (len cap cap' : Nat) (l : List ByteArray) (hs : TextsAt w A B a len l) (hs' : TextsAt w A' B' a' len l) (hB : B ≤ w.heap.size) (hB' : B' ≤ w.heap.size) :
    Calls Try.prog 16 #[.slice a len cap, .slice a' len cap'] w fun e w' => e = .returned (.bool true) ∧ Below w.heap.size w w' := by
  have hlen := hs.2.1
  have HS := Lib.hid hs
  have HS' := Lib.hid hs'
  clear hs hs'
  go_enter Try.func16, Try.ntmps16
  go_wp2_with fail
  go_loopw [5] (fun i wr => ∃ i' : Nat, i' ≤ len ∧ i = .int .i64 i' ∧ Below w.heap.size w wr) (fun i _ => len - (intOf i).toNat)
  case atStart => exact ⟨0, by omega, rfl, Below.refl _ _⟩
  case round =>
    obtain ⟨i, hi, rfl, hb⟩ := hrel
    by_cases hlt : i < len
    · have hli : (i : Int) < (len : Int) := by omega
      obtain ⟨x, b, off, hd, rfl, hA, hbb, hok, hc⟩ := (HS.out.below textLies (Nat.le_refl _) (hb.mono hB)).at hlt
      obtain ⟨x', b', off', hd', rfl, hA', hbb', hok', hc'⟩ := (HS'.out.below textLies (Nat.le_refl _) (hb.mono hB')).at hlt
      obtain rfl : x' = x := by rw [hd] at hd'; cases hd'; rfl
      rw [Nat.mul_one] at hc hc'
      have HB := Lib.hid hb
      clear hlt hd hd' hb hok hok'
      go_wp2_with fail
      go_region
      go_wp2_with fail
      go_roundw
      case rel => exact ⟨i + 1, by omega, by go_num, HB.out.drew⟩
      case measure => simp [intOf]; omega
    · obtain rfl : i = len := by omega
      have HB := Lib.hid hb
      clear hlt hb
      go_wp2_with fail
      go_ret
      exact ⟨rfl, HB.out⟩

set_option maxHeartbeats 4000000 in
theorem lwType (w : World) (A B A' B' : Nat) (v v' : Value) (x : TypeP) (hs : TypeAt w A B v x) (hs' : TypeAt w A' B' v' x) (hB : B ≤ w.heap.size) (hB' : B' ≤ w.heap.size) :
    Calls Try.prog 12 #[v, v'] w fun e w' => e = .returned (.bool true) ∧ Below w.heap.size w w' := by
  obtain ⟨a, ca, c, cc, rfl, hk, ⟨h2, _⟩, h3, _⟩ := hs
  obtain ⟨a', ca', c', cc', rfl, _, ⟨h2', _⟩, h3', _⟩ := hs'
  obtain ⟨nm, kd, by_, fs, ms⟩ := x
  obtain ⟨hk, ⟨hs1, hs2⟩, hs3, hs4⟩ := hk
  unfold OkS at hk
  simp only [TypeP.cells] at hk hs1 hs2 hs3 hs4 h2 h3 h2' h3' ⊢
  have hfl := h2.2.1
  have H2 := Lib.hid h2
  have H3 := Lib.hid h3
  have H2' := Lib.hid h2'
  have H3' := Lib.hid h3'
  clear h2 h3 h2' h3'
  have HA : Hid (∀ o1 o2, Below w.heap.size w ((w.alloc o1).alloc o2)) := Lib.hid fun o1 o2 => ((Below.refl _ _).alloc (Nat.le_refl _) o1).alloc (by simp) o2
  have CL : Hid (∀ w' : World, Below w.heap.size w w' → Calls Try.prog 16 #[.slice c ms.length cc, .slice c' ms.length cc'] w' fun e w'' => e = .returned (.bool true) ∧ Below w'.heap.size w' w'') := Lib.hid fun w' h => lwTexts w' A B A' B' c c' _ cc cc' ms (H3.out.below textLies hB h) (H3'.out.below textLies hB' h) (Nat.le_trans hB h.size) (Nat.le_trans hB' h.size)
  obtain ⟨n, hn⟩ : ∃ n, fs.length = n := ⟨_, rfl⟩
  rw [hn] at hfl ⊢
  have HN := Lib.hid hn
  clear hn
  go_enter Try.func12, Try.ntmps12
  go_wp2_with fail
  refine (CL.out _ (HA.out _ _)).mono ?_
  rintro e w1 ⟨rfl, hb1⟩
  have HB1 : Hid (Below w.heap.size w w1) := Lib.hid ((HA.out _ _).trans (hb1.mono (HA.out _ _).size))
  have e1 : (w.alloc (.cells #[.string nm, .int .i64 kd, .int .i64 by_, .slice a n ca, .slice c ms.length cc] 38)).heap.size = w.heap.size + 1 := by simp
  have hx1 : w1.heap[w.heap.size]? = some (.cells #[.string nm, .int .i64 kd, .int .i64 by_, .slice a n ca, .slice c ms.length cc] 38 (0, 0)) := by
    rw [hb1.block _ (by simp; omega), Go.Deep.blk_alloc_lt _ _ _ (by simp)]; exact Go.Deep.blk_alloc_new _ _
  have hx2 : w1.heap[w.heap.size + 1]? = some (.cells #[.string nm, .int .i64 kd, .int .i64 by_, .slice a' n ca', .slice c' ms.length cc'] 38 (0, 0)) := by
    rw [hb1.block _ (by simp), ← e1]; exact Go.Deep.blk_alloc_new _ _
  have HX1 := Lib.hid hx1
  have HX2 := Lib.hid hx2
  clear hb1 hx1 hx2 e1
  go_wp2_with fail
  go_loopw [5] (fun v wr => ∃ i : Nat, i ≤ n ∧ v = .int .i64 i ∧ Below w1.heap.size w1 wr) (fun v _ => n - (intOf v).toNat)
  case atStart => exact ⟨0, by omega, rfl, Below.refl _ _⟩
  case round =>
    obtain ⟨i, hi, rfl, hb⟩ := hrel
    have HB := Lib.hid hb
    have ⟨⟨p0, p1, p2, p3, p4⟩, _⟩ := keep5 ((hb.block _ (lt_of_get HX1.out)).trans HX1.out)
    have ⟨⟨q0, q1, q2, q3, q4⟩, _⟩ := keep5 ((hb.block _ (lt_of_get HX2.out)).trans HX2.out)
    clear hb
    by_cases hlt : i < n
    · have hli : (i : Int) < (n : Int) := by omega
      have BW : Below w.heap.size w wr := HB1.out.trans (HB.out.mono HB1.out.size)
      obtain ⟨x, b, off, hd, rfl, hA, hbb, hok, hc⟩ := (H2.out.below fieldLies hB BW).at (i := i) (by rw [HN.out]; exact hlt)
      obtain ⟨x', b', off', hd', rfl, hA', hbb', hok', hc'⟩ := (H2'.out.below fieldLies hB' BW).at (i := i) (by rw [HN.out]; exact hlt)
      obtain rfl : x' = x := by rw [hd] at hd'; cases hd'; rfl
      obtain ⟨c0, c1, c2, c3, c4, c5⟩ := row6 hc
      obtain ⟨d0, d1, d2, d3, d4, d5⟩ := row6 hc'
      obtain ⟨fnm, ft, fl, fm, fs_, fc⟩ := x'
      simp only at c0 c1 c2 c3 c4 c5 d0 d1 d2 d3 d4 d5
      clear BW hd hd' hok hok' hc hc' hlt
      go_wp2_with fail
      go_quiet (fail)
      go_wp2_with fail
      go_roundw
      case rel => exact ⟨i + 1, by omega, by go_num, ⟨HB.out.os, HB.out.tape, HB.out.output, HB.out.size, HB.out.block⟩⟩
      case measure => simp [intOf]; omega
    · obtain rfl : i = n := by omega
      clear hlt
      go_wp2_with fail
      go_ret
      exact ⟨rfl, HB1.out.trans (HB.out.mono HB1.out.size)⟩
end Go.Proofs.Ytcogbmcnljlnaaa.Rw

namespace Go.Proofs.Ytcogbmcnljlnaaa.Rw
open Go.RowKit Words
set_option linter.unusedVariables false
set_option maxRecDepth 100000

theorem typeOfP_fresh {s : List TypeP} {t : ByteArray} (h : freshB t s = true) : typeOfP s t = zeroType := by unfold typeOfP; rw [h]; simp
theorem members_objs {s : List TypeP} {u m : ByteArray} (h : m ∈ membersOfP s u) : (typeOfP s m).kind = 2 := by
  unfold membersOfP at h
  cases hs : schemaB s with
  | false => rw [hs] at h; simp at h
  | true =>
    cases hf : freshB u s with
    | true => rw [hs, hf] at h; simp at h
    | false =>
      rw [hs, hf] at h
      simp only [Bool.not_false, Bool.and_true, if_true] at h
      by_cases hk : (typeIn u s).kind = 2
      · rw [if_pos hk, List.mem_singleton] at h
        subst h
        rw [typeOfP_yes m hs]; exact hk
      · rw [if_neg hk] at h
        rw [typeOfP_yes m hs]
        exact part_member (right_at hs hf).2.1 h
theorem zero_no_field (nm : ByteArray) : fieldIn nm zeroType.fields = zeroField := rfl
theorem field_told (s : List TypeP) (t nm : ByteArray) : (fieldOfP s t nm).name = ⟨#[]⟩ ∨ ((fieldOfP s t nm).name ≠ ⟨#[]⟩ ∧ (fieldOfP s t nm).name = nm ∧ (typeOfP s t).kind = 2 ∧ (typeOfP s (fieldOfP s t nm).typ).kind ≠ 0) := by
  unfold fieldOfP
  cases hs : schemaB s with
  | false => left; rfl
  | true =>
    cases hf : freshB t s with
    | true => left; rfl
    | false =>
      simp only [Bool.not_false, Bool.and_true, if_true]
      obtain ⟨r1, r2, r3⟩ := right_at hs hf
      rcases fieldIn_cases nm (typeIn t s).fields with e | ⟨e1, e2⟩
      · left; rw [e]; rfl
      · obtain ⟨p1, p2, p3⟩ := part_field r2 e1
        right
        refine ⟨fun e => ?_, e2, ?_, ?_⟩
        · have := (word_small p1).1
          rw [e] at this; exact absurd this (by decide)
        · rw [typeOfP_yes t hs]
          by_cases hk : (typeIn t s).kind = 2
          · exact hk
          · rw [part_fields r2 hk] at e1; cases e1
        · rw [typeOfP_yes _ hs]
          simpa using p2

/-- The law's memory: boxes and schemas, in blocks below B. -/
structure LS (w W : World) (B : Nat) (K : List (Nat × Obj)) (S : List (Value × List TypeP)) : Prop where
  bel : Below w.heap.size w W
  lo : w.heap.size ≤ B
  hi : B ≤ W.heap.size
  keep : ∀ q o, (q, o) ∈ K → q < B ∧ W.heap[q]? = some o
  sch : ∀ v s, (v, s) ∈ S → SchemaAt W 0 B v s
theorem LS.below {w W W' : World} {B : Nat} {K : List (Nat × Obj)} {S : List (Value × List TypeP)} (h : LS w W B K S) (g : Below W.heap.size W W') : LS w W' B K S :=
  ⟨h.bel.trans (g.mono h.bel.size), h.lo, Nat.le_trans h.hi g.size, fun q o hq => ⟨(h.keep q o hq).1, (g.block q (Nat.lt_of_lt_of_le (h.keep q o hq).1 h.hi)).trans (h.keep q o hq).2⟩, fun v s hs => (h.sch v s hs).below h.hi g⟩
theorem LS.drew {w W : World} {B : Nat} {K : List (Nat × Obj)} {S : List (Value × List TypeP)} (h : LS w W B K S) : LS w W.drew B K S := h.below ⟨rfl, rfl, rfl, Nat.le_refl _, fun _ _ => rfl⟩
theorem LS.alloc {w W : World} {B : Nat} {K : List (Nat × Obj)} {S : List (Value × List TypeP)} (h : LS w W B K S) (o : Obj) : LS w (W.alloc o) B K S := h.below ((Below.refl _ _).alloc (Nat.le_refl _) o)
/-- A further block, of those made since. -/
theorem LS.grow {w W : World} {B : Nat} {K : List (Nat × Obj)} {S : List (Value × List TypeP)} (h : LS w W B K S) {g : Nat} {o : Obj} (hg : W.heap[g]? = some o) : LS w W W.heap.size ((g, o) :: K) S :=
  ⟨h.bel, Nat.le_trans h.lo h.hi, Nat.le_refl _, fun q o' hq => by
    rcases List.mem_cons.1 hq with e | hq
    · cases e; exact ⟨lt_of_get hg, hg⟩
    · exact ⟨Nat.lt_of_lt_of_le (h.keep q o' hq).1 h.hi, (h.keep q o' hq).2⟩, fun v s hs => (h.sch v s hs).wide (Nat.le_refl _) h.hi⟩
theorem LS.more {w W : World} {B : Nat} {K : List (Nat × Obj)} {S : List (Value × List TypeP)} (h : LS w W B K S) {v : Value} {s : List TypeP} (hs : SchemaAt W 0 W.heap.size v s) : LS w W W.heap.size K ((v, s) :: S) :=
  ⟨h.bel, Nat.le_trans h.lo h.hi, Nat.le_refl _, fun q o hq => ⟨Nat.lt_of_lt_of_le (h.keep q o hq).1 h.hi, (h.keep q o hq).2⟩, fun v' s' hm => by
    rcases List.mem_cons.1 hm with e | hm
    · cases e; exact hs
    · exact (h.sch v' s' hm).wide (Nat.le_refl _) h.hi⟩
theorem LS.start (w : World) : LS w w w.heap.size [] [] := ⟨Below.refl _ _, Nat.le_refl _, Nat.le_refl _, fun _ _ h => (by cases h), fun _ _ h => (by cases h)⟩
/-- Stores into a block that is none of these. -/
theorem LS.put {w W : World} {B g : Nat} {K : List (Nat × Obj)} {S : List (Value × List TypeP)} (h : LS w W B K S) (hg : B ≤ g) (l : List Value) : LS w (putL W g 0 l) B K S :=
  ⟨putL_below (Nat.le_trans h.lo hg) l 0 h.bel, h.lo, by rw [putL_size]; exact h.hi, fun q o hq => ⟨(h.keep q o hq).1, (putL_other l W g 0 q (by have := (h.keep q o hq).1; omega)).trans (h.keep q o hq).2⟩,
    fun v s hs => by
      obtain ⟨a, ca, hv, h1, h2⟩ := h.sch v s hs
      exact ⟨a, ca, hv, h1.block typeLies fun c _ c2 => putL_other l W g 0 c (by omega), h2⟩⟩
theorem put_block6 {W : World} {g : Nat} {T : TypeId} {Y : Array Value} {l : List Value} (hE : W.heap[g]? = some (.cells Y T (0, 0))) (hl : l.length = Y.size) : (putL W g 0 l).heap[g]? = some (.cells l.toArray T (0, 0)) := by
  obtain ⟨Z, h1, h2, h3, _⟩ := putL_row l (o := 0) hE (by omega)
  have : Z = l.toArray := by
    apply Array.ext
    · rw [h1]; simp [hl]
    · intro j j1 j2
      have hj : j < l.length := by rw [h1, ← hl] at j1; exact j1
      have := h3 j l[j] (List.getElem?_eq_getElem hj)
      rw [Nat.zero_add, Array.getElem?_eq_getElem j1] at this
      simpa using Option.some.inj this
  rw [← this]; exact h2
/-- What the three boxes hold. -/
theorem LS.three {w W : World} {B : Nat} {S : List (Value × List TypeP)} {g1 g2 g3 : Nat} {v1 v2 v3 : Value} {T : TypeId} {K : List (Nat × Obj)} (h : LS w W B ((g3, .cells #[v3] T (0, 0)) :: (g2, .cells #[v2] T (0, 0)) :: (g1, .cells #[v1] T (0, 0)) :: K) S) :
    W.cell? ⟨g1, 0, none⟩ = some v1 ∧ W.cell? ⟨g2, 0, none⟩ = some v2 ∧ W.cell? ⟨g3, 0, none⟩ = some v3 :=
  ⟨cell_of (h.keep g1 (.cells #[v1] T (0, 0)) (by simp)).2 rfl, cell_of (h.keep g2 (.cells #[v2] T (0, 0)) (by simp)).2 rfl, cell_of (h.keep g3 (.cells #[v3] T (0, 0)) (by simp)).2 rfl⟩
theorem LS.two {w W : World} {B : Nat} {S : List (Value × List TypeP)} {g1 g2 g3 : Nat} {v1 v2 v3 : Value} {T : TypeId} {K : List (Nat × Obj)} (h : LS w W B ((g3, .cells #[v3] T (0, 0)) :: (g2, .cells #[v2] T (0, 0)) :: (g1, .cells #[v1] T (0, 0)) :: K) S) :
    W.cell? ⟨g2, 0, none⟩ = some v2 ∧ W.cell? ⟨g3, 0, none⟩ = some v3 := h.three.2

theorem field_ty (q1 : ByteArray) (k q2 : Int) (q3 : Option Addr) (q4 q5 : Nat) (q6 : Option Addr) (q7 q8 : Nat) : ∀ W : World, Sem.run Try.prog (Instr.field 38 (.agg #[.string q1, .int .i64 k, .int .i64 q2, .slice q3 q4 q5, .slice q6 q7 q8]) 1) W = .ok (.int .i64 k) W := fun _ => rfl
/-- What the four boxes hold. -/
theorem LS.nine {w W : World} {B : Nat} {S : List (Value × List TypeP)} {g g1 g2 g3 : Nat} {v1 v2 v3 f0 f1 f2 f3 f4 f5 : Value} {T U : TypeId} {K : List (Nat × Obj)} (h : LS w W B ((g, .cells #[f0, f1, f2, f3, f4, f5] U (0, 0)) :: (g3, .cells #[v3] T (0, 0)) :: (g2, .cells #[v2] T (0, 0)) :: (g1, .cells #[v1] T (0, 0)) :: K) S) :
    (W.cell? ⟨g1, 0, none⟩ = some v1 ∧ W.cell? ⟨g2, 0, none⟩ = some v2 ∧ W.cell? ⟨g3, 0, none⟩ = some v3) ∧ W.cell? ⟨g, 0, none⟩ = some f0 ∧ W.cell? ⟨g, 1, none⟩ = some f1 ∧ W.cell? ⟨g, 2, none⟩ = some f2 ∧ W.cell? ⟨g, 3, none⟩ = some f3 ∧ W.cell? ⟨g, 4, none⟩ = some f4 ∧ W.cell? ⟨g, 5, none⟩ = some f5 :=
  ⟨⟨cell_of (h.keep g1 (.cells #[v1] T (0, 0)) (by simp)).2 rfl, cell_of (h.keep g2 (.cells #[v2] T (0, 0)) (by simp)).2 rfl, cell_of (h.keep g3 (.cells #[v3] T (0, 0)) (by simp)).2 rfl⟩, (keep6 (h.keep g (.cells #[f0, f1, f2, f3, f4, f5] U (0, 0)) (by simp)).2).1⟩

theorem end6a {w W : World} {B lo hi nm cm : Nat} {am : Option Addr} {M : List ByteArray} {K : List (Nat × Obj)} {S : List (Value × List TypeP)} (L : LS w W B K S) (C : Array Value) (T : TypeId) (hT : TextsX W lo hi am nm M) (hhi : hi ≤ W.heap.size) (hc : nm ≤ cm) :
    Hid (B ≤ W.heap.size ∧ (W.alloc (.cells C T)).heap[W.heap.size]? = some (.cells C T (0, 0)) ∧ TextsAt (W.alloc (.cells C T)) 0 (W.alloc (.cells C T)).heap.size am nm M ∧ nm ≤ cm ∧ LS w (W.alloc (.cells C T)) B K S) := Lib.hid
  ⟨L.hi, Go.Deep.blk_alloc_new W _, ((hT.at_ textLies id).below textLies hhi ((Below.refl _ _).alloc (Nat.le_refl _) _)).wide textLies (Nat.zero_le _) (by simp; omega), hc, L.alloc _⟩
theorem end6b {w W : World} {B g lo hi nm cm : Nat} {am : Option Addr} {M : List ByteArray} {K : List (Nat × Obj)} {S : List (Value × List TypeP)} {Y : Array Value} {T : TypeId} (L : LS w W B K S) (hE : W.heap[g]? = some (.cells Y T (0, 0))) (l : List Value) (hl : l.length = Y.size) (hg : B ≤ g) (hT : TextsX W lo hi am nm M) (hhi : hi ≤ W.heap.size) (hap : g < lo ∨ hi ≤ g) (hc : nm ≤ cm) :
    Hid (B ≤ g ∧ (putL W g 0 l).heap[g]? = some (.cells l.toArray T (0, 0)) ∧ TextsAt (putL W g 0 l) 0 (putL W g 0 l).heap.size am nm M ∧ nm ≤ cm ∧ LS w (putL W g 0 l) B K S) := Lib.hid
  ⟨hg, put_block6 hE hl, ((hT.block textLies fun c c1 c2 => putL_other l W g 0 c (by omega)).at_ textLies id).wide textLies (Nat.zero_le _) (by rw [putL_size]; exact hhi), hc, L.put hg l⟩

/-- Contracts at such a memory. -/
theorem cTypeI {w W : World} {B : Nat} {K : List (Nat × Obj)} {S : List (Value × List TypeP)} (h : LS w W B K S) {v : Value} {s : List TypeP} (hm : (v, s) ∈ S) (hw : schWt s ≤ 10000) (t : ByteArray) (ht : OkS t) :
    Calls Try.prog 13 #[v, .string t] W fun e w' => (∃ u, Hid (TypeAt w' 0 w'.heap.size u (typeOfP s t) ∧ Below W.heap.size W w' ∧ LS w w' B K S) ∧ e = .returned u) :=
  (implTypeOf W 0 _ v s t ht (h.sch v s hm) h.hi (by omega)).mono fun e w' g => by
    obtain ⟨⟨a, ca, c, cc, rfl, hx⟩, hb⟩ := g
    exact ⟨_, Lib.hid ⟨hx.at_.wide (Nat.zero_le _) (Nat.le_refl _), hb, h.below hb⟩, rfl⟩
theorem cTypeS {w W : World} {B : Nat} {K : List (Nat × Obj)} {S : List (Value × List TypeP)} (h : LS w W B K S) {v : Value} {s : List TypeP} (hm : (v, s) ∈ S) (hw : schWt s ≤ 10000) (t : ByteArray) (ht : OkS t) :
    Calls Try.prog 14 #[v, .string t] W fun e w' => (∃ u, Hid (TypeAt w' 0 w'.heap.size u (typeOfP s t) ∧ Below W.heap.size W w' ∧ LS w w' B K S) ∧ e = .returned u) :=
  (specTypeOf W 0 _ v s t ht (h.sch v s hm) h.hi (by omega)).mono fun e w' g => by
    obtain ⟨⟨a, ca, c, cc, rfl, hx⟩, hb⟩ := g
    exact ⟨_, Lib.hid ⟨hx.at_.wide (Nat.zero_le _) (Nat.le_refl _), hb, h.below hb⟩, rfl⟩
theorem cFieldI {w W : World} {B : Nat} {K : List (Nat × Obj)} {S : List (Value × List TypeP)} (h : LS w W B K S) {v : Value} {s : List TypeP} (hm : (v, s) ∈ S) (hw : schWt s ≤ 10000) (t f : ByteArray) (ht : OkS t) (hf : OkS f) :
    Calls Try.prog 10 #[v, .string t, .string f] W fun e w' => e = .returned (.agg (fieldOfP s t f).cells.toArray) ∧ Hid (Below W.heap.size W w' ∧ LS w w' B K S) :=
  (implFieldOf W 0 _ v s t f ht hf (h.sch v s hm) h.hi (by omega)).mono fun e w' g => ⟨g.1, Lib.hid ⟨g.2, h.below g.2⟩⟩
theorem cFieldS {w W : World} {B : Nat} {K : List (Nat × Obj)} {S : List (Value × List TypeP)} (h : LS w W B K S) {v : Value} {s : List TypeP} (hm : (v, s) ∈ S) (t f : ByteArray) (ht : OkS t) (hf : OkS f) :
    Calls Try.prog 15 #[v, .string t, .string f] W fun e w' => e = .returned (.agg (fieldOfP s t f).cells.toArray) ∧ Hid (Below W.heap.size W w' ∧ LS w w' B K S) :=
  (specFieldOf W 0 _ v s t f ht hf (h.sch v s hm) h.hi).mono fun e w' g => ⟨g.1, Lib.hid ⟨g.2, h.below g.2⟩⟩
theorem cMemI {w W : World} {B : Nat} {K : List (Nat × Obj)} {S : List (Value × List TypeP)} (h : LS w W B K S) {v : Value} {s : List TypeP} (hm : (v, s) ∈ S) (hw : schWt s ≤ 10000) (t : ByteArray) (ht : OkS t) :
    Calls Try.prog 11 #[v, .string t] W fun e w' => (∃ a cap, Hid (TextsX w' W.heap.size w'.heap.size a (membersOfP s t).length (membersOfP s t) ∧ (membersOfP s t).length ≤ cap ∧ Below W.heap.size W w' ∧ LS w w' B K S) ∧ e = .returned (.slice a (membersOfP s t).length cap)) :=
  (implMembersOf W 0 _ v s t ht (h.sch v s hm) h.hi (by omega)).mono fun e w' g => by
    obtain ⟨⟨a, cap, rfl, hc, hx⟩, hb⟩ := g
    exact ⟨a, cap, Lib.hid ⟨hx, hc, hb, h.below hb⟩, rfl⟩
theorem cMemS {w W : World} {B : Nat} {K : List (Nat × Obj)} {S : List (Value × List TypeP)} (h : LS w W B K S) {v : Value} {s : List TypeP} (hm : (v, s) ∈ S) (hw : schWt s ≤ 10000) (t : ByteArray) (ht : OkS t) :
    Calls Try.prog 17 #[v, .string t] W fun e w' => (∃ a cap, Hid (TextsX w' W.heap.size w'.heap.size a (membersOfP s t).length (membersOfP s t) ∧ (membersOfP s t).length ≤ cap ∧ Below W.heap.size W w' ∧ LS w w' B K S) ∧ e = .returned (.slice a (membersOfP s t).length cap)) :=
  (specMembersOf W 0 _ v s t ht (h.sch v s hm) h.hi (by omega)).mono fun e w' g => by
    obtain ⟨⟨a, cap, rfl, hc, hx⟩, hb⟩ := g
    exact ⟨a, cap, Lib.hid ⟨hx, hc, hb, h.below hb⟩, rfl⟩
theorem membersOfP_few {s : List TypeP} (hw : schWt s ≤ 10000) (t : ByteArray) : (membersOfP s t).length ≤ 1048576 := by
  unfold membersOfP
  split
  · split
    · simp
    · exact members_len (by omega) t
  · simp
end Go.Proofs.Ytcogbmcnljlnaaa.Rw
