/-
  Contracts: the kinds' whole; of what was there nothing is changed. Conditions: in memory, texts of at most 2^20 bytes.
-/
/-
  Contracts: the one kind's whole; of what was there nothing is changed. Conditions: in memory, texts of at most 2^20 bytes.
-/
/-
  Contracts: the object kind's whole; of what was there nothing is changed. Conditions: in memory, texts of at most 2^20 bytes.
-/
import Derived.Test.YtcogbmcnljlnaaaRows
import Derived.Test.YtcogbmcnljlnaaaKindM
import Derived.Deep.RegionLaw
namespace Go.Proofs.Ytcogbmcnljlnaaa.Rw
open Go.RowKit Words Go.Maps
set_option linter.unusedVariables false
set_option maxRecDepth 100000

/-- A type in new memory, as a value. -/
def TypeNew (w w' : World) (x : TypeP) (e : Ending) : Prop := ∃ a ca c cc, e = .returned (.agg (x.cells a ca c cc).toArray) ∧ TypeX w' w.heap.size w'.heap.size (.agg (x.cells a ca c cc).toArray) x

theorem kept2d {w w1 : World} {o1 o2 : Obj} (hb : Below ((w.alloc o1).alloc o2).drew.heap.size ((w.alloc o1).alloc o2).drew w1) : w1.heap[w.heap.size]? = some o1 ∧ w1.heap[w.heap.size + 1]? = some o2 := by
  have e : ((w.alloc o1).alloc o2).drew.heap = ((w.alloc o1).alloc o2).heap := rfl
  refine ⟨by rw [hb.block _ (by rw [e]; simp; omega), e, Go.Deep.blk_alloc_lt _ _ _ (by simp)]; exact heap_alloc_new w _, ?_⟩
  rw [hb.block _ (by rw [e]; simp), e]
  have := heap_alloc_new (w.alloc o1) o2
  simpa using this

set_option maxHeartbeats 2000000 in
theorem wholeM1 (w : World) (x : TypeP) (a : Option Addr) (ca : Nat) (c : Option Addr) (cc : Nat) (hk : x.ok) (ht : x.name.size ≤ 1048576) (h1 : x.kind = 1) (h2 : x.fields = []) (h3 : x.members = []) :
    Calls Try.prog 102 #[.agg (x.cells a ca c cc).toArray] w fun e w' => TypeNew w w' x e ∧ Below w.heap.size w w' := by
  have HA : Hid (∀ o1 o2, Below w.heap.size w ((w.alloc o1).alloc o2)) := Lib.hid fun o1 o2 => ((Below.refl _ _).alloc (Nat.le_refl _) o1).alloc (by simp) o2
  have C1 : Hid (∀ w, Calls Try.prog 104 #[.string x.name] w fun e w' => e = .returned (.string x.name) ∧ Below w.heap.size w w') := Lib.hid fun w => Clones.clone _ w (by omega)
  obtain ⟨nm, kd, by_, fs, ms⟩ := x
  simp only at h1 h2 h3
  subst h1 h2 h3
  have HK := Lib.hid hk
  simp only [TypeP.cells] at C1 ⊢
  have hdr1 := heap_alloc_new w (.cells #[.string nm, .int .i64 1, .int .i64 by_, .slice a ([] : List FieldP).length ca, .slice c ([] : List ByteArray).length cc] 133)
  simp only [List.length_nil] at hdr1 ⊢
  clear hk
  go_enter Try.func102, Try.ntmps102
  go_wp2_with fail
  go_region_with (first
    | (go_at_call 104; refine (C1.out _).mono ?_; rintro e w1 ⟨rfl, hb1⟩; have hkk := (kept2d hb1); have ⟨⟨y0, y1, y2, y3, y4⟩, _⟩ := keep5 hkk.1; have ⟨⟨z0, z1, z2, z3, z4⟩, f0, f1, f2, f3, f4⟩ := keep5 hkk.2))
  all_goals
    have HB1 := (HA.out _ _).drew.trans (hb1.mono (HA.out _ _).size)
    have HZ := Lib.hid hkk.2
    clear hb1 hkk hdr1
    go_wp2_with fail
    change bodyPost _ _ _ _ _ (putL w1 (w.heap.size + 1) 0 [.string nm, .int .i64 1, .int .i64 by_, .slice none 0 0, .slice none 0 0])
    obtain ⟨hr, _, _⟩ := putL_cells (g := w.heap.size + 1) (o := 0) (l := [.string nm, .int .i64 1, .int .i64 by_, .slice none 0 0, .slice none 0 0]) HZ.out (by simp)
    have HBF := putL_below (g := w.heap.size + 1) (B := w.heap.size) (by omega) [.string nm, .int .i64 1, .int .i64 by_, .slice none 0 0, .slice none 0 0] 0 HB1
    generalize putL w1 (w.heap.size + 1) 0 [.string nm, .int .i64 1, .int .i64 by_, .slice none 0 0, .slice none 0 0] = wz at *
    have ⟨x0, x1, x2, x3, x4⟩ := row5z hr
    exact bodyPost_ret (v := .agg #[.string nm, .int .i64 1, .int .i64 by_, .slice none 0 0, .slice none 0 0]) (by simp [results, Try.results102, go_sem, x0, x1, x2, x3, x4]) rfl ⟨⟨none, 0, none, 0, rfl, none, 0, none, 0, w.heap.size, rfl, HK.out, ⟨RowsX.nil (Nat.le_refl _), Nat.le_refl _⟩, RowsX.nil HBF.size, Nat.le_refl _⟩, HBF⟩
end Go.Proofs.Ytcogbmcnljlnaaa.Rw

namespace Go.Proofs.Ytcogbmcnljlnaaa.Rw
open Go.RowKit Words Go.Maps
set_option linter.unusedVariables false
set_option maxRecDepth 100000

theorem keptB {w w1 w2 : World} {o1 o2 : Obj} (h : w1.heap[w.heap.size]? = some o1 ∧ w1.heap[w.heap.size + 1]? = some o2) (g : Below w1.heap.size w1 w2) : w2.heap[w.heap.size]? = some o1 ∧ w2.heap[w.heap.size + 1]? = some o2 :=
  ⟨(g.block _ (lt_of_get h.1)).trans h.1, (g.block _ (lt_of_get h.2)).trans h.2⟩

set_option maxHeartbeats 4000000 in
theorem wholeM3 (w : World) (A B : Nat) (x : TypeP) (a : Option Addr) (ca : Nat) (c : Option Addr) (cc : Nat) (hx : TypeAt w A B (.agg (x.cells a ca c cc).toArray) x) (hB : B ≤ w.heap.size) (ht : x.name.size ≤ 1048576) (hml : x.members.length ≤ 1048576) (htm : ∀ m ∈ x.members, m.size ≤ 1048576) (h1 : x.kind = 3) (h0 : x.bytes = 0) (h2 : x.fields = []) :
    Calls Try.prog 120 #[.agg (x.cells a ca c cc).toArray] w fun e w' => TypeNew w w' x e ∧ Below w.heap.size w w' := by
  have HA : Hid (∀ o1 o2, Below w.heap.size w ((w.alloc o1).alloc o2)) := Lib.hid fun o1 o2 => ((Below.refl _ _).alloc (Nat.le_refl _) o1).alloc (by simp) o2
  have C1 : Hid (∀ w, Calls Try.prog 104 #[.string x.name] w fun e w' => e = .returned (.string x.name) ∧ Below w.heap.size w w') := Lib.hid fun w => Clones.clone _ w (by omega)
  have CM : Hid (∀ w', Below w.heap.size w w' → Calls Try.prog 118 #[.agg (x.cells a ca c cc).toArray] w' fun e w'' => TextsNew w' w'' x.members e ∧ Below w'.heap.size w' w'') := Lib.hid fun w' g => membersM3 w' A B x a ca c cc (hx.below hB g) (Nat.le_trans hB g.size) hml htm
  obtain ⟨_, _, _, _, _, hk, _⟩ := hx
  have HK := Lib.hid hk
  obtain ⟨nm, kd, by_, fs, ms⟩ := x
  simp only at h1 h2 h0
  subst h1 h2 h0
  simp only [TypeP.cells, List.length_nil] at C1 CM ⊢
  clear hk
  go_enter Try.func120, Try.ntmps120
  go_wp2_with fail
  have HBd := Lib.hid ((HA.out (.cells #[.string nm, .int .i64 3, .int .i64 0, .slice a 0 ca, .slice c ms.length cc] 135) (.cells #[.string ⟨#[]⟩, .int .i64 0, .int .i64 0, .slice none 0 0, .slice none 0 0] 38)).drew)
  go_region_with (first
    | (go_at_call 118; have HB1' := HB1; refine (CM.out _ HB1.out).mono ?_; rintro e w2 ⟨⟨a9, c9, rfl, hc9, hx9⟩, hb2⟩; have hkk2 := keptB hkk.out hb2; have ⟨⟨z0, z1, z2, z3, z4⟩, f0, f1, f2, f3, f4⟩ := keep5 hkk2.2; have HT := Lib.hid (hx9.wide (A' := w.heap.size + 2) (B' := w2.heap.size) (lt_of_get hkk.out.2) (Nat.le_refl _)); have HC9 := Lib.hid hc9; have HB2 := Lib.hid (HB1.out.trans (hb2.mono HB1.out.size)); clear hb2 hx9 hc9)
    | (go_at_call 104; have HB1' := HB1; refine (C1.out _).mono ?_; rintro e w2 ⟨rfl, hb2⟩; have hkk2 := keptB hkk.out hb2; have ⟨⟨z0, z1, z2, z3, z4⟩, f0, f1, f2, f3, f4⟩ := keep5 hkk2.2; have HT := Lib.hid ((HT1.out.below textLies (Nat.le_refl _) hb2).wide (A' := w.heap.size + 2) (B' := w2.heap.size) (Nat.le_refl _) hb2.size); have HB2 := Lib.hid (HB1.out.trans (hb2.mono HB1.out.size)); clear hb2)
    | (go_at_call 104; refine (C1.out _).mono ?_; rintro e w1 ⟨rfl, hb1⟩; have hkk := Lib.hid (kept2d hb1); have ⟨⟨y0, y1, y2, y3, y4⟩, _⟩ := keep5 hkk.out.1; have HB1 := Lib.hid (HBd.out.trans (hb1.mono HBd.out.size)); clear hb1)
    | (go_at_call 118; refine (CM.out _ HBd.out).mono ?_; rintro e w1 ⟨⟨a9, c9, rfl, hc9, hx9⟩, hb1⟩; have hkk := Lib.hid (kept2d hb1); have ⟨⟨y0, y1, y2, y3, y4⟩, _⟩ := keep5 hkk.out.1; have HT1 := Lib.hid (hx9.wide (A' := w.heap.size + 2) (B' := w1.heap.size) (by simp) (Nat.le_refl _)); have HC9 := Lib.hid hc9; have HB1 := Lib.hid (HBd.out.trans (hb1.mono HBd.out.size)); clear hb1 hx9 hc9))
  all_goals
    have HZ := Lib.hid hkk2.2
    clear hkk2
    go_wp2_with fail
    change bodyPost _ _ _ _ _ (putL w2 (w.heap.size + 1) 0 [.string nm, .int .i64 3, .int .i64 0, .slice none 0 0, .slice a9 ms.length c9])
    obtain ⟨hr, _, _⟩ := putL_cells (g := w.heap.size + 1) (o := 0) (l := [.string nm, .int .i64 3, .int .i64 0, .slice none 0 0, .slice a9 ms.length c9]) HZ.out (by simp)
    have HBF := putL_below (g := w.heap.size + 1) (B := w.heap.size) (by omega) [.string nm, .int .i64 3, .int .i64 0, .slice none 0 0, .slice a9 ms.length c9] 0 HB2.out
    have hsz := putL_size [.string nm, .int .i64 3, .int .i64 0, .slice none 0 0, .slice a9 ms.length c9] w2 (w.heap.size + 1) 0
    have HTZ := HT.out.block (w' := putL w2 (w.heap.size + 1) 0 [.string nm, .int .i64 3, .int .i64 0, .slice none 0 0, .slice a9 ms.length c9]) textLies fun q q1 q2 => putL_other _ _ _ _ q (by omega)
    generalize putL w2 (w.heap.size + 1) 0 [.string nm, .int .i64 3, .int .i64 0, .slice none 0 0, .slice a9 ms.length c9] = wz at *
    have ⟨x0, x1, x2, x3, x4⟩ := row5z hr
    rw [← hsz] at HTZ
    exact bodyPost_ret (v := .agg #[.string nm, .int .i64 3, .int .i64 0, .slice none 0 0, .slice a9 ms.length c9]) (by simp [results, Try.results120, go_sem, x0, x1, x2, x3, x4]) rfl ⟨⟨none, 0, a9, c9, rfl, none, 0, a9, c9, w.heap.size + 2, rfl, HK.out, ⟨RowsX.nil (by omega), Nat.le_refl _⟩, HTZ, HC9.out⟩, HBF⟩
end Go.Proofs.Ytcogbmcnljlnaaa.Rw

namespace Go.Proofs.Ytcogbmcnljlnaaa.Rw
open Go.RowKit Words Go.Maps
set_option linter.unusedVariables false
set_option maxRecDepth 100000

set_option maxHeartbeats 4000000 in
theorem wholeM2 (w : World) (A B : Nat) (x : TypeP) (a : Option Addr) (ca : Nat) (c : Option Addr) (cc : Nat) (hx : TypeAt w A B (.agg (x.cells a ca c cc).toArray) x) (hB : B ≤ w.heap.size) (ht : x.name.size ≤ 1048576) (hfl : x.fields.length ≤ 1048575) (htf : ∀ f ∈ x.fields, f.tiny) (h1 : x.kind = 2) (h0 : x.bytes = 0) (h2 : x.members = []) :
    Calls Try.prog 109 #[.agg (x.cells a ca c cc).toArray] w fun e w' => TypeNew w w' x e ∧ Below w.heap.size w w' := by
  have HA : Hid (∀ o1 o2, Below w.heap.size w ((w.alloc o1).alloc o2)) := Lib.hid fun o1 o2 => ((Below.refl _ _).alloc (Nat.le_refl _) o1).alloc (by simp) o2
  have C1 : Hid (∀ w, Calls Try.prog 104 #[.string x.name] w fun e w' => e = .returned (.string x.name) ∧ Below w.heap.size w w') := Lib.hid fun w => Clones.clone _ w (by omega)
  obtain ⟨a', ca', c', cc', hve, hk, ⟨hf, hca⟩, _⟩ := hx
  have HK := Lib.hid hk
  obtain ⟨nm, kd, by_, fs, ms⟩ := x
  simp only at h1 h2 h0
  subst h1 h2 h0
  simp [TypeP.cells] at hve
  obtain ⟨⟨rfl, rfl⟩, rfl, rfl⟩ := hve
  simp only [TypeP.cells, List.length_nil] at C1 hf hca htf hfl ⊢
  have HF := Lib.hid hf
  have HTF := Lib.hid htf
  have HOK : Hid (∀ f ∈ fs, f.ok) := Lib.hid (rows_all hf fun _ _ _ h => h.1)
  clear hk hf htf
  go_enter Try.func109, Try.ntmps109
  go_wp2_with fail
  refine (C1.out _).mono ?_
  rintro e w1 ⟨rfl, hb1⟩
  have hkk := kept2z hb1
  have HB1 := Lib.hid ((HA.out _ _).trans (hb1.mono (HA.out _ _).size))
  have ⟨⟨y0, y1, y2, y3, y4⟩, _⟩ := keep5 hkk.1
  have hl1 := lt_of_get hkk.2
  have hl0 := lt_of_get hkk.1
  have HN := Lib.hid (heap_alloc_new w1 (.cells #[.string nm, .int .i64 2, .int .i64 0, .slice none 0 0, .slice none 0 0] 38))
  have hk0 : (w1.alloc (.cells #[.string nm, .int .i64 2, .int .i64 0, .slice none 0 0, .slice none 0 0] 38)).heap[w.heap.size]? = _ := (Go.Deep.blk_alloc_lt _ _ _ (by omega)).trans hkk.1
  have hz0 : (w1.alloc (.cells #[.string nm, .int .i64 2, .int .i64 0, .slice none 0 0, .slice none 0 0] 38)).heap[w.heap.size + 1]? = _ := (Go.Deep.blk_alloc_lt _ _ _ hl1).trans hkk.2
  have HB2 := Lib.hid (HB1.out.alloc HB1.out.size (.cells #[.string nm, .int .i64 2, .int .i64 0, .slice none 0 0, .slice none 0 0] 38))
  clear hb1 hkk
  go_wp2_with fail
  obtain ⟨g, hg⟩ : ∃ g, w1.heap.size = g := ⟨_, rfl⟩
  rw [hg] at HN hl1 ⊢
  go_loopw [13] (fun i wr => ∃ (i' : Nat) (av : Option Addr) (cap : Nat), i' ≤ fs.length ∧ i = .int .i64 i' ∧ wr.heap[w.heap.size]? = some (.cells #[.string nm, .int .i64 2, .int .i64 0, .slice a fs.length ca, .slice c 0 cc] 134 (0, 0)) ∧ wr.heap[w.heap.size + 1]? = some (.cells #[.string ⟨#[]⟩, .int .i64 0, .int .i64 0, .slice none 0 0, .slice none 0 0] 38 (0, 0)) ∧ wr.heap[g]? = some (.cells #[.string nm, .int .i64 2, .int .i64 0, .slice av i' cap, .slice none 0 0] 38 (0, 0)) ∧ Hid (OwnFs wr (g + 1) (.slice av i' cap) (fs.take i')) ∧ Below w.heap.size w wr) (fun i _ => fs.length - (intOf i).toNat)
  case atStart => exact ⟨0, none, 0, by omega, rfl, hk0, hz0, HN.out, Lib.hid (by rw [List.take_zero]; exact OwnFs.nil _ _), HB2.out⟩
  case round =>
    obtain ⟨i, av, cap, hi, rfl, hk, hz, hg0, HO, hb⟩ := hrel
    have HB := Lib.hid hb
    have hgl := lt_of_get hg0
    by_cases hlt : i < fs.length
    · have hli : (i : Int) < (fs.length : Int) := by omega
      obtain ⟨f, b, off, hd, rfl, hAb, hbb, hok, hc⟩ := (HF.out.below fieldLies (Nat.le_refl _) (hb.mono hB)).at hlt
      obtain ⟨c0, c1, c2, c3, c4, c5⟩ := row6 hc
      have HD := Lib.hid hd
      have CC : Hid (∀ w, Calls Try.prog 112 #[.agg f.cells.toArray] w fun e w' => e = .returned (.agg f.cells.toArray) ∧ Below w.heap.size w w') := Lib.hid fun w => implCopyOf w f hok (HTF.out f (List.mem_iff_getElem?.2 ⟨i, hd⟩))
      have HL : Hid ((fs.take i).length = i) := Lib.hid (by rw [List.length_take]; omega)
      have hfi := Lib.hid (show f.cells = [.string f.name, .string f.typ, .bool f.list, .bool f.must, .int .i64 f.size, .int .i64 f.cap] from rfl)
      simp only [FieldP.cells] at CC
      have HBd := Lib.hid ((HB.out.alloc HB.out.size (.cells #[.string f.name, .string f.typ, .bool f.list, .bool f.must, .int .i64 f.size, .int .i64 f.cap] 31)).drew)
      have HK0 := Lib.hid hk
      have HZ0 := Lib.hid hz
      have HG0 := Lib.hid hg0
      have ⟨⟨t0, t1, t2, t3, t4⟩, p0, p1, p2, p3, p4⟩ := keep5 hg0
      clear hd hb hok hc hlt hk hz hg0 hk0 hz0 y0 y1 y2 y3 y4
      go_wp2_with fail
      have HOd : Hid (OwnFs (wr.alloc (.cells #[.string f.name, .string f.typ, .bool f.list, .bool f.must, .int .i64 f.size, .int .i64 f.cap] 31)).drew (g + 1) (.slice av i cap) (fs.take i)) := Lib.hid (HO.out.below (((Below.refl _ _).alloc (Nat.le_refl _) _).drew))
      have hblk : ∀ q, q < wr.heap.size → (wr.alloc (.cells #[.string f.name, .string f.typ, .bool f.list, .bool f.must, .int .i64 f.size, .int .i64 f.cap] 31)).drew.heap[q]? = wr.heap[q]? := fun q hq => Go.Deep.blk_alloc_lt wr _ _ hq
      have HKd := Lib.hid ((hblk w.heap.size (lt_of_get HK0.out)).trans HK0.out)
      have HZd := Lib.hid ((hblk (w.heap.size + 1) (lt_of_get HZ0.out)).trans HZ0.out)
      have HGd := Lib.hid ((hblk g hgl).trans HG0.out)
      clear hblk
      go_region_law (first
        | (refine step_app_field (by rfl) _ _ (by rfl) (g + 1) (.slice av i cap) (fs.take i) (by rfl) HO3.out w2.heap.size 1 (by rfl) f HC3.out (by rw [HL.out]; omega) hz3 ?_; intro a3 cap3 w3 hown3 hb3; have HG3 := Lib.hid ((hb3.block g (by omega)).trans HGN.out); have ⟨⟨s0, s1, s2, s3, s4⟩, r0, r1, r2, r3, r4⟩ := keep5 HG3.out)
        | (go_simp; go_at_call 112; refine (CC.out _).mono ?_; rintro e w2 ⟨rfl, hb2⟩; have HG2 := Lib.hid ((hb2.block g (lt_of_get HGd.out)).trans HGd.out); have hgl2 := lt_of_get HG2.out; have ⟨⟨n0, n1, n2, n3, n4⟩, _⟩ := keep5 HG2.out; have HO3 : Hid (OwnFs (w2.alloc (.cells #[.string f.name, .string f.typ, .bool f.list, .bool f.must, .int .i64 f.size, .int .i64 f.cap] 31)) (g + 1) (.slice av i cap) (fs.take i)) := Lib.hid ((HOd.out.below hb2).below ((Below.refl _ _).alloc (Nat.le_refl _) _)); have HC3 : Hid ((w2.alloc (.cells #[.string f.name, .string f.typ, .bool f.list, .bool f.must, .int .i64 f.size, .int .i64 f.cap] 31)).heap[w2.heap.size]? = some (.cells f.cells.toArray 31 (0, 0))) := Lib.hid (heap_alloc_new w2 _); have HGN := Lib.hid ((Go.Deep.blk_alloc_lt w2 (.cells #[.string f.name, .string f.typ, .bool f.list, .bool f.must, .int .i64 f.size, .int .i64 f.cap] 31) g hgl2).trans HG2.out); have hz3 : g + 1 ≤ (w2.alloc (.cells #[.string f.name, .string f.typ, .bool f.list, .bool f.must, .int .i64 f.size, .int .i64 f.cap] 31)).heap.size := by simp; omega))
      all_goals
        rw [HL.out] at hown3
        have hoth : ∀ q, q ≠ g → (w3.setCell ⟨g, 3, none⟩ (.slice a3 (i + 1) cap3)).heap[q]? = w3.heap[q]? := fun q hq => Go.Deep.blk_setCell_other _ ⟨g, 3, none⟩ _ q hq
        have HW3 := ((Below.refl w2.heap.size w2).alloc (Nat.le_refl _) (.cells #[.string f.name, .string f.typ, .bool f.list, .bool f.must, .int .i64 f.size, .int .i64 f.cap] 31))
        have hk4 := (hoth w.heap.size (by omega)).trans ((hb3.block w.heap.size (by omega)).trans ((HW3.block w.heap.size (by omega)).trans ((hb2.block w.heap.size (lt_of_get HKd.out)).trans HKd.out)))
        have hz4 := (hoth (w.heap.size + 1) (by omega)).trans ((hb3.block (w.heap.size + 1) (by omega)).trans ((HW3.block (w.heap.size + 1) (by omega)).trans ((hb2.block (w.heap.size + 1) (lt_of_get HZd.out)).trans HZd.out)))
        have hg4 : (w3.setCell ⟨g, 3, none⟩ (.slice a3 (i + 1) cap3)).heap[g]? = some (.cells #[.string nm, .int .i64 2, .int .i64 0, .slice a3 (i + 1) cap3, .slice none 0 0] 38 (0, 0)) := heap_setCell_same w3 g 3 _ _ _ HG3.out
        have HO4 : Hid (OwnFs (w3.setCell ⟨g, 3, none⟩ (.slice a3 (i + 1) cap3)) (g + 1) (.slice a3 (i + 1) cap3) (fs.take (i + 1))) := Lib.hid (by
          rw [List.take_add_one, HD.out]
          exact OwnFs.frame hown3 fun q q1 q2 => hoth q (by omega))
        have HB4 := Lib.hid (((HBd.out.trans (hb2.mono HBd.out.size)).trans ((HW3.mono (HBd.out.trans (hb2.mono HBd.out.size)).size).trans (hb3.mono (by omega)))).setCell (p := ⟨g, 3, none⟩) (by show w.heap.size ≤ g; omega) (.slice a3 (i + 1) cap3))
        clear hb2 hb3 hown3 HW3 hoth
        go_wp2_with fail
        go_roundw
        case rel => exact ⟨i + 1, a3, cap3, by omega, by go_num, hk4, hz4, hg4, HO4, HB4.out⟩
        case measure => simp [intOf]; omega
    · obtain rfl : i = fs.length := by omega
      have hx := HO.out
      rw [List.take_length] at hx
      obtain ⟨a9, c9, he, hc9, hx9⟩ := hx.fieldsX HOK.out (by omega) hgl
      obtain ⟨rfl, rfl⟩ : av = a9 ∧ cap = c9 := by cases he; exact ⟨rfl, rfl⟩
      have HX9 := Lib.hid hx9
      have HC9 := Lib.hid hc9
      have HZ := Lib.hid hz
      have ⟨⟨t0, t1, t2, t3, t4⟩, p0, p1, p2, p3, p4⟩ := keep5 hg0
      have ⟨⟨z0, z1, z2, z3, z4⟩, f0, f1, f2, f3, f4⟩ := keep5 hz
      clear hlt hb hx he hc9 hx9 hk hz hg0 hk0 hz0 y0 y1 y2 y3 y4
      go_wp2_with fail
      change bodyPost _ _ _ _ _ (putL wr (w.heap.size + 1) 0 [.string nm, .int .i64 2, .int .i64 0, .slice av fs.length cap, .slice none 0 0])
      obtain ⟨hr, _, _⟩ := putL_cells (g := w.heap.size + 1) (o := 0) (l := [.string nm, .int .i64 2, .int .i64 0, .slice av fs.length cap, .slice none 0 0]) HZ.out (by simp)
      have HBF := putL_below (g := w.heap.size + 1) (B := w.heap.size) (by omega) [.string nm, .int .i64 2, .int .i64 0, .slice av fs.length cap, .slice none 0 0] 0 HB.out
      have hsz := putL_size [.string nm, .int .i64 2, .int .i64 0, .slice av fs.length cap, .slice none 0 0] wr (w.heap.size + 1) 0
      have HTZ := HX9.out.block (w' := putL wr (w.heap.size + 1) 0 [.string nm, .int .i64 2, .int .i64 0, .slice av fs.length cap, .slice none 0 0]) fieldLies fun q q1 q2 => putL_other _ _ _ _ q (by omega)
      generalize putL wr (w.heap.size + 1) 0 [.string nm, .int .i64 2, .int .i64 0, .slice av fs.length cap, .slice none 0 0] = wz at *
      have ⟨x0, x1, x2, x3, x4⟩ := row5z hr
      rw [← hsz] at HTZ
      exact bodyPost_ret (v := .agg #[.string nm, .int .i64 2, .int .i64 0, .slice av fs.length cap, .slice none 0 0]) (by simp [results, Try.results109, go_sem, x0, x1, x2, x3, x4]) rfl ⟨⟨av, cap, none, 0, rfl, av, cap, none, 0, wz.heap.size, rfl, HK.out, ⟨HTZ.wide (by omega) (Nat.le_refl _), HC9.out⟩, RowsX.nil (Nat.le_refl _), Nat.le_refl _⟩, HBF⟩
end Go.Proofs.Ytcogbmcnljlnaaa.Rw
