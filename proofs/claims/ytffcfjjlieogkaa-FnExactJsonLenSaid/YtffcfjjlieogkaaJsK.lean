/-
  Contracts: impl.writer.whole writes a right node and leaves nothing in the buffer; impl.Json answers its text, impl.JsonLen how long that is, of what is not right nothing; of what was there nothing is changed. Conditions: in memory.
-/
import Derived.Test.YtffcfjjlieogkaaRows
import Derived.Test.YtffcfjjlieogkaaJsJ
import Derived.Test.YtffcfjjlieogkaaNodeI
namespace Go.Proofs.Ytffcfjjlieogkaa.Rw
open Go.RowKit Words Texts Bytes
set_option linter.unusedVariables false
set_option maxRecDepth 100000

def zbuf : List Value := List.replicate 64 (.int .u8 0)
theorem zbuf_len : zbuf.length = 64 := List.length_replicate
theorem infoWr : (Try.prog.info? 52).map (fun i => (i.zero, i.size)) = some (some (.agg (wrL zbuf 0 .nilFunc []).toArray), 66) := by kernel_rfl
theorem infoMe : (Try.prog.info? 59).map (fun i => (i.zero, i.size)) = some (some (.agg (wrL zbuf 0 .nilFunc [.int .i64 0]).toArray), 67) := by kernel_rfl
theorem zero_of {t : TypeId} {Z : Value} {n : Nat} (h : (Try.prog.info? t).map (fun i => (i.zero, i.size)) = some (some Z, n)) (W : World) : Sem.run Try.prog (zeroValue t) W = .ok Z W := by
  obtain ⟨i, hi, hz⟩ := Option.map_eq_some_iff.1 h
  simp only [Prod.mk.injEq] at hz
  simp [zeroValue, typeInfo, hi, hz.1]
theorem heap_size_alloc1 (w : World) (o : Obj) : (w.alloc o).heap.size = w.heap.size + 1 := by simp
theorem one_wr {f : Value} (hf : f.oneCell' = true) : ∀ v ∈ wrL zbuf 0 f [], v.oneCell' = true := by
  intro v hv
  simp only [wrL, zbuf, List.mem_append, List.mem_replicate, List.mem_cons, List.not_mem_nil, or_false] at hv
  rcases hv with ⟨_, rfl⟩ | rfl | rfl
  · rfl
  · rfl
  · exact hf
theorem run_storeWr (W : World) (f : Value) (hf : f.oneCell' = true) (Z : Array Value) (hZ : Z.toList = wrL zbuf 0 .nilFunc []) :
    Sem.run Try.prog (storeCells ⟨W.heap.size, 0, none⟩ (Z.toList.set 65 f)) (W.alloc (.cells Z 52)) = .ok () ((W.alloc (.cells Z 52)).setRow W.heap.size (wrL zbuf 0 f []).toArray) := by
  have e : Z.toList.set 65 f = wrL zbuf 0 f [] := by
    rw [hZ]; unfold wrL; rw [List.set_append_right _ _ (by rw [zbuf_len]; omega), zbuf_len]; rfl
  have hs : Z.size = 66 := by rw [← Array.length_toList, hZ]; rfl
  have := run_storeCells_at Try.prog W.heap.size 0 52 (wrL zbuf 0 f []) 0 Z _ (heap_alloc_new W _) (by rw [hs]; show 0 + 0 + 66 ≤ 66; omega) (one_wr hf)
  rw [e, this]
  congr 2
  have e2 : Z.toList.drop (0 + 0 + (wrL zbuf 0 f []).length) = [] := List.drop_eq_nil_of_le (by rw [Array.length_toList, hs]; show 66 ≤ 0 + 0 + 66; omega)
  rw [e2]; simp
theorem whole {K : Wk} {B b : Nat} (HK : WkOk K B b) {n : Nat} (w : World) (A B0 : Nat) (v : Value) (x : NodeP) (d : Nat) (hs : NodeV n w A B0 v x) (hB : B0 ≤ B) (hBw : B ≤ w.heap.size) (hpt : PartOk d x) (hj : J K w b []) (hlen : (jsB n x).length ≤ 1000000000) :
    Calls Try.prog 21 #[.pointer (some ⟨b, 0, none⟩), v] w fun e w' => e = .returned (.tuple #[]) ∧ StW K w' b (jsB n x) [] 0 ∧ Below B w w' := by
  have hv : ∃ u0 u1 u2 u3, v = .agg #[u0, u1, u2, u3] := by
    cases n with
    | zero => exact hs.elim
    | succ n => obtain ⟨a, ca, c, cc, hv, _⟩ := hs; exact ⟨_, _, _, _, hv⟩
  obtain ⟨u0, u1, u2, u3, rfl⟩ := hv
  have HKH := Lib.hid HK
  have HA : Hid (∀ o, Below B w (w.alloc o)) := Lib.hid fun o => (Below.refl _ _).alloc hBw o
  have hz1 : ∀ o, B ≤ (w.alloc o).heap.size := fun o => Nat.le_trans hBw (by simp)
  have HX := Lib.hid fun o => nodes HK n (w.alloc o) A B0 _ x d [] (hs.below hB (HA.out o)) hB (hz1 o) hpt (J_alloc HK hj o) (by simp only [List.length_nil]; omega)
  clear HK hs hj hpt
  go_enter Try.func21, Try.ntmps21
  go_wp2_with fail
  refine (HX.out _).mono ?_
  rintro e w1 ⟨rfl, hj1, hb1, -⟩
  obtain ⟨poured, part, fl, hst, hfl, he⟩ := hj1
  rw [List.nil_append] at he
  have hpl : poured.length + fl ≤ 1000000000000 := by
    obtain ⟨buf, _, _, h3, _⟩ := hst
    rw [he, List.length_append] at hlen; omega
  have HE := Lib.hid (HKH.out.empty w1 poured part fl hst (Nat.le_trans hBw ((HA.out _).trans hb1).size) hpl)
  have HB1 := Lib.hid ((HA.out _).trans hb1)
  have HEQ := Lib.hid he
  clear hst hb1 he
  go_wp2_with fail
  refine HE.out.mono ?_
  rintro e w2 ⟨rfl, hs2, hb2, -⟩
  have HS2 : Hid (StW K w2 b (jsB n x) [] 0) := Lib.hid (by rw [HEQ.out]; exact hs2)
  have HB2 := Lib.hid (HB1.out.trans hb2)
  clear hs2 hb2
  go_wp2_with fail
  go_end0
  exact ⟨rfl, HS2.out, HB2.out⟩
theorem J_new {K : Wk} {w : World} {b : Nat} (h : w.heap[b]? = some (.cells (wrL zbuf 0 K.pv (K.ext [])).toArray K.T (0, 0))) (hS : K.S w []) : J K w b [] :=
  ⟨[], [], 0, ⟨zbuf, h, zbuf_len, rfl, rfl, by omega, hS⟩, by omega, rfl⟩
theorem jsonWorld (w1 : World) (Z : Array Value) (hZ : Z.toList = wrL zbuf 0 .nilFunc []) : ∃ w3 : World,
    Sem.run Try.prog (storeCells ⟨w1.heap.size + 1, 0, none⟩ (Z.toList.set 65 (.func (.func 19) #[] #[.pointer (some ⟨w1.heap.size, 0, none⟩)]))) ((w1.alloc (.cells #[.pointer none, .slice none 0 0] 44)).alloc (.cells Z 52)) = .ok () w3 ∧
    Hid (w3.heap[w1.heap.size + 1]? = some (.cells (wrL zbuf 0 (wkJ w1.heap.size w1.heap.size).pv []).toArray 52 (0, 0))) ∧ Hid (Bld w3 w1.heap.size w1.heap.size []) ∧ Hid (Below w1.heap.size w1 w3) := by
  have hst := run_storeWr (w1.alloc (.cells #[.pointer none, .slice none 0 0] 44)) (.func (.func 19) #[] #[.pointer (some ⟨w1.heap.size, 0, none⟩)]) rfl Z hZ
  simp only [heap_size_alloc1] at hst
  have ha := heap_alloc_new (w1.alloc (.cells #[.pointer none, .slice none 0 0] 44)) (.cells Z 52)
  rw [heap_size_alloc1] at ha
  refine ⟨_, hst, Lib.hid (setRow_heap _ _ _ _ _ (0, 0) ha), Lib.hid ?_, Lib.hid ?_⟩
  · refine .inl ⟨Nat.le_refl _, .slice none 0 0, ?_, World.ownsRow_nil _ _ _ _, by simp [Value.ownBlock]⟩
    rw [setRow_other _ _ _ _ (by omega), Below.heap_alloc _ _ _ (by simp)]
    exact heap_alloc_new w1 _
  · refine (((Below.refl _ w1).alloc (Nat.le_refl _) _).alloc (by simp) _).trans ⟨rfl, rfl, rfl, by simp, fun k hk => setRow_other _ _ _ _ (by omega)⟩
set_option maxHeartbeats 1000000 in
theorem implJson {n : Nat} (w : World) (A B : Nat) (v : Value) (x : NodeP) (hs : NodeV n w A B v x) (hB : B ≤ w.heap.size) :
    Calls Try.prog 8 #[v] w fun e w' => e = .returned (.string (jsT n x)) ∧ Below w.heap.size w w' := by
  have hv : ∃ u0 u1 u2 u3, v = .agg #[u0, u1, u2, u3] := by
    cases n with
    | zero => exact hs.elim
    | succ n => obtain ⟨a, ca, c, cc, hv, _⟩ := hs; exact ⟨_, _, _, _, hv⟩
  obtain ⟨u0, u1, u2, u3, rfl⟩ := hv
  have HS := Lib.hid hs
  clear hs
  have HA : Hid (∀ o, Below w.heap.size w (w.alloc o)) := Lib.hid fun o => (Below.refl _ _).alloc (Nat.le_refl _) o
  by_cases hr : RightN n x
  · have hf := Lib.hid (jsT_yes hr)
    have C1 : Hid (∀ w', Below w.heap.size w w' → Calls Try.prog 18 #[.agg #[u0, u1, u2, u3]] w' fun e w2 => e = .returned (.bool true) ∧ Below w'.heap.size w' w2) := Lib.hid fun w' hb => by
      have := implNodeRight w' A B _ x (HS.out.below hB hb) (Nat.le_trans hB hb.size)
      rwa [decB_yes hr] at this
    have HR := Lib.hid hr
    obtain ⟨Z, hZ⟩ : ∃ Z : Array Value, Z = (wrL zbuf 0 .nilFunc []).toArray := ⟨_, rfl⟩
    have hz : ∀ W, Sem.run Try.prog (zeroValue 52) W = .ok (.agg Z) W := fun W => by rw [hZ]; exact zero_of infoWr W
    have hZs : Z.size = 66 := by rw [hZ]; rfl
    have HZ : Hid (Z.toList = wrL zbuf 0 .nilFunc []) := Lib.hid (by rw [hZ])
    clear hr hZ
    go_enter Try.func8, Try.ntmps8
    go_wp2_with (go_at_call 18; refine (C1.out _ (HA.out _)).mono ?_; rintro e w1 ⟨rfl, hb1⟩; have HB1 := Lib.hid ((HA.out _).trans (hb1.mono (HA.out _).size)); have K1 := (hb1.block w.heap.size (by simp)).trans (Go.Deep.blk_alloc_new _ _); have ⟨⟨k0, k1, k2, k3⟩, _⟩ := keep4 K1; obtain ⟨w3, hst, HH3, HT3, HB3⟩ := jsonWorld w1 Z HZ.out; have K3 := (HB3.out.block w.heap.size (lt_of_get K1)).trans K1; have ⟨⟨m0, m1, m2, m3⟩, _⟩ := keep4 K3)
    have HBW := Lib.hid (HB1.out.trans (HB3.out.mono HB1.out.size))
    have hne : w1.heap.size + 1 ≠ w1.heap.size := by omega
    have HKO := Lib.hid (okJ w1.heap.size w1.heap.size (w1.heap.size + 1) (by omega) hne)
    refine (whole HKO.out w3 A B _ x 100 (HS.out.below hB HBW.out) (Nat.le_trans hB HB1.out.size) HB3.out.size HR.out.2 (J_new HH3.out HT3.out) (Nat.le_trans (js_right HR.out) (by omega))).mono ?_
    rintro e w4 ⟨rfl, hs4, hb4⟩
    have hS4 : Bld w4 w1.heap.size w1.heap.size (jsB n x) := by
      obtain ⟨_, _, _, _, _, _, h⟩ := hs4; exact h
    have HS4 := Lib.hid hS4
    have HB4 := Lib.hid (HB3.out.trans hb4)
    clear hs4 hb4 hS4 hst
    go_wp2_with fail
    refine (Try.Builder_String_any w1.heap.size w1.heap.size (jsB n x) w4 HS4.out HB4.out.size).mono ?_
    rintro e w5 ⟨rfl, hb5⟩
    have HB5 := Lib.hid (HB1.out.trans ((HB4.out.trans hb5).mono HB1.out.size))
    clear hb5
    go_wp2_with fail
    go_ret
    exact ⟨congrArg (fun s => Ending.returned (Value.string s)) hf.out.symm, HB5.out⟩
  · have hf := Lib.hid (jsT_no hr)
    have C1 : Hid (∀ w', Below w.heap.size w w' → Calls Try.prog 18 #[.agg #[u0, u1, u2, u3]] w' fun e w2 => e = .returned (.bool false) ∧ Below w'.heap.size w' w2) := Lib.hid fun w' hb => by
      have := implNodeRight w' A B _ x (HS.out.below hB hb) (Nat.le_trans hB hb.size)
      rwa [decB_no hr] at this
    clear hr
    go_enter Try.func8, Try.ntmps8
    go_wp2_with (go_at_call 18; refine (C1.out _ (HA.out _)).mono ?_; rintro e w1 ⟨rfl, hb1⟩; have HB1 := Lib.hid ((HA.out _).trans (hb1.mono (HA.out _).size)))
    go_ret
    exact ⟨congrArg (fun s => Ending.returned (Value.string s)) hf.out.symm, HB1.out⟩
end Go.Proofs.Ytffcfjjlieogkaa.Rw
