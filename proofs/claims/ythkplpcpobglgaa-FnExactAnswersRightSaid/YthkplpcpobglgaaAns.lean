/-
  Answers in memory: rows of four cells each; what they weigh; how an argument opens; laws.szAnswer(S), toAnswer(S), eqAnswer(S). Conditions: in memory; no list of more than 2^20.
-/
import Derived.Test.YthkplpcpobglgaaRows
import Derived.Test.YthkplpcpobglgaaRow
import Derived.Test.YthkplpcpobglgaaOpenR
namespace Go.Proofs.Ythkplpcpobglgaa.Rw
open Go.RowKit Go.ChangeShapes Go.WideShapes
set_option linter.unusedVariables false
set_option maxRecDepth 100000

structure AnswerP where
  path : ByteArray
  kind : Int
  n : Int
  text : ByteArray
def AnswerP.ok (x : AnswerP) : Prop := OkS x.path ∧ OkI x.kind ∧ OkI x.n ∧ OkS x.text
def AnswerP.cells (x : AnswerP) : List Value := [.string x.path, .int .i64 x.kind, .int .i64 x.n, .string x.text]
def AnswerP.wt (x : AnswerP) : Nat := x.path.size + x.text.size
def AnswerLie (w : World) (_A _B b o : Nat) (x : AnswerP) : Prop := x.ok ∧ RowN w b o x.cells
theorem answerLies : Lies 4 AnswerLie := ⟨fun h _ he => ⟨h.1, h.2.same fun j h1 h2 => he j h1 (by simpa [AnswerP.cells] using h2)⟩, fun h _ _ => h⟩
theorem row4 {w : World} {b o : Nat} {v0 v1 v2 v3 : Value} (h : RowN w b o [v0, v1, v2, v3]) :
    w.cell? ⟨b, o, none⟩ = some v0 ∧ w.cell? ⟨b, o + 1, none⟩ = some v1 ∧ w.cell? ⟨b, o + 2, none⟩ = some v2 ∧ w.cell? ⟨b, o + 3, none⟩ = some v3 :=
  ⟨by have := h 0 _ rfl; rwa [Nat.add_zero] at this, h 1 _ rfl, h 2 _ rfl, h 3 _ rfl⟩
abbrev AnswersAt (w : World) (A B : Nat) (a : Option Addr) (len : Nat) (l : List AnswerP) : Prop := RowsAt 4 AnswerLie w A B a len l
abbrev AnswersX (w : World) (A B : Nat) (a : Option Addr) (len : Nat) (l : List AnswerP) : Prop := RowsX 4 AnswerLie w A B a len l
theorem infoAnswer : (Try.prog.info? 44).map (fun i => (i.zero, i.size, i.bytes)) = some (some (.agg #[.string ⟨#[]⟩, .int .i64 0, .int .i64 0, .string ⟨#[]⟩]), 4, 48) := by kernel_rfl
theorem make_answers (n : Nat) (h : n ≤ 1048576) : ∃ Y : Array Value, Y.size = n * 4 ∧ ∀ W : World, (Instr.makeSlice 25 (.int .i64 (n : Int)) (.int .i64 (n : Int))).run Try.prog W = .ok (.slice (some ⟨W.heap.size, 0, none⟩) n n) (W.alloc (.cells Y 44)) := by
  obtain ⟨i, hi, hz⟩ := Option.map_eq_some_iff.1 infoAnswer
  simp only [Prod.mk.injEq] at hz
  obtain ⟨hz, hs, hb⟩ := hz
  refine ⟨madeCells (Value.agg #[.string ⟨#[]⟩, .int .i64 0, .int .i64 0, .string ⟨#[]⟩]).cells (n * 4), size_madeCells _ _, fun W => ?_⟩
  have := run_make (P := Try.prog) (w := W) 25 44 i _ Try.underlying25 hi hz .i64 .i64 (n : Int) (n : Int) (by omega) (Int.le_refl _) (by rw [hb]; omega) (by omega)
  rw [hs, Int.toNat_natCast] at this
  exact this
theorem coAnswer : Try.prog.cellsOf 43 = 4 := by kernel_rfl
section
variable {H : Type} {enc : TypeId × Value → H} {w : World} {sp : Nat → Bool} {hd : Bool}
/-- One answer, its four cells. -/
theorem openAnswer {n : Nat} {cs : List Value} {y : DataW H × List MemPlace} (h : DataW.trod enc Try.prog w 0 sp hd n 43 cs = some y) : ∃ x : AnswerP, x.ok ∧ cs = x.cells := by
  obtain ⟨xs, m, hn, _, hl, hxl, hf⟩ := DataW.trod_struct Try.underlying43 h
  rw [coAnswer] at hl
  match cs, hl with
  | [c0, c1, c2, c3], _ =>
    match xs, hxl with
    | [x0, x1, x2, x3], _ =>
      have h0 := fldS (T := 9) (off := 0) (v := c0) (x := some x0) (hf 0 _ rfl) coStr rfl
      have h1 := fldS (T := 2) (off := 1) (v := c1) (x := some x1) (hf 1 _ rfl) coInt rfl
      have h2 := fldS (T := 2) (off := 2) (v := c2) (x := some x2) (hf 2 _ rfl) coInt rfl
      have h3 := fldS (T := 9) (off := 3) (v := c3) (x := some x3) (hf 3 _ rfl) coStr rfl
      obtain ⟨nm, e0, _, w0⟩ := DataW.trod_string Try.underlying9 h0
      obtain ⟨kd, e1, _, w1⟩ := DataW.trod_int Try.underlying2 h1
      obtain ⟨n, e2, _, w2⟩ := DataW.trod_int Try.underlying2 h2
      obtain ⟨tp, e3, _, w3⟩ := DataW.trod_string Try.underlying9 h3
      cases e0; cases e1; cases e2; cases e3
      unfold maxLen at w0 w3
      exact ⟨⟨nm, kd, n, tp⟩, ⟨by unfold OkS; omega, bounds_i64 w1, bounds_i64 w2, by unfold OkS; omega⟩, rfl⟩
theorem openAnswers {fuel : Nat} {cs : List Value} {x : DataW H × List MemPlace} (h : DataW.trod enc Try.prog w 0 sp hd fuel 22 cs = some x) : ∃ a len cap l, cs = [.slice a len cap] ∧ AnswersAt w 0 w.heap.size a len l ∧ len ≤ cap :=
  openRow Try.underlying22 coAnswer (by omega) (fun m cs y h hl => by
    obtain ⟨x, hx, rfl⟩ := openAnswer h
    exact ⟨x, fun b off hc => ⟨hx, rowN_of hc⟩⟩) h
end
/-- Answers as a value. -/
def AnsAt (w : World) (A B : Nat) (v : Value) (l : List AnswerP) : Prop := ∃ a ca, v = .slice a l.length ca ∧ AnswersAt w A B a l.length l ∧ l.length ≤ ca
section
variable {H : Type} {enc : TypeId × Value → H} {w : World} {sp : Nat → Bool} {hd : Bool}
theorem openAns {v : Value} {d : DataW H} {ps : List MemPlace} {r : Reach} {b0 : Nat} (hv : Value.okWide Try.prog w r b0 22 v) (h : DataW.Trod enc Try.prog w 0 sp hd 22 v d ps) : ∃ l : List AnswerP, AnsAt w 0 w.heap.size v l := by
  obtain ⟨a, len, cap, rfl⟩ := okWide_slice Try.underlying22 hv
  obtain ⟨fuel, hf⟩ := h
  obtain ⟨a', len', ca, l, e, hs, hc⟩ := openAnswers hf
  cases e
  obtain rfl := hs.1
  exact ⟨l, a, cap, rfl, hs, hc⟩
end
theorem szAnswer (w : World) (x : AnswerP) (hx : x.ok) (left : Int) (h0 : 0 ≤ left) (h1 : left ≤ 1048576) :
    Calls Try.prog 15 #[.agg x.cells.toArray, .int .i64 left] w fun e w' => e = .returned (.int .i64 (leftOf left x.wt)) ∧ Below w.heap.size w w' := by
  obtain ⟨nm, kd, n, tp⟩ := x
  obtain ⟨hk, _, _, hn⟩ := hx
  unfold OkS at hk hn
  simp only [AnswerP.cells, AnswerP.wt] at hk hn ⊢
  have HA : Hid (∀ o, Below w.heap.size w (w.alloc o)) := Lib.hid fun o => (Below.refl _ _).alloc (Nat.le_refl _) o
  by_cases c1 : left - (nm.size : Int) < 0
  · have hf := Lib.hid (leftOf_no (left := left) (n := nm.size + tp.size) (by omega))
    go_enter Try.func15, Try.ntmps15
    go_wp2_with fail
    go_ret
    exact ⟨ret_i hf.out, HA.out _⟩
  have c1' : 0 ≤ left - (nm.size : Int) := by omega
  clear c1
  by_cases c2 : left - (nm.size : Int) - (tp.size : Int) < 0
  · have hf := Lib.hid (leftOf_no (left := left) (n := nm.size + tp.size) (by omega))
    go_enter Try.func15, Try.ntmps15
    go_wp2_with fail
    go_ret
    exact ⟨ret_i hf.out, HA.out _⟩
  have c2' : 0 ≤ left - (nm.size : Int) - (tp.size : Int) := by omega
  have hf := Lib.hid (leftOf_yes (left := left) (n := nm.size + tp.size) c2' (by omega))
  clear c2
  go_enter Try.func15, Try.ntmps15
  go_wp2_with fail
  go_ret
  exact ⟨ret_i hf.out, HA.out _⟩

theorem szAnswerS (w : World) (A B : Nat) (a : Option Addr) (len cap : Nat) (l : List AnswerP) (left : Int) (hs : AnswersAt w A B a len l) (hB : B ≤ w.heap.size) (h0 : 0 ≤ left) (h1 : left ≤ 1048576) :
    Calls Try.prog 5 #[.slice a len cap, .int .i64 left] w fun e w' => e = .returned (.int .i64 (leftOf left (len + sumOf AnswerP.wt l))) ∧ Below w.heap.size w w' := by
  have hlen := hs.2.1
  have HS := Lib.hid hs
  have hll := Lib.hid hs.1
  clear hs
  by_cases c1 : left - (len : Int) < 0
  · have hf := Lib.hid (leftOf_no (left := left) (n := len + sumOf AnswerP.wt l) (by omega))
    go_enter Try.func5, Try.ntmps5
    go_wp2_with fail
    go_ret
    exact ⟨ret_i hf.out, Below.refl _ _⟩
  have c1' : 0 ≤ left - (len : Int) := by omega
  clear c1
  go_enter Try.func5, Try.ntmps5
  go_wp2_with fail
  go_loopw [1, 5] (fun v i wr => ∃ (i' : Nat) (m : Int), i' ≤ len ∧ 0 ≤ m ∧ m ≤ 1048576 ∧ Hid (m + ((len + sumOf AnswerP.wt l : Nat) : Int) = left + (sumOf AnswerP.wt (l.drop i') : Int)) ∧ v = .int .i64 m ∧ i = .int .i64 i' ∧ Below w.heap.size w wr) (fun _ i _ => len - (intOf i).toNat)
  case atStart => exact ⟨0, left - len, by omega, by omega, by omega, Lib.hid (by rw [List.drop_zero]; omega), rfl, rfl, Below.refl _ _⟩
  case round =>
    obtain ⟨i, m, hi, hm0, hm1, hm, rfl, rfl, hb⟩ := hrel
    have HB := Lib.hid hb
    by_cases hlt : i < len
    · have hli : (i : Int) < (len : Int) := by omega
      obtain ⟨x, b, off, hd, rfl, hA, hbb, hok, hc⟩ := (HS.out.below answerLies (Nat.le_refl _) (hb.mono hB)).at hlt
      obtain ⟨c0, c1, c2, c3⟩ := row4 hc
      have hwt := Lib.hid (sumOf_drop (f := AnswerP.wt) hd)
      have HC : Hid (∀ w, Calls Try.prog 15 #[.agg #[.string x.path, .int .i64 x.kind, .int .i64 x.n, .string x.text], .int .i64 m] w fun e w' => e = .returned (.int .i64 (leftOf m x.wt)) ∧ Below w.heap.size w w') := Lib.hid fun w => szAnswer w x hok m hm0 hm1
      clear hlt hd hb hc hok
      go_wp2_with fail
      refine (HC.out _).mono ?_
      rintro e w1 ⟨rfl, hb1⟩
      have HB1 := Lib.hid (HB.out.trans (hb1.mono HB.out.size))
      clear hb1
      by_cases c3 : (x.wt : Int) ≤ m
      · have e3 : leftOf m x.wt = m - (x.wt : Int) := if_pos c3
        rw [e3]
        have hlo : 0 ≤ m - (x.wt : Int) := by omega
        have hhi : m - (x.wt : Int) ≤ 1048576 := by omega
        have hrel : Hid (m - (x.wt : Int) + ((len + sumOf AnswerP.wt l : Nat) : Int) = left + (sumOf AnswerP.wt (l.drop (i + 1)) : Int)) := Lib.hid (by
          have e1 := hm.out; have e2 := hwt.out; omega)
        generalize m - (x.wt : Int) = m' at *
        clear hm c3 e3
        go_wp2_with fail
        go_roundw
        case rel => exact ⟨i + 1, m', by omega, hlo, hhi, hrel, rfl, by go_num, HB1.out⟩
        case measure => simp [intOf]; omega
      · have e3 : leftOf m x.wt = -1 := if_neg c3
        rw [e3]
        have hf := Lib.hid (leftOf_no (left := left) (n := len + sumOf AnswerP.wt l) (by have e1 := hm.out; have e2 := hwt.out; omega))
        clear hm c3 e3
        go_wp2_with fail
        go_ret
        exact ⟨ret_i hf.out, HB1.out⟩
    · obtain rfl : i = len := by omega
      have hf := Lib.hid (leftOf_yes (left := left) (n := i + sumOf AnswerP.wt l) hm0 (by have e1 := hm.out; rw [← hll.out, List.drop_length] at e1; simp only [sumOf, hll.out] at e1; omega))
      clear hlt hb hm
      go_wp2_with fail
      go_ret
      exact ⟨ret_i hf.out, HB.out⟩

theorem toAnswer (w : World) (x : AnswerP) (hx : x.ok) :
    Calls Try.prog 18 #[.agg x.cells.toArray] w fun e w' => e = .returned (.agg x.cells.toArray) ∧ Below w.heap.size w w' := by
  obtain ⟨nm, kd, n, tp⟩ := x
  obtain ⟨hk, ⟨hs1, hs2⟩, ⟨hc1, hc2⟩, hn⟩ := hx
  unfold OkS at hk hn
  simp only [AnswerP.cells] at hk hn hs1 hs2 hc1 hc2 ⊢
  have HA : Hid (∀ o1 o2 o3, Below w.heap.size w (((w.alloc o1).alloc o2).alloc o3)) := Lib.hid fun o1 o2 o3 => (((Below.refl _ _).alloc (Nat.le_refl _) o1).alloc (by simp) o2).alloc (by simp; omega) o3
  go_enter Try.func18, Try.ntmps18
  go_wp2_with fail
  exact bodyPost_ret (v := .agg #[.string nm, .int .i64 kd, .int .i64 n, .string tp]) (by simp [results, Try.results18, go_sem]) rfl ⟨rfl, HA.out _ _ _⟩

theorem toAnswerS (w : World) (A B : Nat) (a : Option Addr) (len cap : Nat) (l : List AnswerP) (hs : AnswersAt w A B a len l) (hB : B ≤ w.heap.size) (hlen : len ≤ 1048576) :
    Calls Try.prog 7 #[.slice a len cap] w fun e w' => (∃ a', e = .returned (.slice a' len len) ∧ AnswersX w' w.heap.size w'.heap.size a' len l) ∧ Below w.heap.size w w' := by
  have HS := Lib.hid hs
  obtain ⟨hll, _⟩ := hs
  obtain ⟨Y, hY, hmk⟩ := make_answers len hlen
  subst hll
  go_enter Try.func7, Try.ntmps7
  go_wp2_with fail
  go_loopw [4] (fun i wr => ∃ (i' : Nat) (Y : Array Value), i' ≤ l.length ∧ i = .int .i64 i' ∧ Hid (Y.size = l.length * 4) ∧ wr.heap[w.heap.size]? = some (.cells Y 44 (0, 0)) ∧ Hid (LieRX 4 AnswerLie wr (l.take i') (w.heap.size + 1) wr.heap.size w.heap.size 0) ∧ Below w.heap.size w wr) (fun i _ => l.length - (intOf i).toNat)
  case atStart => exact ⟨0, Y, by omega, rfl, Lib.hid hY, heap_alloc_new w _, Lib.hid (by rw [List.take_zero]; show _ ≤ _; simp), (Below.refl _ _).alloc (Nat.le_refl _) _⟩
  case round =>
    obtain ⟨i, Y, hi, rfl, hY, hh, hl, hb⟩ := hrel
    have hg := lt_of_get hh
    have HB := Lib.hid hb
    by_cases hlt : i < l.length
    · have hli : (i : Int) < (l.length : Int) := by omega
      obtain ⟨x, b, off, hd, rfl, hA, hbb, hok, hc⟩ := (HS.out.below answerLies (Nat.le_refl _) (hb.mono hB)).at hlt
      obtain ⟨c0, c1, c2, c3⟩ := row4 hc
      have HC : Hid (∀ w, Calls Try.prog 18 #[.agg #[.string x.path, .int .i64 x.kind, .int .i64 x.n, .string x.text]] w fun e w' => e = .returned (.agg #[.string x.path, .int .i64 x.kind, .int .i64 x.n, .string x.text]) ∧ Below w.heap.size w w') := Lib.hid fun w => toAnswer w x hok
      have HH := Lib.hid hh
      have HD := Lib.hid hd
      have HOK := Lib.hid hok
      clear hlt hd hb hc hok hh
      go_wp2_with fail
      refine (HC.out _).mono ?_
      rintro e w1 ⟨rfl, hb1⟩
      have hh1 := (hb1.block _ hg).trans HH.out
      have hsz : i * 4 + 3 < Y.size := by rw [hY.out]; omega
      have q0 := row_cell hh1 (k := i * 4) (by omega)
      have q1 := row_cell hh1 (k := i * 4 + 1) (by omega)
      have q2 := row_cell hh1 (k := i * 4 + 2) (by omega)
      have q3 := row_cell hh1 (k := i * 4 + 3) (by omega)
      have p0 := frozen_of_row w1 w.heap.size (i * 4) _ _ hh1
      have p1 := frozen_of_row w1 w.heap.size (i * 4 + 1) _ _ hh1
      have p2 := frozen_of_row w1 w.heap.size (i * 4 + 2) _ _ hh1
      have p3 := frozen_of_row w1 w.heap.size (i * 4 + 3) _ _ hh1
      obtain ⟨hr, hk, Z, hZ, hhZ⟩ := putL_cells (l := x.cells) (o := i * 4) hh1 (by simp [AnswerP.cells]; omega)
      have HZ := Lib.hid (hZ.trans hY.out)
      have HHZ := Lib.hid hhZ
      have HL := Lib.hid (LieRX.step answerLies hl.out HD.out (Nat.lt_succ_self _) hb1 hg (putL_size x.cells w1 w.heap.size (i * 4)) (fun c hc => putL_other x.cells w1 w.heap.size (i * 4) c hc) ⟨_, _, hhZ⟩ hk ⟨HOK.out, hr⟩)
      have HBZ := Lib.hid (putL_below (Nat.le_refl _) x.cells (i * 4) (HB.out.trans (hb1.mono HB.out.size)))
      clear hh1 hb1 hr hk hZ hhZ c0 c1 c2 c3 hl
      generalize Y[i * 4] = y0 at q0
      generalize Y[i * 4 + 1] = y1 at q1
      generalize Y[i * 4 + 2] = y2 at q2
      generalize Y[i * 4 + 3] = y3 at q3
      clear hsz
      go_wp2_with fail
      go_roundw
      case rel => exact ⟨i + 1, Z, by omega, by go_num, HZ, HHZ.out, HL, HBZ.out⟩
      case measure => simp [intOf]; omega
    · obtain rfl : i = l.length := by omega
      have HF := Lib.hid (RowsX.made (n := 4) (LX := AnswerLie) (l := l) (by omega) hg (by have := hl.out; rwa [List.take_length] at this))
      clear hlt hb hh hl
      go_wp2_with fail
      go_ret
      exact ⟨⟨_, rfl, HF.out⟩, HB.out⟩
theorem eqAnswer (w : World) (x : AnswerP) (hx : x.ok) :
    Calls Try.prog 20 #[.agg x.cells.toArray, .agg x.cells.toArray] w fun e w' => e = .returned (.bool true) ∧ Below w.heap.size w w' := by
  obtain ⟨nm, kd, n, tp⟩ := x
  obtain ⟨hk, ⟨hs1, hs2⟩, ⟨hc1, hc2⟩, hn⟩ := hx
  unfold OkS at hk hn
  simp only [AnswerP.cells] at hk hn hs1 hs2 hc1 hc2 ⊢
  have HA : Hid (∀ o1 o2, Below w.heap.size w ((w.alloc o1).alloc o2)) := Lib.hid fun o1 o2 => ((Below.refl _ _).alloc (Nat.le_refl _) o1).alloc (by simp) o2
  go_enter Try.func20, Try.ntmps20
  go_wp2_with fail
  go_ret
  exact ⟨rfl, HA.out _ _⟩

theorem eqAnswerS (w : World) (A B : Nat) (a a' : Option Addr) (len cap cap' : Nat) (l : List AnswerP) (hs : AnswersAt w A B a len l) (hs' : AnswersAt w A B a' len l) (hB : B ≤ w.heap.size) :
    Calls Try.prog 9 #[.slice a len cap, .slice a' len cap'] w fun e w' => e = .returned (.bool true) ∧ Below w.heap.size w w' := by
  have hlen := hs.2.1
  have HS := Lib.hid hs
  have HS' := Lib.hid hs'
  clear hs hs'
  go_enter Try.func9, Try.ntmps9
  go_wp2_with fail
  go_loopw [5] (fun i wr => ∃ i' : Nat, i' ≤ len ∧ i = .int .i64 i' ∧ Below w.heap.size w wr) (fun i _ => len - (intOf i).toNat)
  case atStart => exact ⟨0, by omega, rfl, Below.refl _ _⟩
  case round =>
    obtain ⟨i, hi, rfl, hb⟩ := hrel
    by_cases hlt : i < len
    · have hli : (i : Int) < (len : Int) := by omega
      obtain ⟨x, b, off, hd, rfl, hA, hbb, hok, hc⟩ := (HS.out.below answerLies (Nat.le_refl _) (hb.mono hB)).at hlt
      obtain ⟨x', b', off', hd', rfl, hA', hbb', hok', hc'⟩ := (HS'.out.below answerLies (Nat.le_refl _) (hb.mono hB)).at hlt
      obtain rfl : x' = x := by rw [hd] at hd'; cases hd'; rfl
      obtain ⟨c0, c1, c2, c3⟩ := row4 hc
      obtain ⟨d0, d1, d2, d3⟩ := row4 hc'
      have HB := Lib.hid hb
      have HC : Hid (∀ w, Calls Try.prog 20 #[.agg #[.string x'.path, .int .i64 x'.kind, .int .i64 x'.n, .string x'.text], .agg #[.string x'.path, .int .i64 x'.kind, .int .i64 x'.n, .string x'.text]] w fun e w' => e = .returned (.bool true) ∧ Below w.heap.size w w') := Lib.hid fun w => eqAnswer w x' hok
      clear hlt hd hd' hb hok hok' hc hc'
      go_wp2_with fail
      go_region_with (go_at_call 20; refine (HC.out _).mono ?_; rintro e w1 ⟨rfl, hb1⟩)
      all_goals
        have HB1 := Lib.hid (HB.out.drew.trans (hb1.mono HB.out.drew.size))
        clear hb1
        go_wp2_with fail
        go_roundw
        case rel => exact ⟨i + 1, by omega, by go_num, HB1.out⟩
        case measure => simp [intOf]; omega
    · obtain rfl : i = len := by omega
      have HB := Lib.hid hb
      clear hlt hb
      go_wp2_with fail
      go_ret
      exact ⟨rfl, HB.out⟩

end Go.Proofs.Ythkplpcpobglgaa.Rw
