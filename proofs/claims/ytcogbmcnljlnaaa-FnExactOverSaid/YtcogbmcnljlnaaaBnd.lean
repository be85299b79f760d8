/-
  Bounds, plainly, and as an argument; contracts: laws.toBounds, spec.Over, impl.measuresOf, impl.Over; of what was there nothing is changed. Conditions: numbers of int64.
-/
import Derived.Test.YtcogbmcnljlnaaaRows
import Derived.Test.YtcogbmcnljlnaaaRow
import Derived.ChangeArms
import Derived.ChangeShapes
import Derived.WideShapes
import Derived.OpenShut
namespace Go.Proofs.Ytcogbmcnljlnaaa.Bnd
open Go.RowKit Go.ChangeShapes Go.WideShapes Rw
set_option linter.unusedVariables false
set_option maxRecDepth 100000

structure BP where
  d : Int
  c : Int
  n : Int
  b : Int
def BP.ok (x : BP) : Prop := OkI x.d ∧ OkI x.c ∧ OkI x.n ∧ OkI x.b
def BP.val (x : BP) : Value := .agg #[.int .i64 x.d, .int .i64 x.c, .int .i64 x.n, .int .i64 x.b]
theorem coI : Try.prog.cellsOf 2 = 1 := by kernel_rfl
theorem coB : Try.prog.cellsOf 57 = 4 := by kernel_rfl
section
variable {H : Type} {enc : TypeId × Value → H} {w : World} {sp : Nat → Bool} {hd : Bool}
theorem fldB {m off : Nat} {T : TypeId} {cs : List Value} {x : Option (DataW H × List MemPlace)} {v : Value} (h : DataW.trod enc Try.prog w 0 sp hd m T ((cs.drop off).take (Try.prog.cellsOf T)) = x) (h1 : Try.prog.cellsOf T = 1) (hv : (cs.drop off).take 1 = [v]) :
    DataW.trod enc Try.prog w 0 sp hd m T [v] = x := by rw [h1, hv] at h; exact h
theorem openB {n : Nat} {cs : List Value} {y : DataW H × List MemPlace} (h : DataW.trod enc Try.prog w 0 sp hd n 57 cs = some y) : ∃ x : BP, x.ok ∧ cs = [.int .i64 x.d, .int .i64 x.c, .int .i64 x.n, .int .i64 x.b] := by
  obtain ⟨xs, m, hn, _, hl, hxl, hf⟩ := DataW.trod_struct Try.underlying57 h
  rw [coB] at hl
  match cs, hl with
  | [c0, c1, c2, c3], _ =>
    match xs, hxl with
    | [x0, x1, x2, x3], _ =>
      have h0 := fldB (T := 2) (off := 0) (v := c0) (x := some x0) (hf 0 _ rfl) coI rfl
      have h1 := fldB (T := 2) (off := 1) (v := c1) (x := some x1) (hf 1 _ rfl) coI rfl
      have h2 := fldB (T := 2) (off := 2) (v := c2) (x := some x2) (hf 2 _ rfl) coI rfl
      have h3 := fldB (T := 2) (off := 3) (v := c3) (x := some x3) (hf 3 _ rfl) coI rfl
      obtain ⟨d, e0, _, w0⟩ := DataW.trod_int Try.underlying2 h0
      obtain ⟨c, e1, _, w1⟩ := DataW.trod_int Try.underlying2 h1
      obtain ⟨n, e2, _, w2⟩ := DataW.trod_int Try.underlying2 h2
      obtain ⟨b, e3, _, w3⟩ := DataW.trod_int Try.underlying2 h3
      cases e0; cases e1; cases e2; cases e3
      exact ⟨⟨d, c, n, b⟩, ⟨bounds_i64 w0, bounds_i64 w1, bounds_i64 w2, bounds_i64 w3⟩, rfl⟩
theorem openBounds {v : Value} {d : DataW H} {ps : List MemPlace} {r : Reach} {b0 : Nat} (hv : Value.okWide Try.prog w r b0 57 v) (h : DataW.Trod enc Try.prog w 0 sp hd 57 v d ps) : ∃ x : BP, v = x.val ∧ x.ok := by
  obtain ⟨cs, rfl, hsz⟩ := okWide_struct Try.underlying57 hv
  obtain ⟨l⟩ := cs
  match l, hsz.trans coB with
  | [c0, c1, c2, c3], _ =>
    obtain ⟨fuel, hf⟩ := h
    obtain ⟨x, hx, e⟩ := openB hf
    have e2 : [c0, c1, c2, c3] = [.int .i64 x.d, .int .i64 x.c, .int .i64 x.n, .int .i64 x.b] := e
    cases e2
    exact ⟨x, rfl, hx⟩
end

theorem toBounds (w : World) (x : BP) (hx : x.ok) :
    Calls Try.prog 26 #[x.val] w fun e w' => e = .returned x.val ∧ Below w.heap.size w w' := by
  obtain ⟨d, c, n, b⟩ := x
  obtain ⟨⟨h1, h2⟩, ⟨h3, h4⟩, ⟨h5, h6⟩, h7, h8⟩ := hx
  simp only [BP.val] at *
  have HA : Hid (∀ o1 o2 o3, Below w.heap.size w (((w.alloc o1).alloc o2).alloc o3)) := Lib.hid fun o1 o2 o3 => (((Below.refl _ _).alloc (Nat.le_refl _) o1).alloc (by simp) o2).alloc (by simp; omega) o3
  go_enter Try.func26, Try.ntmps26
  go_wp2_with fail
  exact bodyPost_ret (v := .agg #[.int .i64 d, .int .i64 c, .int .i64 n, .int .i64 b]) (by simp [results, Try.results26, go_sem]) rfl ⟨rfl, HA.out _ _ _⟩

/-- What is over a limit, or not. -/
def ov (n m : Int) : Bool := decide (m < n) || decide (1000000000 ≤ n)
def nameAt : Nat → ByteArray
  | 0 => ⟨#[100, 101, 112, 116, 104]⟩
  | 1 => ⟨#[99, 97, 108, 108, 115]⟩
  | 2 => ⟨#[110, 111, 100, 101, 115]⟩
  | 3 => ⟨#[98, 121, 116, 101, 115]⟩
  | _ => ⟨#[]⟩
/-- The first of the four that is over. -/
def overAt (x y : BP) : Nat := if ov x.d y.d = true then 0 else if ov x.c y.c = true then 1 else if ov x.n y.n = true then 2 else if ov x.b y.b = true then 3 else 4
def overT (x y : BP) : ByteArray := nameAt (overAt x y)
theorem ov_part (n m : Int) : (m < n ∧ ov n m = true) ∨ (n ≤ m ∧ 1000000000 ≤ n ∧ ov n m = true) ∨ (n ≤ m ∧ n < 1000000000 ∧ ov n m = false) := by
  unfold ov
  by_cases h1 : m < n
  · exact .inl ⟨h1, by simp [h1]⟩
  · by_cases h2 : 1000000000 ≤ n
    · exact .inr (.inl ⟨by omega, h2, by simp [h2]⟩)
    · exact .inr (.inr ⟨by omega, by omega, by simp [h1, h2]⟩)
theorem ret_s {a b : ByteArray} (h : a = b) : Ending.returned (.string a) = .returned (.string b) := by rw [h]

set_option maxHeartbeats 4000000 in
theorem specOver (w : World) (x y : BP) (hx : x.ok) (hy : y.ok) :
    Calls Try.prog 25 #[x.val, y.val] w fun e w' => e = .returned (.string (overT x y)) ∧ Below w.heap.size w w' := by
  have HT := Lib.hid (show overT x y = nameAt (if ov x.d y.d = true then 0 else if ov x.c y.c = true then 1 else if ov x.n y.n = true then 2 else if ov x.b y.b = true then 3 else 4) from rfl)
  generalize overT x y = T at *
  obtain ⟨d, c, n, b⟩ := x
  obtain ⟨d', c', n', b'⟩ := y
  obtain ⟨⟨h1, h2⟩, ⟨h3, h4⟩, ⟨h5, h6⟩, h7, h8⟩ := hx
  obtain ⟨⟨k1, k2⟩, ⟨k3, k4⟩, ⟨k5, k6⟩, k7, k8⟩ := hy
  simp only [BP.val] at *
  have HA : Hid (∀ o1 o2, Below w.heap.size w ((w.alloc o1).alloc o2)) := Lib.hid fun o1 o2 => ((Below.refl _ _).alloc (Nat.le_refl _) o1).alloc (by simp) o2
  rcases ov_part d d' with ⟨p1, q1⟩ | ⟨p1, p1', q1⟩ | ⟨p1, p1', q1⟩
  case inl =>
    have HF := Lib.hid (show nameAt 0 = T by rw [HT.out, if_pos q1])
    clear q1
    go_enter Try.func25, Try.ntmps25
    go_wp2_with fail
    go_ret
    exact ⟨ret_s HF.out, HA.out _ _⟩
  case inr.inl =>
    have HF := Lib.hid (show nameAt 0 = T by rw [HT.out, if_pos q1])
    clear q1
    go_enter Try.func25, Try.ntmps25
    go_wp2_with fail
    go_ret
    exact ⟨ret_s HF.out, HA.out _ _⟩
  rw [if_neg (by rw [q1]; decide)] at HT
  clear q1
  rcases ov_part c c' with ⟨p2, q1⟩ | ⟨p2, p2', q1⟩ | ⟨p2, p2', q1⟩
  case inl =>
    have HF := Lib.hid (show nameAt 1 = T by rw [HT.out, if_pos q1])
    clear q1
    go_enter Try.func25, Try.ntmps25
    go_wp2_with fail
    go_ret
    exact ⟨ret_s HF.out, HA.out _ _⟩
  case inr.inl =>
    have HF := Lib.hid (show nameAt 1 = T by rw [HT.out, if_pos q1])
    clear q1
    go_enter Try.func25, Try.ntmps25
    go_wp2_with fail
    go_ret
    exact ⟨ret_s HF.out, HA.out _ _⟩
  rw [if_neg (by rw [q1]; decide)] at HT
  clear q1
  rcases ov_part n n' with ⟨p3, q1⟩ | ⟨p3, p3', q1⟩ | ⟨p3, p3', q1⟩
  case inl =>
    have HF := Lib.hid (show nameAt 2 = T by rw [HT.out, if_pos q1])
    clear q1
    go_enter Try.func25, Try.ntmps25
    go_wp2_with fail
    go_ret
    exact ⟨ret_s HF.out, HA.out _ _⟩
  case inr.inl =>
    have HF := Lib.hid (show nameAt 2 = T by rw [HT.out, if_pos q1])
    clear q1
    go_enter Try.func25, Try.ntmps25
    go_wp2_with fail
    go_ret
    exact ⟨ret_s HF.out, HA.out _ _⟩
  rw [if_neg (by rw [q1]; decide)] at HT
  clear q1
  rcases ov_part b b' with ⟨p4, q1⟩ | ⟨p4, p4', q1⟩ | ⟨p4, p4', q1⟩
  case inl =>
    have HF := Lib.hid (show nameAt 3 = T by rw [HT.out, if_pos q1])
    clear q1
    go_enter Try.func25, Try.ntmps25
    go_wp2_with fail
    go_ret
    exact ⟨ret_s HF.out, HA.out _ _⟩
  case inr.inl =>
    have HF := Lib.hid (show nameAt 3 = T by rw [HT.out, if_pos q1])
    clear q1
    go_enter Try.func25, Try.ntmps25
    go_wp2_with fail
    go_ret
    exact ⟨ret_s HF.out, HA.out _ _⟩
  have HF := Lib.hid (show nameAt 4 = T by rw [HT.out, if_neg (by rw [q1]; decide)])
  clear q1
  go_enter Try.func25, Try.ntmps25
  go_wp2_with fail
  go_ret
  exact ⟨ret_s HF.out, HA.out _ _⟩

theorem measuresOf (w : World) (x : BP) (hx : x.ok) :
    Calls Try.prog 49 #[x.val] w fun e w' => e = .returned x.val ∧ Below w.heap.size w w' := by
  obtain ⟨d, c, n, b⟩ := x
  obtain ⟨⟨h1, h2⟩, ⟨h3, h4⟩, ⟨h5, h6⟩, h7, h8⟩ := hx
  simp only [BP.val] at *
  have HA : Hid (∀ o1 o2, Below w.heap.size w ((w.alloc o1).alloc o2)) := Lib.hid fun o1 o2 => ((Below.refl _ _).alloc (Nat.le_refl _) o1).alloc (by simp) o2
  go_enter Try.func49, Try.ntmps49
  go_wp2_with fail
  exact bodyPost_ret (v := .agg #[.int .i64 d, .int .i64 c, .int .i64 n, .int .i64 b]) (by simp [results, Try.results49, go_sem]) rfl ⟨rfl, HA.out _ _⟩
end Go.Proofs.Ytcogbmcnljlnaaa.Bnd
