/-
  What an argument reads as, opened: selections, Frags, a Doc in memory. Conditions: none.
-/
import Derived.Test.YthdncjdopejkkaaDoorRows
import Derived.Test.YthdncjdopejkkaaDoorFragM
import Derived.ChangeArms
import Derived.ChangeShapes
import Derived.WideShapes
import Derived.OpenShut
namespace Go.Proofs.YthdncjdopejkkaaDoor.Selss
open Go.RowKit Go.ChangeShapes Go.WideShapes
set_option linter.unusedVariables false
set_option maxRecDepth 100000

theorem co2 : Tryd.prog.cellsOf 2 = 1 := by kernel_rfl
theorem co9 : Tryd.prog.cellsOf 9 = 1 := by kernel_rfl
theorem co23 : Tryd.prog.cellsOf 22 = 1 := by kernel_rfl
theorem co24 : Tryd.prog.cellsOf 23 = 1 := by kernel_rfl
theorem co68 : Tryd.prog.cellsOf 52 = 5 := by kernel_rfl
theorem co71 : Tryd.prog.cellsOf 55 = 3 := by kernel_rfl
theorem co26 : Tryd.prog.cellsOf 25 = 2 := by kernel_rfl
theorem add_plain (b off i : Nat) : (⟨b, off, none⟩ : Addr).add i = ⟨b, off + i, none⟩ := by unfold Addr.add; split <;> simp_all
theorem lt_of_cell {w : World} {b off : Nat} {v : Value} (h : w.cell? ⟨b, off, none⟩ = some v) : b < w.heap.size := by
  rcases Nat.lt_or_ge b w.heap.size with k | k
  · exact k
  · unfold World.cell? at h; rw [Array.getElem?_eq_none k] at h; simp at h
section
variable {H : Type} {enc : TypeId × Value → H} {w : World} {sp : Nat → Bool} {hd : Bool}

theorem fld {m off : Nat} {T : TypeId} {cs : List Value} {x : Option (DataW H × List MemPlace)} {v : Value} (h : DataW.trod enc Tryd.prog w 0 sp hd m T ((cs.drop off).take (Tryd.prog.cellsOf T)) = x) (h1 : Tryd.prog.cellsOf T = 1) (hv : (cs.drop off).take 1 = [v]) :
    DataW.trod enc Tryd.prog w 0 sp hd m T [v] = x := by rw [h1, hv] at h; exact h
/-- One selection, its five cells. -/
theorem openSel {n : Nat} {cs : List Value} {y : DataW H × List MemPlace} (h : DataW.trod enc Tryd.prog w 0 sp hd n 52 cs = some y) :
    ∃ (m : Nat) (k : Int) (key nm : ByteArray) (f : Int) (c4 : Value) (z : DataW H × List MemPlace), n = m + 1 ∧ cs = [.int .i64 k, .string key, .string nm, .int .i64 f, c4] ∧ (OkI k ∧ OkS key ∧ OkS nm ∧ OkI f) ∧
      DataW.trod enc Tryd.prog w 0 sp hd m 22 [c4] = some z := by
  obtain ⟨xs, m, hn, _, hl, hxl, hf⟩ := DataW.trod_struct Tryd.underlying52 h
  rw [co68] at hl
  match cs, hl with
  | [c0, c1, c2, c3, c4], _ =>
    match xs, hxl with
    | [x0, x1, x2, x3, x4], _ =>
      have h0 := fld (T := 2) (off := 0) (v := c0) (x := some x0) (hf 0 _ rfl) co2 rfl
      have h1 := fld (T := 9) (off := 1) (v := c1) (x := some x1) (hf 1 _ rfl) co9 rfl
      have h2 := fld (T := 9) (off := 2) (v := c2) (x := some x2) (hf 2 _ rfl) co9 rfl
      have h3 := fld (T := 2) (off := 3) (v := c3) (x := some x3) (hf 3 _ rfl) co2 rfl
      have h4 := fld (T := 22) (off := 4) (v := c4) (x := some x4) (hf 4 _ rfl) co23 rfl
      obtain ⟨k, e0, _, w0⟩ := DataW.trod_int Tryd.underlying2 h0
      obtain ⟨key, e1, _, w1⟩ := DataW.trod_string Tryd.underlying9 h1
      obtain ⟨nm, e2, _, w2⟩ := DataW.trod_string Tryd.underlying9 h2
      obtain ⟨f, e3, _, w3⟩ := DataW.trod_int Tryd.underlying2 h3
      cases e0; cases e1; cases e2; cases e3
      unfold maxLen at w1 w2
      exact ⟨m, k, key, nm, f, c4, x4, hn, rfl, ⟨bounds_i64 w0, by unfold OkS; omega, by unfold OkS; omega, bounds_i64 w3⟩, h4⟩

theorem openSels : ∀ (fuel : Nat) (cs : List Value) (x : DataW H × List MemPlace), DataW.trod enc Tryd.prog w 0 sp hd fuel 22 cs = some x → ∃ a len cap s, cs = [.slice a len cap] ∧ SelsAt w 0 w.heap.size a len s := by
  intro fuel
  induction fuel using Nat.strongRecOn with
  | _ fuel ih =>
    intro cs x h
    rcases DataW.trod_slice Tryd.underlying22 h with ⟨rfl, _⟩ | ⟨⟨b, off, spot⟩, len, cap, elems, rest, n, rfl, rfl, _, _, hl, hm, hlen, hel, _⟩
    · exact ⟨none, 0, 0, .nil, rfl, rfl, Nat.zero_le _, .inl rfl⟩
    · rw [co68] at hel
      by_cases h0 : len = 0
      · subst h0
        exact ⟨_, 0, cap, .nil, rfl, rfl, Nat.zero_le _, .inl rfl⟩
      have key : ∀ i, i < len → ∃ cs', w.cells? 0 ((⟨b, off, spot⟩ : Addr).add (i * 5)) 5 = some cs' ∧ ∃ y, DataW.trod enc Tryd.prog w 0 sp hd n 52 cs' = some y := fun i hi => by
        have := hel i hi
        rw [List.getElem?_eq_getElem (by omega)] at this
        obtain ⟨cs', h1, h2⟩ := Option.bind_eq_some_iff.1 this
        exact ⟨cs', h1, _, h2⟩
      have hs : spot = none := by
        obtain ⟨cs', h1, y, h2⟩ := key 0 (by omega)
        obtain ⟨m, k, key, nm, f, c4, z, _, rfl, _⟩ := openSel h2
        obtain ⟨_, _, hat⟩ := World.cells?_some h1
        have := hat 0 (by omega)
        simpa [Addr.add] using World.cell?_spot this
      subst hs
      have row : ∀ j, j ≤ len → ∃ s : Sels, s.len = j ∧ Lie w 0 w.heap.size s b (off + (len - j) * 5) := by
        intro j
        induction j with
        | zero => intro _; exact ⟨.nil, rfl, trivial⟩
        | succ j ihj =>
          intro hj
          obtain ⟨s, hsl, hs⟩ := ihj (by omega)
          obtain ⟨cs', h1, y, h2⟩ := key (len - (j + 1)) (by omega)
          obtain ⟨m, k, key, nm, f, c4, z, hn, rfl, hok, h4⟩ := openSel h2
          obtain ⟨_, _, hat⟩ := World.cells?_some h1
          have a0 := hat 0 (by omega); have a1 := hat 1 (by omega); have a2 := hat 2 (by omega); have a3 := hat 3 (by omega); have a4 := hat 4 (by omega)
          rw [add_plain, add_plain] at a0 a1 a2 a3 a4
          rw [Nat.add_zero] at a0
          obtain ⟨a', len', cap', s', e4, hs'⟩ := ih m (by omega) [c4] z h4
          cases e4
          obtain ⟨e, hle, hs''⟩ := hs'
          subst e
          refine ⟨.cons k key nm f s' s, by simp only [Sels.len]; omega, hok, lt_of_cell a0, a0, a1, a2, a3, ⟨a', cap', a4, hle, ?_⟩, ?_⟩
          · rcases hs'' with h | ⟨c, o, h1, _, h2⟩
            · exact .inl h
            · exact .inr ⟨c, o, h1, Nat.zero_le _, h2⟩
          · have e : off + (len - (j + 1)) * 5 + 5 = off + (len - j) * 5 := by omega
            rw [e]; exact hs
      obtain ⟨s, hsl, hs⟩ := row len (Nat.le_refl _)
      have e : off + (len - len) * 5 = off := by omega
      rw [e] at hs
      unfold maxLen at hm
      exact ⟨_, len, cap, s, rfl, hsl, by omega, .inr ⟨b, off, rfl, Nat.zero_le _, hs⟩⟩

/-- One Frag, its three cells. -/
theorem openFrag {n : Nat} {cs : List Value} {y : DataW H × List MemPlace} (h : DataW.trod enc Tryd.prog w 0 sp hd n 55 cs = some y) :
    ∃ (key nm : ByteArray) (a : Option Addr) (cap : Nat) (s : Sels), cs = [.string key, .string nm, .slice a s.len cap] ∧ (OkS key ∧ OkS nm) ∧ SelsAt w 0 w.heap.size a s.len s := by
  obtain ⟨xs, m, hn, _, hl, hxl, hf⟩ := DataW.trod_struct Tryd.underlying55 h
  rw [co71] at hl
  match cs, hl with
  | [c0, c1, c2], _ =>
    match xs, hxl with
    | [x0, x1, x2], _ =>
      have h0 := fld (T := 9) (off := 0) (v := c0) (x := some x0) (hf 0 _ rfl) co9 rfl
      have h1 := fld (T := 9) (off := 1) (v := c1) (x := some x1) (hf 1 _ rfl) co9 rfl
      have h2 := fld (T := 22) (off := 2) (v := c2) (x := some x2) (hf 2 _ rfl) co23 rfl
      obtain ⟨key, e0, _, w0⟩ := DataW.trod_string Tryd.underlying9 h0
      obtain ⟨nm, e1, _, w1⟩ := DataW.trod_string Tryd.underlying9 h1
      obtain ⟨a, len, cap, s, e2, hs⟩ := openSels m [c2] x2 h2
      cases e0; cases e1; cases e2
      obtain rfl := hs.1
      unfold maxLen at w0 w1
      exact ⟨key, nm, a, cap, s, rfl, ⟨by unfold OkS; omega, by unfold OkS; omega⟩, hs⟩

theorem openFrags {fuel : Nat} {cs : List Value} {x : DataW H × List MemPlace} (h : DataW.trod enc Tryd.prog w 0 sp hd fuel 23 cs = some x) : ∃ a len cap l, cs = [.slice a len cap] ∧ FragsAt w 0 w.heap.size a len l ∧ len ≤ cap := by
  rcases DataW.trod_slice Tryd.underlying23 h with ⟨rfl, _⟩ | ⟨⟨b, off, spot⟩, len, cap, elems, rest, n, rfl, rfl, _, _, hlc, hm, hlen, hel, _⟩
  · exact ⟨none, 0, 0, [], rfl, ⟨rfl, Nat.zero_le _, .inl rfl⟩, Nat.le_refl _⟩
  · rw [co71] at hel
    by_cases h0 : len = 0
    · subst h0
      exact ⟨_, 0, cap, [], rfl, ⟨rfl, Nat.zero_le _, .inl rfl⟩, Nat.zero_le _⟩
    have key : ∀ i, i < len → ∃ cs', w.cells? 0 ((⟨b, off, spot⟩ : Addr).add (i * 3)) 3 = some cs' ∧ ∃ y, DataW.trod enc Tryd.prog w 0 sp hd n 55 cs' = some y := fun i hi => by
      have := hel i hi
      rw [List.getElem?_eq_getElem (by omega)] at this
      obtain ⟨cs', h1, h2⟩ := Option.bind_eq_some_iff.1 this
      exact ⟨cs', h1, _, h2⟩
    have hs : spot = none := by
      obtain ⟨cs', h1, y, h2⟩ := key 0 (by omega)
      obtain ⟨key, nm, a, cap, s, rfl, _⟩ := openFrag h2
      obtain ⟨_, _, hat⟩ := World.cells?_some h1
      have := hat 0 (by omega)
      simpa [Addr.add] using World.cell?_spot this
    subst hs
    have one : ∀ i, i < len → ∃ x : FragP, FragLie w 0 w.heap.size b (off + i * 3) x := fun i hi => by
      obtain ⟨cs', h1, y, h2⟩ := key i hi
      obtain ⟨key, nm, a', cap', s, rfl, hok, hs⟩ := openFrag h2
      obtain ⟨_, _, hat⟩ := World.cells?_some h1
      have a0 := hat 0 (by omega); have a1 := hat 1 (by omega); have a2 := hat 2 (by omega)
      rw [add_plain, add_plain] at a0 a1 a2
      rw [Nat.add_zero] at a0
      exact ⟨⟨key, nm, s⟩, hok.1, hok.2, a0, a1, a', cap', a2, hs⟩
    have row : ∀ j, j ≤ len → ∃ l : List FragP, l.length = j ∧ ∀ i x, l[i]? = some x → FragLie w 0 w.heap.size b (off + i * 3) x := by
      intro j
      induction j with
      | zero => intro _; exact ⟨[], rfl, fun i x h => by simp at h⟩
      | succ j ihj =>
        intro hj
        obtain ⟨l, hll, hl⟩ := ihj (by omega)
        obtain ⟨x, hx⟩ := one j (by omega)
        refine ⟨l ++ [x], by rw [List.length_append, hll]; rfl, fun i y hy => ?_⟩
        by_cases hi : i < j
        · rw [List.getElem?_append_left (by omega)] at hy
          exact hl i y hy
        · rw [List.getElem?_append_right (by omega)] at hy
          have e : i = j := by
            have h2 := (List.getElem?_eq_some_iff.1 hy).1
            simp at h2; omega
          subst e
          rw [hll, Nat.sub_self] at hy
          simp at hy
          subst hy; exact hx
    obtain ⟨l, hll, hl⟩ := row len (Nat.le_refl _)
    unfold maxLen at hm
    obtain ⟨x0, hx0⟩ := one 0 (by omega)
    exact ⟨_, len, cap, l, rfl, ⟨hll, by omega, .inr ⟨b, off, rfl, Nat.zero_le _, lt_of_cell hx0.c0, hl⟩⟩, hlc⟩

/-- A Doc, as an argument. -/
theorem openDoc {v : Value} {d : DataW H} {ps : List MemPlace} {r : Reach} {b0 : Nat} (hv : Value.okWide Tryd.prog w r b0 25 v) (h : DataW.Trod enc Tryd.prog w 0 sp hd 25 v d ps) : ∃ x : DocP, DocAt w 0 w.heap.size v x := by
  obtain ⟨cs, rfl, hsz⟩ := okWide_struct Tryd.underlying25 hv
  obtain ⟨l⟩ := cs
  match l, hsz.trans co26 with
  | [c0, c1], _ =>
    obtain ⟨fuel, hf⟩ := h
    obtain ⟨xs, m, _, _, _, hxl, hg⟩ := DataW.trod_struct Tryd.underlying25 hf
    match xs, hxl with
    | [x0, x1], _ =>
      have h0 := fld (T := 22) (off := 0) (v := c0) (x := some x0) (hg 0 _ rfl) co23 rfl
      have h1 := fld (T := 23) (off := 1) (v := c1) (x := some x1) (hg 1 _ rfl) co24 rfl
      obtain ⟨a, len, cap, s, e0, hs⟩ := openSels m [c0] x0 h0
      obtain ⟨b, len', cap', fs, e1, hfs, hcap⟩ := openFrags (cs := [c1]) (x := x1) h1
      cases e0; cases e1
      obtain rfl := hs.1
      obtain rfl := hfs.1
      exact ⟨⟨s, fs⟩, a, cap, b, cap', rfl, hs, hfs, hcap⟩
end
end Go.Proofs.YthdncjdopejkkaaDoor.Selss
