/-
  Contracts: the draws of the numbers with a top: a number around the top, two, a list of at most five, a text of at most eight bytes; of what was there nothing is changed. Conditions: as each theorem says.
-/
import Derived.Test.YtmmhelkgcmeakaaRows
import Derived.Test.YtmmhelkgcmeakaaDrawC
import Derived.Test.YtmmhelkgcmeakaaInts
namespace Go.Proofs.Ytmmhelkgcmeakaa.Draws
open Go.RowKit Texts Bytes
open Intss (Ints infoI)
set_option linter.unusedVariables false

/-- A []int64 of the call's own. -/
def OwnI (w : World) (base : Nat) (v : Value) (l : List Int) : Prop := w.ownsRow base 2 1 v l.length (l.map (Value.int .i64))
theorem OwnI.alloc {w : World} {base : Nat} {v : Value} {l : List Int} (h : OwnI w base v l) (o : Obj) : OwnI (w.alloc o) base v l := World.ownsRow.alloc h o
theorem OwnI.made (w : World) (base : Nat) (hb : base ≤ w.heap.size) : OwnI (w.alloc (.cells #[] 2)) base (.slice (some ⟨w.heap.size, 0, none⟩) 0 0) [] :=
  World.ownsRow_lit (size := 1) w #[] 0 hb (by simp) rfl
theorem OwnI.only {w w' : World} {base p : Nat} {v : Value} {l : List Int} (h : OwnI w base v l) (g : Only p w w') (hp : p < base) : OwnI w' base v l := by
  obtain ⟨hl, ⟨hv, hn⟩ | ⟨gb, cap, cur, hv, hb, hg, hc, hm, hs, ht⟩⟩ := h
  · exact ⟨hl, .inl ⟨hv, hn⟩⟩
  · have hlt : gb < w.heap.size := by
      rcases Nat.lt_or_ge gb w.heap.size with h | h
      · exact h
      · rw [Array.getElem?_eq_none h] at hg; cases hg
    exact ⟨hl, .inr ⟨gb, cap, cur, hv, hb, (g.block gb hlt (by omega)).trans hg, hc, hm, hs, ht⟩⟩
theorem OwnI.ints {w : World} {base : Nat} {v : Value} {l : List Int} (h : OwnI w base v l) (hf : ∀ x ∈ l, -9223372036854775808 ≤ x ∧ x ≤ 9223372036854775807) :
    ∃ a cap, v = .slice a l.length cap ∧ Ints w w.heap.size a l.length l := by
  obtain ⟨hl, ⟨rfl, hn⟩ | ⟨gb, cap, cur, rfl, hb, hg, hc, hm, hs, ht⟩⟩ := h
  · obtain rfl : l = [] := List.eq_nil_of_length_eq_zero hn
    exact ⟨none, 0, rfl, rfl, hf, fun i hi => absurd hi (by simp)⟩
  · refine ⟨_, _, rfl, rfl, hf, fun i hi => ⟨gb, 0, rfl, ?_, ?_⟩⟩
    · rcases Nat.lt_or_ge gb w.heap.size with h | h
      · exact h
      · rw [Array.getElem?_eq_none h] at hg; cases hg
    · rw [Nat.zero_add]
      rw [Nat.mul_one] at ht
      have hi2 : i < (cur.toList.take l.length).length := by rw [ht]; simpa using hi
      have hi3 : i < cur.size := by rw [List.length_take] at hi2; simp at hi2; omega
      rw [row_cell hg hi3]
      have e : (cur.toList.take l.length)[i]? = some (Value.int .i64 l[i]) := by rw [ht]; simp [hi]
      rw [List.getElem?_take_of_lt hi] at e
      have e2 : cur.toList[i]? = some cur[i] := by simp [hi3]
      rw [e2] at e
      rw [e, List.getD_eq_getElem?_getD, List.getElem?_eq_getElem hi]; rfl
/-- 'append(l, x)' of one number. -/
theorem app_int {w : World} {ops : Array Oper} {rest : List Oper} {o : Oper} {a : Act} {Q : Exit → Act → World → Prop} (hgd : o.guard = none) (s x : Operand)
    (ho : o.op = .call { callee := .builtin .append, args := #[s, x], argTypes := #[25, 25] })
    (base : Nat) (v : Value) (l : List Int) (hs : a.eval s = v) (hown : OwnI w base v l)
    (ad : Addr) (c : Nat) (hx : a.eval x = .slice (some ad) 1 c) (n : Int) (hc : w.cell? ad = some (.int .i64 n))
    (hsize : l.length + 1 ≤ 1048576) (hbase : base ≤ w.heap.size)
    (h : ∀ v' w', OwnI w' base v' (l ++ [n]) → Below base w w' → wpList Try.prog ops Q rest (a.put o.dst v') w') : wpList Try.prog ops Q (o :: rest) a w := by
  obtain ⟨i0, hi, hz0, hz1, hz2⟩ := info_parts infoI
  refine wpList_append_own w hgd s x 25 ho base 2 i0 (.int .i64 0) 1 8 Try.underlying25 hi hz0 hz1 hz2 rfl (by decide) v l.length (l.map (Value.int .i64)) hs hown ad 1 c [.int .i64 n] hx rfl ?_ ?_ (by unfold maxLen; omega) (by omega) hbase ?_
  · intro j u hj
    match j, hj with
    | 0, hj => simp at hj; subst hj; simpa [Addr.add] using hc
  · intro u hu; simp at hu; subst hu; rfl
  · intro v' w' ho' hg' _
    refine h v' w' ?_ ((Below.refl base w).grown hg' hbase (fun k hk => (hown.lt k hk).1))
    unfold OwnI
    rw [List.map_append]
    simpa using ho'

/-- The ten numbers that 'l02Any' chooses from. -/
def around (v : Int) : List Int := [0, 1, 5, 31623, 40000, 999999999, 1000000000, 1000000001, -1, v]
theorem around_in {v : Int} (h0 : -9223372036854775808 ≤ v) (h1 : v ≤ 9223372036854775807) : ∀ x ∈ around v, -9223372036854775808 ≤ x ∧ x ≤ 9223372036854775807 := by
  intro x hx
  simp only [around, List.mem_cons, List.not_mem_nil, or_false] at hx
  omega
theorem src_any2 (w : World) (p len cap : Nat) (a : Option Addr) (h : Src w p a len cap) :
    Calls Try.prog 26 #[.pointer (some ⟨p, 0, none⟩)] w fun e w' => (∃ v : Int, e = .returned (.int .i64 v) ∧ -9223372036854775808 ≤ v ∧ v ≤ 9223372036854775807) ∧ Src w' p a len cap ∧ Only p w w' := by
  have hplt := h.lt
  have HS := Lib.hid h
  clear h
  go_enter Try.func26, Try.ntmps26
  go_wp2_with fail
  refine (src_edge _ p len cap a HS.out).mono ?_
  rintro e w1 ⟨⟨v, rfl, hv0, hv1⟩, hs1, ho1⟩
  have HS1 := Lib.hid hs1
  have HO1 := Lib.hid ho1
  have hz1 : p < w1.heap.size := hs1.lt
  clear hs1 ho1
  go_wp2_with fail
  have hbW : Below w1.heap.size w1 (w1.alloc (.cells ((around v).map (Value.int .i64)).toArray 2)) := (Below.refl _ _).alloc (Nat.le_refl _) _
  refine (src_n _ p len cap a (HS1.out.below hz1 hbW) 10 (by omega)).mono ?_
  rintro e w2 ⟨⟨r, rfl, hr0, hr1⟩, hs2, ho2⟩
  have hblk : w2.heap[w1.heap.size]? = some (.cells ((around v).map (Value.int .i64)).toArray 2 (0, 0)) := (ho2.block w1.heap.size (by simp) (by omega)).trans (heap_alloc_new w1 _)
  obtain ⟨m, rfl⟩ := Int.eq_ofNat_of_zero_le hr0
  have hm : m < (around v).length := by simp [around]; omega
  have hc : w2.cell? ⟨w1.heap.size, m, none⟩ = some (.int .i64 (around v)[m]) := by
    rw [row_cell hblk (k := m) (by simpa using hm)]; simp
  have hx := around_in hv0 hv1 (around v)[m] (List.getElem_mem hm)
  have hm10 : m < 10 := hm
  have HO := Lib.hid (HO1.out.trans (((Only.refl p w1).of_below (Nat.le_refl _) hbW).trans ho2))
  generalize (around v)[m] = u at hc hx
  have HS2 := Lib.hid hs2
  clear hs2 ho2 hblk hbW hm hr1 hv0 hv1
  go_wp2_with fail
  go_ret
  exact ⟨⟨u, rfl, hx⟩, HS2.out, HO.out⟩

theorem drawSatAdd (w : World) (len cap : Nat) (a : Option Addr) (h : BytesAt w w.heap.size a len) (hsm : len ≤ 140737488351232) :
    Calls Try.prog 9 #[.slice a len cap] w fun e w' => (∃ x y : Int, e = .returned (.tuple #[.int .i64 x, .int .i64 y]) ∧ (-9223372036854775808 ≤ x ∧ x ≤ 9223372036854775807) ∧ -9223372036854775808 ≤ y ∧ y ≤ 9223372036854775807) ∧ Below w.heap.size w w' := by
  have HB := Lib.hid h
  clear h
  go_enter Try.func9, Try.ntmps9
  go_wp2_with fail
  refine (source _ len cap a HB.out hsm).mono ?_
  rintro e w1 ⟨rfl, hs1, hb1⟩
  go_wp2_with fail
  refine (src_any2 _ _ len cap a hs1).mono ?_
  rintro e w2 ⟨⟨x, rfl, hx⟩, hs2, ho2⟩
  have hb2 := hb1.trans (ho2.below (Nat.le_refl _) hb1.size)
  go_wp2_with fail
  refine (src_any2 _ _ len cap a hs2).mono ?_
  rintro e w3 ⟨⟨y, rfl, hy⟩, hs3, ho3⟩
  have hb3 := hb2.trans (ho3.below (Nat.le_refl _) hb2.size)
  go_wp2_with fail
  go_ret2
  exact ⟨⟨x, y, rfl, hx, hy⟩, hb3⟩
theorem drawSatMul (w : World) (len cap : Nat) (a : Option Addr) (h : BytesAt w w.heap.size a len) (hsm : len ≤ 140737488351232) :
    Calls Try.prog 10 #[.slice a len cap] w fun e w' => (∃ x y : Int, e = .returned (.tuple #[.int .i64 x, .int .i64 y]) ∧ (-9223372036854775808 ≤ x ∧ x ≤ 9223372036854775807) ∧ -9223372036854775808 ≤ y ∧ y ≤ 9223372036854775807) ∧ Below w.heap.size w w' := by
  have HB := Lib.hid h
  clear h
  go_enter Try.func10, Try.ntmps10
  go_wp2_with fail
  refine (drawSatAdd _ len cap a HB.out hsm).mono ?_
  rintro e w1 ⟨⟨x, y, rfl, hx, hy⟩, hb1⟩
  go_wp2_with fail
  go_ret2
  exact ⟨⟨x, y, rfl, hx, hy⟩, hb1⟩
theorem drawQuotedLen (w : World) (len cap : Nat) (a : Option Addr) (h : BytesAt w w.heap.size a len) (hsm : len ≤ 140737488351232) :
    Calls Try.prog 12 #[.slice a len cap] w fun e w' => (∃ u : ByteArray, e = .returned (.string u) ∧ u.size ≤ 9) ∧ Below w.heap.size w w' := by
  have HB := Lib.hid h
  clear h
  go_enter Try.func12, Try.ntmps12
  go_wp2_with fail
  refine (source _ len cap a HB.out hsm).mono ?_
  rintro e w1 ⟨rfl, hs1, hb1⟩
  go_wp2_with fail
  refine (src_n _ _ len cap a hs1 9 (by omega)).mono ?_
  rintro e w2 ⟨⟨r, rfl, hr0, hr1⟩, hs2, ho2⟩
  have hb2 := hb1.trans (ho2.below (Nat.le_refl _) hb1.size)
  obtain ⟨m, rfl⟩ := Int.eq_ofNat_of_zero_le hr0
  have hm : m ≤ 9 := by omega
  go_wp2_with fail
  refine (src_bytes _ _ len cap a hs2 m (by omega)).mono ?_
  rintro e w3 ⟨⟨l, rfl, hl⟩, hs3, ho3⟩
  have hb3 := hb2.trans (ho3.below (Nat.le_refl _) hb2.size)
  have HL := Lib.hid hl
  clear hl
  go_wp2_with fail
  go_ret
  exact ⟨⟨_, rfl, by have := HL.out; simp [ByteArray.size]; omega⟩, hb3⟩
theorem drawSatSum (w : World) (len cap : Nat) (a : Option Addr) (h : BytesAt w w.heap.size a len) (hsm : len ≤ 140737488351232) :
    Calls Try.prog 11 #[.slice a len cap] w fun e w' => (∃ (b : Option Addr) (n c : Nat) (l : List Int), e = .returned (.slice b n c) ∧ Ints w' w'.heap.size b n l ∧ n ≤ 6) ∧ Below w.heap.size w w' := by
  have HB := Lib.hid h
  clear h
  go_enter Try.func11, Try.ntmps11
  go_wp2_with fail
  refine (source _ len cap a HB.out hsm).mono ?_
  rintro e w1 ⟨rfl, hs1, hb1⟩
  have hplt := hs1.lt
  have HB1 := Lib.hid hb1
  have HS1 := Lib.hid hs1
  clear hs1 hb1
  go_wp2_with fail
  have hbW : Below w1.heap.size w1 (w1.alloc (.cells #[] 2)) := (Below.refl _ _).alloc (Nat.le_refl _) _
  have HW := Lib.hid hbW
  refine (src_n _ _ len cap a (HS1.out.below hplt hbW) 6 (by omega)).mono ?_
  rintro e w2 ⟨⟨r, rfl, hr0, hr1⟩, hs2, ho2⟩
  have hown := (OwnI.made w1 w1.heap.size (Nat.le_refl _)).only ho2 hplt
  have HO2 := Lib.hid ((HB1.out.trans (hbW.mono HB1.out.size)).trans (ho2.below (Nat.le_refl _) ((HB1.out.trans (hbW.mono HB1.out.size)).size)))
  have hz2 : w1.heap.size ≤ w2.heap.size := by have := ho2.size; simp at this; omega
  obtain ⟨m, rfl⟩ := Int.eq_ofNat_of_zero_le hr0
  have hm : m ≤ 6 := by omega
  clear hbW ho2
  go_wp2_with fail
  go_loopw [4, 5] (fun v i wr => ∃ (k : Nat) (l : List Int), Hid (l.length + k = m) ∧ Hid (∀ x ∈ l, -9223372036854775808 ≤ x ∧ x ≤ 9223372036854775807) ∧ i = .int .i64 k ∧ Src wr w.heap.size a len cap ∧ Below w.heap.size w wr ∧ w1.heap.size ≤ wr.heap.size ∧ OwnI wr w1.heap.size v l) (fun _ i _ => (intOf i).toNat)
  case atStart => exact ⟨m, [], Lib.hid (Nat.zero_add _), Lib.hid (fun x hx => by cases hx), rfl, hs2, HO2.out, hz2, hown⟩
  case round =>
    obtain ⟨k, l, hl, hf, rfl, hs, hb, hz, hown⟩ := hrel
    have HB3 := Lib.hid hb
    have HSR := Lib.hid hs
    have hk6 : k ≤ 6 := by have := hl.out; omega
    clear hb hs
    by_cases hlt : 0 < k
    · have hli : (0 : Int) < (k : Int) := by omega
      go_wp2_with fail
      refine (src_any2 _ _ len cap a HSR.out).mono ?_
      rintro e w3 ⟨⟨x, rfl, hx0, hx1⟩, hs3, ho3⟩
      have hown1 := hown.only ho3 hplt
      have HS3 := Lib.hid hs3
      have hz3 : w1.heap.size ≤ w3.heap.size := Nat.le_trans hz ho3.size
      have HB4 := Lib.hid (HB3.out.trans (ho3.below (Nat.le_refl _) HB3.out.size))
      have hlen : l.length ≤ 6 := by have := hl.out; omega
      have HF : Hid (∀ y ∈ l ++ [x], -9223372036854775808 ≤ y ∧ y ≤ 9223372036854775807) := Lib.hid (fun y hy => by
        rcases List.mem_append.1 hy with h | h
        · exact hf.out y h
        · simp at h; subst h; exact ⟨hx0, hx1⟩)
      clear hs3 ho3 hown
      go_wp2_with (at_builtin; refine app_int rfl _ _ rfl w1.heap.size _ l rfl (hown1.alloc _) ⟨w3.heap.size, 0, none⟩ 1 rfl x (one_new _ _ _) (by omega) (by simp; omega) ?_; intro v' w4 hown2 hb4)
      have hb5 : Below w1.heap.size w3 w4 := ((Below.refl _ _).alloc hz3 _).trans hb4
      have R1 := Lib.hid (HS3.out.below hplt hb5)
      have R2 := Lib.hid (HB4.out.trans (hb5.mono (Nat.le_of_lt hplt)))
      have R3 : Hid ((l ++ [x]).length + (k - 1) = m) := Lib.hid (by rw [List.length_append, ← hl.out]; simp; omega)
      have hz4 : w1.heap.size ≤ w4.heap.size := Nat.le_trans hz3 hb5.size
      clear hown1 hb4 hb5
      go_roundw
      case rel => exact ⟨k - 1, _, R3, HF, by go_num, R1.out, R2.out, hz4, hown2⟩
      case measure => simp [intOf]; omega
    · have hk0 : (k : Int) ≤ 0 := by omega
      obtain ⟨b, c, rfl, hi⟩ := hown.ints hf.out
      have hl6 : l.length ≤ 6 := by have := hl.out; omega
      have HI := Lib.hid hi
      clear hi hown hlt
      go_wp2_with fail
      go_ret
      exact ⟨⟨b, _, c, l, rfl, HI.out, hl6⟩, HB3.out⟩
end Go.Proofs.Ytmmhelkgcmeakaa.Draws
