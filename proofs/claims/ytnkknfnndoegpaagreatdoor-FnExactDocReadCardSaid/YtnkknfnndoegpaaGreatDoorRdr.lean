/-
  Contracts: the program's reader of words: peek, next, took; of what was there its own place alone is changed. Conditions: as each theorem says.
-/
import Derived.Test.YtnkknfnndoegpaaGreatDoorRows
import Derived.Test.YtnkknfnndoegpaaGreatDoorField
import Derived.Test.YtnkknfnndoegpaaGreatDoorOwnSel
import Derived.Test.YtnkknfnndoegpaaGreatDoorParseC
import Derived.RegionTactic
import Derived.BigRegion
namespace Go.Proofs.YtnkknfnndoegpaaGreatDoor.Selss
open Go.RowKit Words Decs Splits
set_option linter.unusedVariables false
/-- w' is w with new blocks, and writes to block p alone. -/
structure OnlyP (p : Nat) (w w' : World) : Prop where
  os : w'.os = w.os
  tape : w'.tape = w.tape
  output : w'.output = w.output
  size : w.heap.size ≤ w'.heap.size
  block : ∀ k, k < w.heap.size → k ≠ p → w'.heap[k]? = w.heap[k]?
theorem OnlyP.refl (p : Nat) (w : World) : OnlyP p w w := ⟨rfl, rfl, rfl, Nat.le_refl _, fun _ _ _ => rfl⟩
theorem OnlyP.trans {p : Nat} {a b c : World} (h : OnlyP p a b) (g : OnlyP p b c) : OnlyP p a c :=
  ⟨g.os.trans h.os, g.tape.trans h.tape, g.output.trans h.output, Nat.le_trans h.size g.size, fun k hk hp => (g.block k (Nat.lt_of_lt_of_le hk h.size) hp).trans (h.block k hk hp)⟩
theorem OnlyP.below {p B : Nat} {a b c : World} (h : OnlyP p a b) (hB : a.heap.size ≤ B) (g : Below B b c) : OnlyP p a c :=
  ⟨g.os.trans h.os, g.tape.trans h.tape, g.output.trans h.output, Nat.le_trans h.size g.size, fun k hk hp => (g.block k (Nat.lt_of_lt_of_le hk hB)).trans (h.block k hk hp)⟩
theorem OnlyP.toBelow {p B : Nat} {a b : World} (h : OnlyP p a b) (hp : B ≤ p) (hB : B ≤ a.heap.size) : Below B a b :=
  ⟨h.os, h.tape, h.output, h.size, fun k hk => h.block k (by omega) (by omega)⟩
/-- A reader at block p, at word k. -/
structure Rd (T : TypeId) (w : World) (p : Nat) (a : Option Addr) (cap : Nat) (W : List Tok) (k : Nat) : Prop where
  hd : w.heap[p]? = some (.cells #[.slice a W.length cap, .int .i64 k] T (0, 0))
  row : ∀ i x, W[i]? = some x → ∃ b off, a = some ⟨b, off, none⟩ ∧ b < p ∧ w.cell? ⟨b, off + i, none⟩ = some (.string ⟨x.toArray⟩)
  small : W.length ≤ 8001
  sizes : ∀ x ∈ W, x.length ≤ 8000
theorem Rd.lt {T : TypeId} {w : World} {p cap k : Nat} {a : Option Addr} {W : List Tok} (h : Rd T w p a cap W k) : p < w.heap.size := by
  rcases Nat.lt_or_ge p w.heap.size with g | g
  · exact g
  · have := h.hd; rw [Array.getElem?_eq_none g] at this; cases this
theorem Rd.below {T : TypeId} {w w' : World} {p cap k B : Nat} {a : Option Addr} {W : List Tok} (h : Rd T w p a cap W k) (hB : p < B) (g : Below B w w') : Rd T w' p a cap W k :=
  ⟨(g.block p hB).trans h.hd, fun i x hx => by
    obtain ⟨b, off, ha, hb, hc⟩ := h.row i x hx
    exact ⟨b, off, ha, hb, (g.cell (p := ⟨b, off + i, none⟩) (by show b < B; omega)).trans hc⟩, h.small, h.sizes⟩
theorem word_drop (W : List Tok) (k : Nat) : word (W.drop k) = W.getD k [] := by
  unfold word
  rw [List.headD_eq_head?_getD, List.head?_drop]; rfl
theorem rdWord (w : World) (p cap k : Nat) (a : Option Addr) (W : List Tok) (h : Rd 36 w p a cap W k) (hk : k ≤ 1000000) :
    Calls Tryz.prog 11 #[.pointer (some ⟨p, 0, none⟩)] w fun e w' => e = .returned (.string (ub (word (W.drop k)))) ∧ Below w.heap.size w w' := by
  have ret_s : ∀ {a b : ByteArray}, a = b → Ending.returned (.string a) = .returned (.string b) := fun h => by rw [h]
  have c0 : w.cell? ⟨p, 0, none⟩ = some (.slice a W.length cap) := cell_of h.hd rfl
  have c1 : w.cell? ⟨p, 1, none⟩ = some (.int .i64 k) := cell_of h.hd rfl
  have hsm := h.small
  by_cases hlt : k < W.length
  · have hx : W[k]? = some W[k] := List.getElem?_eq_getElem hlt
    obtain ⟨b, off, rfl, hb, hc⟩ := h.row k _ hx
    have hf := Lib.hid (show ub W[k] = ub (word (W.drop k)) by rw [word_drop, List.getD_eq_getElem?_getD, hx]; rfl)
    have hli : (k : Int) < (W.length : Int) := by omega
    generalize W[k] = x at hx hc hf
    generalize W.length = n at *
    clear h hx hlt
    go_enter Tryz.func11, Tryz.ntmps11
    go_wp2_with fail
    go_region
    go_wp2_with fail
    go_region
    go_wp2_with fail
    go_ret
    exact ⟨ret_s hf.out, (Below.refl _ _).drew.drew⟩
  · have hf := Lib.hid (show ByteArray.empty = ub (word (W.drop k)) by rw [List.drop_eq_nil_of_le (by omega)]; rfl)
    have hli : (W.length : Int) ≤ (k : Int) := by omega
    have hlj : ¬ ((k : Int) < (W.length : Int)) := by omega
    generalize W.length = n at *
    clear h hlt
    go_enter Tryz.func11, Tryz.ntmps11
    go_wp2_with fail
    go_region
    go_wp2_with fail
    go_ret
    exact ⟨ret_s hf.out, (Below.refl _ _).drew⟩
theorem rdNext (w : World) (p cap k : Nat) (a : Option Addr) (W : List Tok) (h : Rd 36 w p a cap W k) (hk : k ≤ 1000000) :
    Calls Tryz.prog 12 #[.pointer (some ⟨p, 0, none⟩)] w fun e w' => e = .returned (.string (ub (word (W.drop k)))) ∧ Rd 36 w' p a cap W (k + 1) ∧ OnlyP p w w' := by
  have CW := Lib.hid (rdWord w p cap k a W h hk)
  have HR := Lib.hid h
  have hplt := h.lt
  clear h
  go_enter Tryz.func12, Tryz.ntmps12
  go_wp2_with fail
  refine CW.out.mono ?_
  rintro e w1 ⟨rfl, hb1⟩
  have h1 := HR.out.below hplt hb1
  have c1 : w1.cell? ⟨p, 1, none⟩ = some (.int .i64 k) := cell_of h1.hd rfl
  have f1 := frozen_of_row w1 p 1 _ _ h1.hd
  have hend : Rd 36 (w1.setCell ⟨p, 1, none⟩ (.int .i64 ((k : Int) + 1))) p a cap W (k + 1) := by
    refine ⟨heap_setCell_same w1 p 1 _ _ _ h1.hd, fun i x hx => ?_, h1.small, h1.sizes⟩
    obtain ⟨b, off, ha, hb, hc⟩ := h1.row i x hx
    have hne : b ≠ p := by omega
    exact ⟨b, off, ha, hb, (World.cell?_setCell_other _ _ _ _ (by simp)).trans hc⟩
  have HE := Lib.hid hend
  have HO : Hid (OnlyP p w (w1.setCell ⟨p, 1, none⟩ (.int .i64 ((k : Int) + 1)))) := Lib.hid (((OnlyP.refl p w).below (Nat.le_refl _) hb1).trans ⟨rfl, rfl, rfl, by simp, fun q _ hq => Go.Deep.blk_setCell_other _ _ _ _ hq⟩)
  clear h1 hend hb1
  go_wp2_with fail
  go_ret
  exact ⟨rfl, HE.out, HO.out⟩
/-- Rows ahead of selections. -/
def consRows (L : List RowS) (X : Sels) : Sels := L.foldr (fun r X => .cons r.k r.key r.nm r.f r.u X) X
theorem consRows_nil : ∀ L : List RowS, consRows L .nil = rowsSels L
  | [] => rfl
  | r :: L => by show Sels.cons _ _ _ _ _ (consRows L .nil) = _; rw [consRows_nil L]; rfl
theorem consRows_snoc (L : List RowS) (r : RowS) (X : Sels) : consRows (L ++ [r]) X = consRows L (.cons r.k r.key r.nm r.f r.u X) := by
  unfold consRows; rw [List.foldr_append]; rfl
theorem toList_ub (t : Tok) : (ub t).toList = t := by rw [Lib.toList_data]; simp [ub]
/-- How far a loop has come: what it has read, what is still ahead of it. -/
def Come (sub : List Tok → Sels × List Tok) (W0 : List Tok) (L : List RowS) (V : List Tok) : Prop :=
  (pLoop sub 61 W0).1 = consRows L (pLoop sub (61 - L.length) V).1 ∧ (pLoop sub 61 W0).2 = (pLoop sub (61 - L.length) V).2
theorem come_start (sub : List Tok → Sels × List Tok) (W0 : List Tok) : Come sub W0 [] W0 := ⟨rfl, rfl⟩
/-- One more is read. -/
theorem come_more {sub : List Tok → Sels × List Tok} {W0 V V' : List Tok} {L : List RowS} {r : RowS} {m : Nat} (h : Come sub W0 L V) (hm : 61 - L.length = m + 1)
    (hs : pLoop sub (m + 1) V = (.cons r.k r.key r.nm r.f r.u (pLoop sub m V').1, (pLoop sub m V').2)) : Come sub W0 (L ++ [r]) V' := by
  have e : 61 - (L ++ [r]).length = m := by rw [List.length_append]; simp; omega
  unfold Come at h ⊢
  rw [hm, hs] at h
  rw [e, consRows_snoc]
  exact h
/-- The loop ends. -/
theorem come_end {sub : List Tok → Sels × List Tok} {W0 V : List Tok} {L : List RowS} (h : Come sub W0 L V) (hv : V = [] ∨ L.length = 61 ∨ word V = [125]) (hL : L.length ≤ 61) : (pLoop sub 61 W0).1 = rowsSels L ∧ (pLoop sub 61 W0).2 = V := by
  have e : pLoop sub (61 - L.length) V = (.nil, V) := by
    cases hm : 61 - L.length with
    | zero => cases V <;> rfl
    | succ m =>
      cases V with
      | nil => rfl
      | cons t V1 =>
        have ht : t = [125] := by
          rcases hv with h | h | h
          · cases h
          · omega
          · exact h
        rw [ht]; exact pLoop_stop sub m V1
  unfold Come at h
  rw [e] at h
  exact ⟨h.1.trans (consRows_nil L), h.2⟩
/-- A slice's length, by its value. -/
def lenOf : Value → Nat
  | .slice _ n _ => n
  | _ => 0
theorem OwnSel.len {w : World} {base : Nat} {v : Value} {L : List RowS} (h : OwnSel w base v L) : lenOf v = L.length ∧ ∃ a cap, v = .slice a L.length cap := by
  rcases h.own.2 with ⟨rfl, hn⟩ | ⟨g, cap, cur, rfl, _⟩
  · exact ⟨hn.symm, none, 0, by rw [hn]⟩
  · exact ⟨rfl, _, _, rfl⟩
/-- The word at hand, and those behind it. -/
theorem drop_word {W : List Tok} {k : Nat} (h : k < W.length) : W.drop k = word (W.drop k) :: W.drop (k + 1) := by
  rw [List.drop_eq_getElem_cons h]; rfl
theorem rd_over {T : TypeId} {w : World} {p cap k : Nat} {a : Option Addr} {W : List Tok} (h : Rd T w p a cap W k) {w' : World} (g : OnlyP p w w') (hp : w'.heap[p]? = w.heap[p]?) : Rd T w' p a cap W k :=
  ⟨hp.trans h.hd, fun i x hx => by
    obtain ⟨b, off, ha, hb, hc⟩ := h.row i x hx
    exact ⟨b, off, ha, hb, (World.cell?_of_block (w := w) (g.block b (by have := h.lt; omega) (by omega))).trans hc⟩, h.small, h.sizes⟩
end Go.Proofs.YtnkknfnndoegpaaGreatDoor.Selss
namespace Go.Proofs.YtnkknfnndoegpaaGreatDoor.Selss
open Go.RowKit Words Decs Splits
set_option linter.unusedVariables false
set_option maxRecDepth 100000
/-- The program's reader at block p, at word k. -/
abbrev RdI (w : World) (p : Nat) (a : Option Addr) (cap : Nat) (W : List Tok) (k : Nat) : Prop := Rd 57 w p a cap W k
theorem ret_s {a b : ByteArray} (h : a = b) : Ending.returned (.string a) = .returned (.string b) := by rw [h]
theorem rpPeek (w : World) (p cap k : Nat) (a : Option Addr) (W : List Tok) (h : RdI w p a cap W k) (hk : k ≤ W.length) :
    Calls Tryz.prog 70 #[.pointer (some ⟨p, 0, none⟩)] w fun e w' => e = .returned (.string (ub (word (W.drop k)))) ∧ Below w.heap.size w w' := by
  have c0 : w.cell? ⟨p, 0, none⟩ = some (.slice a W.length cap) := cell_of h.hd rfl
  have c1 : w.cell? ⟨p, 1, none⟩ = some (.int .i64 k) := cell_of h.hd rfl
  have hsm := h.small
  by_cases hlt : k < W.length
  · have hx : W[k]? = some W[k] := List.getElem?_eq_getElem hlt
    obtain ⟨b, off, rfl, hb, hc⟩ := h.row k _ hx
    have hf := Lib.hid (show ub W[k] = ub (word (W.drop k)) by rw [word_drop, List.getD_eq_getElem?_getD, hx]; rfl)
    have hli : (k : Int) < (W.length : Int) := by omega
    have hne : (k : Int) ≠ (W.length : Int) := by omega
    have hneb : ((k : Int) == (W.length : Int)) = false := by rw [beq_eq_false_iff_ne]; omega
    generalize W[k] = x at hx hc hf
    generalize W.length = n at *
    clear h hx hlt
    go_enter Tryz.func70, Tryz.ntmps70
    go_wp2_with fail
    go_region
    go_wp2_with fail
    go_region
    go_wp2_with fail
    go_ret
    exact ⟨ret_s hf.out, (Below.refl _ _).drew.drew⟩
  · have hf := Lib.hid (show ByteArray.empty = ub (word (W.drop k)) by rw [List.drop_eq_nil_of_le (by omega)]; rfl)
    have hli : (k : Int) = (W.length : Int) := by omega
    have hneb : ((k : Int) == (W.length : Int)) = true := by rw [hli]; exact beq_self_eq_true _
    generalize W.length = n at *
    clear h hlt
    go_enter Tryz.func70, Tryz.ntmps70
    go_wp2_with fail
    go_region
    go_wp2_with fail
    go_ret
    exact ⟨ret_s hf.out, (Below.refl _ _).drew⟩
theorem rpNext (w : World) (p cap k : Nat) (a : Option Addr) (W : List Tok) (h : RdI w p a cap W k) (hk : k ≤ W.length) :
    Calls Tryz.prog 60 #[.pointer (some ⟨p, 0, none⟩)] w fun e w' => e = .returned (.string (ub (word (W.drop k)))) ∧ (∃ k', k ≤ k' ∧ k' ≤ W.length ∧ (k < W.length → k' = k + 1) ∧ W.drop k' = (W.drop k).drop 1 ∧ RdI w' p a cap W k') ∧ OnlyP p w w' := by
  have CW := Lib.hid (rpPeek w p cap k a W h hk)
  have HR := Lib.hid h
  have hplt := h.lt
  have hsm := h.small
  clear h
  go_enter Tryz.func60, Tryz.ntmps60
  go_wp2_with fail
  refine CW.out.mono ?_
  rintro e w1 ⟨rfl, hb1⟩
  have h1 := HR.out.below hplt hb1
  have c0 : w1.drew.cell? ⟨p, 0, none⟩ = some (.slice a W.length cap) := cell_of h1.hd rfl
  have c1 : w1.drew.cell? ⟨p, 1, none⟩ = some (.int .i64 k) := cell_of h1.hd rfl
  have d0 : w1.cell? ⟨p, 0, none⟩ = some (.slice a W.length cap) := cell_of h1.hd rfl
  have d1 : w1.cell? ⟨p, 1, none⟩ = some (.int .i64 k) := cell_of h1.hd rfl
  have f1 := frozen_of_row w1 p 1 _ _ h1.hd
  by_cases hlt : k < W.length
  · have hend : RdI (w1.drew.setCell ⟨p, 1, none⟩ (.int .i64 ((k : Int) + 1))) p a cap W (k + 1) := by
      refine ⟨heap_setCell_same w1.drew p 1 _ _ _ h1.hd, fun i x hx => ?_, h1.small, h1.sizes⟩
      obtain ⟨b, off, ha, hb, hc⟩ := h1.row i x hx
      have hne : b ≠ p := by omega
      exact ⟨b, off, ha, hb, (World.cell?_setCell_other _ _ _ _ (by simp)).trans hc⟩
    have HE := Lib.hid hend
    have HO : Hid (OnlyP p w (w1.drew.setCell ⟨p, 1, none⟩ (.int .i64 ((k : Int) + 1)))) := Lib.hid (((OnlyP.refl p w).below (Nat.le_refl _) hb1.drew).trans ⟨rfl, rfl, rfl, by simp, fun q _ hq => Go.Deep.blk_setCell_other _ _ _ _ hq⟩)
    have hdr := Lib.hid (show W.drop (k + 1) = (W.drop k).drop 1 by rw [List.drop_drop])
    have hki := Lib.hid hlt
    have hli : (k : Int) < (W.length : Int) := by omega
    generalize hn : W.length = n at c0 d0 hli hsm
    clear h1 hend hb1 hlt
    go_wp2_with fail
    go_region
    go_wp2_with fail
    go_ret
    exact ⟨rfl, ⟨k + 1, by omega, hki.out, fun _ => rfl, hdr.out, HE.out⟩, HO.out⟩
  · have HE := Lib.hid (show RdI w1.drew p a cap W k from ⟨h1.hd, h1.row, h1.small, h1.sizes⟩)
    have HO := Lib.hid ((OnlyP.refl p w).below (Nat.le_refl _) hb1.drew)
    have hdr := Lib.hid (show W.drop k = (W.drop k).drop 1 by rw [List.drop_drop, List.drop_eq_nil_of_le (by omega), List.drop_eq_nil_of_le (by omega)])
    have hki := Lib.hid hlt
    have hkj := Lib.hid hk
    have hli : ¬ (k : Int) < (W.length : Int) := by omega
    have hle : (W.length : Int) ≤ (k : Int) := by omega
    generalize hn : W.length = n at c0 d0 hli hle hsm
    clear h1 hb1 hlt hk
    go_wp2_with fail
    go_region
    go_wp2_with fail
    go_ret
    exact ⟨rfl, ⟨k, Nat.le_refl _, hkj.out, fun h => absurd h hki.out, hdr.out, HE.out⟩, HO.out⟩
theorem rpTook (w : World) (p cap k : Nat) (a : Option Addr) (W : List Tok) (t : ByteArray) (ht : t ≠ ByteArray.empty) (hts : t.size ≤ 100) (h : RdI w p a cap W k) (hk : k ≤ W.length) :
    Calls Tryz.prog 58 #[.pointer (some ⟨p, 0, none⟩), .string t] w fun e w' => ∃ b : Bool, e = .returned (.bool b) ∧ OnlyP p w w' ∧ (b = true → word (W.drop k) = bl t ∧ ∃ k', k + 1 = k' ∧ k' ≤ W.length ∧ W.drop k' = (W.drop k).drop 1 ∧ RdI w' p a cap W k') ∧ (b = false → word (W.drop k) ≠ bl t ∧ RdI w' p a cap W k) := by
  have CW := Lib.hid (rpPeek w p cap k a W h hk)
  have hplt := h.lt
  by_cases he : ub (word (W.drop k)) = t
  · have hwd := Lib.hid (show word (W.drop k) = bl t by rw [← he, bl_ub])
    have hlt := Lib.hid (show k < W.length by
      rcases Nat.lt_or_ge k W.length with g | g
      · exact g
      · exfalso; rw [List.drop_eq_nil_of_le g] at he; exact ht he.symm)
    have CN : Hid (∀ w', Below w.heap.size w w' → Calls Tryz.prog 60 #[.pointer (some ⟨p, 0, none⟩)] w' fun e w'' => e = .returned (.string (ub (word (W.drop k)))) ∧ (∃ k', k ≤ k' ∧ k' ≤ W.length ∧ (k < W.length → k' = k + 1) ∧ W.drop k' = (W.drop k).drop 1 ∧ RdI w'' p a cap W k') ∧ OnlyP p w' w'') := Lib.hid fun w' hb => rpNext w' p cap k a W (h.below hplt hb) hk
    clear h
    rw [he] at CW CN
    go_enter Tryz.func58, Tryz.ntmps58
    go_wp2_with fail
    refine CW.out.mono ?_
    rintro e w1 ⟨rfl, hb1⟩
    have HB1 := Lib.hid hb1
    clear hb1
    go_wp2_with fail
    refine (CN.out _ HB1.out).mono ?_
    rintro e w2 ⟨rfl, ⟨k', h1, h2, h3, h4, h5⟩, ho⟩
    have HO := Lib.hid (((OnlyP.refl p w).below (Nat.le_refl _) HB1.out).trans ho)
    have HR := Lib.hid h5
    have HK := Lib.hid (And.intro (h3 hlt.out).symm (And.intro h2 h4))
    clear h5 ho h1 h2 h3 h4
    go_wp2_with fail
    go_ret
    exact ⟨true, rfl, HO.out, fun _ => ⟨hwd.out, k', HK.out.1, HK.out.2.1, HK.out.2.2, HR.out⟩, fun h => (by cases h)⟩
  · have hwd := Lib.hid (show word (W.drop k) ≠ bl t from fun e => he (by rw [e, ub_bl]))
    have HR : Hid (∀ w', Below w.heap.size w w' → RdI w' p a cap W k) := Lib.hid fun w' hb => h.below hplt hb
    have hn1 := toList_ne he
    have hn2 := toList_beq he
    generalize ub (word (W.drop k)) = x at *
    clear h
    go_enter Tryz.func58, Tryz.ntmps58
    go_wp2_with fail
    refine CW.out.mono ?_
    rintro e w1 ⟨rfl, hb1⟩
    have HB1 := Lib.hid hb1
    clear hb1
    go_wp2_with fail
    go_ret
    exact ⟨false, rfl, (OnlyP.refl p w).below (Nat.le_refl _) HB1.out, fun h => (by cases h), fun _ => ⟨hwd.out, HR.out _ HB1.out⟩⟩
end Go.Proofs.YtnkknfnndoegpaaGreatDoor.Selss
