/-
  Contract: spec.JsonRead answers the one right node of which a text is told, plainly, in memory of the call's own; of what was there nothing is changed. Conditions: in memory.
-/
import Derived.Test.YtlncdkeooacebaaDoorRows
import Derived.Test.YtlncdkeooacebaaDoorJsN
import Derived.Test.YtlncdkeooacebaaDoorJsS
namespace Go.Proofs.YtlncdkeooacebaaDoor.Rw
open Go.RowKit Words
set_option linter.unusedVariables false
set_option linter.unusedSimpArgs false
set_option maxRecDepth 100000

theorem NdF.fits : ∀ {n : Nat} {w : World} {F : List Nat} {b o : Nat} {x : NodeP}, NdF n w F b o x → Fits n x
  | 0, _, _, _, _, _, h => h.elim
  | n + 1, w, F, b, o, x, ⟨a, ca, c, cc, h1, _, _, _, _, _, F1, F2, _, _, h7⟩ => fun k hk => by
    rcases h7 with ⟨h7, _⟩ | ⟨b2, off, G, _, _, _, hl⟩
    · rw [h7] at hk; cases hk
    · obtain ⟨i, hi, rfl⟩ := List.getElem_of_mem hk
      obtain ⟨G1, _, g2⟩ := hl.get i _ (List.getElem?_eq_getElem hi)
      exact g2.fits
theorem OkD.fits {n : Nat} {w : World} {r : RowD} (h : OkD n w r) : Fits (n + 1) r.x := fun k hk => by
  obtain ⟨⟨_, _, _, _, _, F1, F2, _, _, h7⟩, _⟩ := h
  rcases h7 with ⟨h7, _⟩ | ⟨b2, off, G, _, _, _, hl⟩
  · rw [h7] at hk; cases hk
  · obtain ⟨i, hi, rfl⟩ := List.getElem_of_mem hk
    obtain ⟨G1, _, g2⟩ := hl.get i _ (List.getElem?_eq_getElem hi)
    exact g2.fits
theorem OkD.val {n : Nat} {w : World} {r : RowD} (h : OkD n w r) : NodeV (n + 1) w r.lo r.hi (.agg #[.int .i64 r.x.kind, .string r.x.text, .slice r.a r.x.keys.length r.ca, .slice r.c r.x.kids.length r.cc]) r.x := h.1.val h.2.2.2
/-- What is told of a text. -/
def OutJ (t : ByteArray) (x : NodeP) (c : Int) : Prop :=
  (8000 < t.size ∧ x = node0 ∧ c = 2) ∨ (t.size ≤ 8000 ∧ ToldN (bl t) x ∧ c = 0) ∨ (t.size ≤ 8000 ∧ (∀ y, ¬ ToldN (bl t) y) ∧ x = node0 ∧ c = 3)
theorem told_one {s : Bs} {x y : NodeP} (h : ToldN s x) (g : ToldN s y) : x = y := by
  have e1 := (told_impl (Nat.le_refl 2000)).1 h
  have e2 := (told_impl (Nat.le_refl 2000)).1 g
  have := e1.1.symm.trans e2.1
  simpa using this
theorem outJ_one {t : ByteArray} {x y : NodeP} {c d : Int} (h : OutJ t x c) (g : OutJ t y d) : x = y ∧ c = d := by
  rcases h with ⟨h1, h2, h3⟩ | ⟨h1, h2, h3⟩ | ⟨h1, h2, h3, h4⟩ <;> rcases g with ⟨g1, g2, g3⟩ | ⟨g1, g2, g3⟩ | ⟨g1, g2, g3, g4⟩
  · exact ⟨h2.trans g2.symm, h3.trans g3.symm⟩
  · omega
  · omega
  · omega
  · exact ⟨told_one h2 g2, h3.trans g3.symm⟩
  · exact absurd h2 (g2 x)
  · omega
  · exact absurd g2 (h2 y)
  · exact ⟨h3.trans g3.symm, h4.trans g4.symm⟩
/-- A node out, as a value: the node lies in blocks from A on, below B. -/
def OutV (m : Nat) (w : World) (A B : Nat) (v : Value) (x : NodeP) (c : Int) : Prop := ∃ a ca e ce, v = .agg #[.int .i64 x.kind, .string x.text, .slice a x.keys.length ca, .slice e x.kids.length ce, .int .i64 c] ∧ NodeV m w A B (.agg #[.int .i64 x.kind, .string x.text, .slice a x.keys.length ca, .slice e x.kids.length ce]) x
theorem out0 (m : Nat) (w : World) (A : Nat) (c : Int) : OutV (m + 1) w A A (.agg #[.int .i64 0, .string ⟨#[]⟩, .slice none 0 0, .slice none 0 0, .int .i64 c]) node0 c :=
  ⟨none, 0, none, 0, rfl, none, 0, none, 0, rfl, ⟨by unfold OkI node0; simp only; omega, by unfold OkS node0; exact Nat.zero_le _⟩, ⟨⟨rfl, Nat.zero_le _, .inl rfl⟩, Nat.le_refl _⟩, ⟨rfl, Nat.zero_le _, .inl rfl⟩, Nat.le_refl _⟩
theorem OutV.wide {m : Nat} {w : World} {A B A' B' : Nat} {v : Value} {x : NodeP} {c : Int} (h : OutV m w A B v x c) (hA : A' ≤ A) (hB : B ≤ B') : OutV m w A' B' v x c := by
  obtain ⟨a, ca, e, ce, h1, h2⟩ := h
  exact ⟨a, ca, e, ce, h1, h2.wide hA hB⟩
theorem out_cells {w : World} {g : Nat} {T : TypeId} {x0 x1 x2 x3 x4 : Value} (K : w.heap[g]? = some (.cells #[x0, x1, x2, x3, x4] T (0, 0))) (v0 v1 v2 v3 v4 : Value) {B : Nat} {a : World} (hb : Below B a w) (hB : B ≤ g) :
    ∃ W, putL w g 0 [v0, v1, v2, v3, v4] = W ∧ (W.cell? ⟨g, 0, none⟩ = some v0 ∧ W.cell? ⟨g, 1, none⟩ = some v1 ∧ W.cell? ⟨g, 2, none⟩ = some v2 ∧ W.cell? ⟨g, 3, none⟩ = some v3 ∧ W.cell? ⟨g, 4, none⟩ = some v4) ∧ Hid (W.heap.size = w.heap.size ∧ (∀ k, k ≠ g → W.heap[k]? = w.heap[k]?) ∧ Below B a W) := by
  obtain ⟨hr, _, _⟩ := putL_cells (w := w) (g := g) (o := 0) (l := [v0, v1, v2, v3, v4]) K (by simp)
  refine ⟨_, rfl, ⟨hr 0 _ rfl, hr 1 _ rfl, hr 2 _ rfl, hr 3 _ rfl, hr 4 _ rfl⟩, Lib.hid ⟨putL_size _ _ _ _, fun k hk => putL_other _ _ _ _ _ hk, putL_below hB _ _ hb⟩⟩
theorem size0J {t : ByteArray} (h : t.size = 0) : (t.toList == []) = true := by
  rw [beq_iff_eq, Lib.toList_data]; exact List.eq_nil_of_length_eq_zero h
theorem size1J {t : ByteArray} (h : t.size ≠ 0) : (t.toList == []) = false := by
  rw [beq_eq_false_iff_ne, Lib.toList_data]; intro e; exact h (congrArg List.length e)
theorem txt_ne {t u : ByteArray} (h : t ≠ u) : (t.toList == u.toList) = false := Nm.toList_beq h
theorem keep5J {w1 : World} {g : Nat} {v0 v1 v2 v3 v4 : Value} {T : TypeId} (h1 : w1.heap[g]? = some (.cells #[v0, v1, v2, v3, v4] T (0, 0))) :
    (w1.cell? ⟨g, 0, none⟩ = some v0 ∧ w1.cell? ⟨g, 1, none⟩ = some v1 ∧ w1.cell? ⟨g, 2, none⟩ = some v2 ∧ w1.cell? ⟨g, 3, none⟩ = some v3 ∧ w1.cell? ⟨g, 4, none⟩ = some v4) ∧
    (w1.frozen? ⟨g, 0, none⟩ = false ∧ w1.frozen? ⟨g, 1, none⟩ = false ∧ w1.frozen? ⟨g, 2, none⟩ = false ∧ w1.frozen? ⟨g, 3, none⟩ = false ∧ w1.frozen? ⟨g, 4, none⟩ = false) := by
  simp [World.cell?, World.frozen?, h1]
theorem nodeV_block : ∀ {n : Nat} {w w' : World} {A B : Nat} {v : Value} {x : NodeP}, NodeV n w A B v x → (∀ c, A ≤ c → c < B → w'.heap[c]? = w.heap[c]?) → NodeV n w' A B v x
  | 0, _, _, _, _, _, _, h, _ => h.elim
  | n + 1, w, w', A, B, v, x, h, hw => by
    obtain ⟨a, ca, c, cc, hv, hk, h2, h3⟩ := h
    exact ⟨a, ca, c, cc, hv, hk, ⟨h2.1.block textLies hw, h2.2⟩, h3.1.block (nodeLies n) hw, h3.2⟩
set_option maxHeartbeats 1000000 in
theorem specJsonRead (w : World) (t : ByteArray) (htm : t.size ≤ 9223372036854775807) :
    Calls Tryd.prog 25 #[.string t] w fun e w' => ∃ x c v, e = .returned v ∧ Hid (OutJ t x c) ∧ OutV 102 w' w.heap.size w'.heap.size v x c ∧ Below w.heap.size w w' := by
  by_cases hbig : 8000 < t.size
  · have hi : (8000 : Int) < (t.size : Int) := by omega
    have HOUT := Lib.hid (show OutJ t node0 2 from .inl ⟨hbig, rfl, rfl⟩)
    have HA : Hid (∀ o, Below w.heap.size w (w.alloc o)) := Lib.hid fun o => (Below.refl _ _).alloc (Nat.le_refl _) o
    clear hbig
    go_enter Tryd.func25, Tryd.ntmps25
    go_wp2_with fail
    have hz : (w.alloc (.cells #[.int .i64 0, .string ⟨#[]⟩, .slice none 0 0, .slice none 0 0, .int .i64 2] 55)).heap.size = w.heap.size + 1 := by simp
    refine bodyPost_ret (v := .agg #[.int .i64 0, .string ⟨#[]⟩, .slice none 0 0, .slice none 0 0, .int .i64 2]) (by simp [results, Tryd.results25, go_sem]) rfl ?_
    exact ⟨node0, 2, _, rfl, HOUT, (out0 101 _ w.heap.size 2).wide (Nat.le_refl _) (by rw [hz]; omega), HA.out _⟩
  · have hts : t.size ≤ 8000 := by omega
    have hi : (t.size : Int) ≤ 8000 := by omega
    clear hbig
    have CN : Hid (∀ W p, RdS W p t (bl t) → Calls Tryd.prog 50 #[.pointer (some ⟨p, 0, none⟩), .int .i64 101] W fun e w' => ∃ r : RowD, e = .returned (.agg #[.int .i64 r.x.kind, .string r.x.text, .slice r.a r.x.keys.length r.ca, .slice r.c r.x.kids.length r.cc]) ∧ Hid (r.x = (spN 101 (bl t)).1) ∧ (OkD 101 w' r ∧ W.heap.size ≤ r.lo ∧ r.hi ≤ w'.heap.size) ∧ RdS w' p t (spN 101 (bl t)).2 ∧ Onl p W w') := Lib.hid fun W p h => spNode 101 (Nat.le_refl _) W p t (bl t) h hts
    have HB0 : Hid (Below w.heap.size w ((w.alloc (.cells #[.int .i64 0, .string ⟨#[]⟩, .slice none 0 0, .slice none 0 0, .int .i64 0] 55)).alloc (.cells #[.string t, .int .i64 0] 90))) := Lib.hid (((Below.refl _ w).alloc (Nat.le_refl _) _).alloc (by simp) _)
    have K0 := Lib.hid (show ((w.alloc (.cells #[.int .i64 0, .string ⟨#[]⟩, .slice none 0 0, .slice none 0 0, .int .i64 0] 55)).alloc (.cells #[.string t, .int .i64 0] 90)).heap[w.heap.size]? = some (.cells #[.int .i64 0, .string ⟨#[]⟩, .slice none 0 0, .slice none 0 0, .int .i64 0] 55 (0, 0)) from (Go.Deep.blk_alloc_lt _ _ _ (by simp)).trans (heap_alloc_new w _))
    have KP : ((w.alloc (.cells #[.int .i64 0, .string ⟨#[]⟩, .slice none 0 0, .slice none 0 0, .int .i64 0] 55)).alloc (.cells #[.string t, .int .i64 0] 90)).heap[w.heap.size + 1]? = some (.cells #[.string t, .int .i64 0] 90 (0, 0)) := by
      have := heap_alloc_new (w.alloc (.cells #[.int .i64 0, .string ⟨#[]⟩, .slice none 0 0, .slice none 0 0, .int .i64 0] 55)) (.cells #[.string t, .int .i64 0] 90)
      rwa [show (w.alloc (.cells #[.int .i64 0, .string ⟨#[]⟩, .slice none 0 0, .slice none 0 0, .int .i64 0] 55)).heap.size = w.heap.size + 1 by simp] at this
    have CN1 := Lib.hid (CN.out _ (w.heap.size + 1) ⟨0, Nat.zero_le _, by rw [List.drop_zero], KP⟩)
    have hz0 : w.heap.size + 2 ≤ ((w.alloc (.cells #[.int .i64 0, .string ⟨#[]⟩, .slice none 0 0, .slice none 0 0, .int .i64 0] 55)).alloc (.cells #[.string t, .int .i64 0] 90)).heap.size := by simp
    clear KP CN
    by_cases h0 : t.size = 0
    · have hb0 := size0J h0
      have hbl : bl t = [] := List.eq_nil_of_length_eq_zero (by rw [bl_len]; exact h0)
      have HOUT : Hid (OutJ t node0 3) := Lib.hid (.inr (.inr ⟨hts, fun y hy => (by
        obtain ⟨c, l, e, _⟩ := js_head hy.1 hy.2.1.2
        rw [hy.2.2, hbl] at e; cases e), rfl, rfl⟩))
      clear h0 hbl
      go_enter Tryd.func25, Tryd.ntmps25
      go_wp2_with fail
      refine CN1.out.mono ?_
      rintro e w1 ⟨r, rfl, HX, ⟨hok, hlo, hhi⟩, -, ho1⟩
      have HB1 := HB0.out.trans (ho1.below (B := w.heap.size) (by omega) (by omega))
      have K1 := (ho1.block w.heap.size (lt_of_get K0.out) (by omega)).trans K0.out
      have ⟨⟨d0, d1, d2, d3, d4⟩, g0, g1, g2, g3, g4⟩ := keep5J K1
      have hlt1 := lt_of_get K1
      clear hok hlo hhi ho1
      go_wp2_with fail
      obtain ⟨W, hW, ⟨y0, y1, y2, y3, y4⟩, HFIN⟩ := out_cells K1 (.int .i64 0) (.string ⟨#[]⟩) (.slice none 0 0) (.slice none 0 0) (.int .i64 3) HB1 (Nat.le_refl _)
      have hltW : w.heap.size < W.heap.size := by have := HFIN.out.1; omega
      have HBW := Lib.hid (HFIN.out.2.2.alloc HFIN.out.2.2.size (.cells #[.int .i64 r.x.kind, .string r.x.text, .slice r.a r.x.keys.length r.ca, .slice r.c r.x.kids.length r.cc] 53))
      change bodyPost _ _ _ _ _ ((putL w1 w.heap.size 0 [.int .i64 0, .string ⟨#[]⟩, .slice none 0 0, .slice none 0 0, .int .i64 3]).alloc (.cells #[.int .i64 r.x.kind, .string r.x.text, .slice r.a r.x.keys.length r.ca, .slice r.c r.x.kids.length r.cc] 53))
      rw [hW]
      refine bodyPost_ret (v := .agg #[.int .i64 0, .string ⟨#[]⟩, .slice none 0 0, .slice none 0 0, .int .i64 3]) (by simp [results, Tryd.results25, go_sem, y0, y1, y2, y3, y4, hltW]) rfl ?_
      exact ⟨node0, 3, _, rfl, HOUT, (out0 101 _ w.heap.size 3).wide (Nat.le_refl _) HBW.out.size, HBW.out⟩
    · have hb0 := size1J h0
      go_enter Tryd.func25, Tryd.ntmps25
      go_wp2_with fail
      refine CN1.out.mono ?_
      rintro e w1 ⟨r, rfl, HX, ⟨hok, hlo, hhi⟩, -, ho1⟩
      have HB1 := HB0.out.trans (ho1.below (B := w.heap.size) (by omega) (by omega))
      have K1 := (ho1.block w.heap.size (lt_of_get K0.out) (by omega)).trans K0.out
      have HBA := Lib.hid (HB1.alloc HB1.size (.cells #[.int .i64 r.x.kind, .string r.x.text, .slice r.a r.x.keys.length r.ca, .slice r.c r.x.kids.length r.cc] 53))
      have hV : NodeV 102 (w1.alloc (.cells #[.int .i64 r.x.kind, .string r.x.text, .slice r.a r.x.keys.length r.ca, .slice r.c r.x.kids.length r.cc] 53)) (w.heap.size + 1) w1.heap.size (.agg #[.int .i64 r.x.kind, .string r.x.text, .slice r.a r.x.keys.length r.ca, .slice r.c r.x.kids.length r.cc]) r.x := ((hok.val).wide (by omega) hhi).below (Nat.le_refl _) ((Below.refl _ w1).alloc (Nat.le_refl _) _)
      have HV := Lib.hid hV
      have CJ := Lib.hid (specJson (w1.alloc (.cells #[.int .i64 r.x.kind, .string r.x.text, .slice r.a r.x.keys.length r.ca, .slice r.c r.x.kids.length r.cc] 53)) (w.heap.size + 1) w1.heap.size _ r.x hV (by simp))
      have HT : Hid ((jsT 102 r.x = t → OutJ t r.x 0) ∧ (jsT 102 r.x ≠ t → OutJ t node0 3)) := Lib.hid (by
        have hm : Fits 102 (spN 101 (bl t)).1 := by rw [← HX.out]; exact hok.fits
        have hne : bl t ≠ [] := fun e => h0 (by rw [← bl_len, e]; rfl)
        constructor
        · intro e
          refine .inr (.inl ⟨hts, (told_spec hm).2 ⟨HX.out, hne, ?_⟩, rfl⟩)
          by_cases hr : RightN 102 r.x
          · rw [jsT_yes hr] at e
            exact ⟨hr, by rw [← e]; rfl⟩
          · rw [jsT_no hr] at e
            exact absurd (by rw [← e]; rfl) h0
        · intro e
          refine .inr (.inr ⟨hts, fun y hy => ?_, rfl, rfl⟩)
          obtain ⟨e1, e2, e3, e4⟩ := (told_spec hm).1 hy
          subst e1
          rw [← HX.out] at e3 e4
          exact e (by rw [jsT_yes e3, e4]; exact tB_bl t))
      have KA := Lib.hid ((Go.Deep.blk_alloc_lt w1 (.cells #[.int .i64 r.x.kind, .string r.x.text, .slice r.a r.x.keys.length r.ca, .slice r.c r.x.kids.length r.cc] 53) w.heap.size (lt_of_get K1)).trans K1)
      have KC := Lib.hid (heap_alloc_new w1 (.cells #[.int .i64 r.x.kind, .string r.x.text, .slice r.a r.x.keys.length r.ca, .slice r.c r.x.kids.length r.cc] 53))
      have hlt1 := lt_of_get K1
      clear hok hlo hhi ho1 hV h0
      go_wp2_with fail
      refine CJ.out.mono ?_
      rintro e w2 ⟨rfl, hb2⟩
      have HB2 := HBA.out.trans (hb2.mono HBA.out.size)
      have KR := (hb2.block w.heap.size (lt_of_get KA.out)).trans KA.out
      have KC2 := (hb2.block w1.heap.size (lt_of_get KC.out)).trans KC.out
      have ⟨⟨d0, d1, d2, d3, d4⟩, g0, g1, g2, g3, g4⟩ := keep5J KR
      have ⟨⟨c0, c1, c2, c3⟩, f0, f1, f2, f3⟩ := keep4 KC2
      have HV2 := Lib.hid ((HV.out.below (Nat.le_refl _) (hb2.mono (by simp))))
      have hzz : w1.heap.size ≤ w2.heap.size := Nat.le_trans (by simp) hb2.size
      have HKR := Lib.hid KR
      have HBW := Lib.hid HB2
      clear hb2 CJ KR KC2 HB2
      by_cases he : jsT 102 r.x = t
      · have HOUT := Lib.hid (HT.out.1 he)
        rw [he]
        have hbe : (t.toList == t.toList) = true := beq_self_eq_true _
        clear he HT
        go_wp2_with fail
        obtain ⟨W, hW, ⟨y0, y1, y2, y3, y4⟩, HFIN⟩ := out_cells HKR.out (.int .i64 r.x.kind) (.string r.x.text) (.slice r.a r.x.keys.length r.ca) (.slice r.c r.x.kids.length r.cc) (.int .i64 0) HBW.out (Nat.le_refl _)
        change bodyPost _ _ _ _ _ (putL w2 w.heap.size 0 [.int .i64 r.x.kind, .string r.x.text, .slice r.a r.x.keys.length r.ca, .slice r.c r.x.kids.length r.cc, .int .i64 0])
        rw [hW]
        refine bodyPost_ret (v := .agg #[.int .i64 r.x.kind, .string r.x.text, .slice r.a r.x.keys.length r.ca, .slice r.c r.x.kids.length r.cc, .int .i64 0]) (by simp [results, Tryd.results25, go_sem, y0, y1, y2, y3, y4]) rfl ?_
        exact ⟨r.x, 0, _, rfl, HOUT, ⟨r.a, r.ca, r.c, r.cc, rfl, (nodeV_block HV2.out fun c c1 c2 => HFIN.out.2.1 c (by omega)).wide (by omega) (by have := HFIN.out.1; omega)⟩, HFIN.out.2.2⟩
      · have HOUT := Lib.hid (HT.out.2 he)
        have hbe := txt_ne he
        have hsz := jsT_size 102 r.x
        clear HT
        generalize jsT 102 r.x = u at *
        clear he
        go_wp2_with fail
        obtain ⟨W, hW, ⟨y0, y1, y2, y3, y4⟩, HFIN⟩ := out_cells HKR.out (.int .i64 0) (.string ⟨#[]⟩) (.slice none 0 0) (.slice none 0 0) (.int .i64 3) HBW.out (Nat.le_refl _)
        change bodyPost _ _ _ _ _ (putL w2 w.heap.size 0 [.int .i64 0, .string ⟨#[]⟩, .slice none 0 0, .slice none 0 0, .int .i64 3])
        rw [hW]
        refine bodyPost_ret (v := .agg #[.int .i64 0, .string ⟨#[]⟩, .slice none 0 0, .slice none 0 0, .int .i64 3]) (by simp [results, Tryd.results25, go_sem, y0, y1, y2, y3, y4]) rfl ?_
        exact ⟨node0, 3, _, rfl, HOUT, (out0 101 _ w.heap.size 3).wide (Nat.le_refl _) (by have := HFIN.out.2.2.size; omega), HFIN.out.2.2⟩
end Go.Proofs.YtlncdkeooacebaaDoor.Rw
