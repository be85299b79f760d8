/-
  Contract: spec.l05Clash tells the key of what clashes first in selections; of what was there nothing is changed. Conditions: in memory, no Frag comes to spread itself.
-/
import Derived.Test.YtceabbbmgfeofaaGreatDoorRows
import Derived.Test.YtceabbbmgfeofaaGreatDoorLoopM
import Derived.Test.YtceabbbmgfeofaaGreatDoorOpenM
import Derived.BigQuiet
namespace Go.Proofs.YtceabbbmgfeofaaGreatDoor.Nm
open Go.RowKit Words
open Rw (OkS RowsAt TextLie TextsAt textLies lt_of_get cell_of add_plain)
set_option linter.unusedVariables false
set_option maxRecDepth 100000
section
variable {w : World} {ops : Array Oper} {o : Oper} {a : Act}
theorem app_textB {rest : List Oper} {Q : Exit → Act → World → Prop} (hgd : o.guard = none) (s x : Operand)
    (ho : o.op = .call { callee := .builtin .append, args := #[s, x], argTypes := #[40, 40] })
    (base : Nat) (v : Value) (l : List ByteArray) (hs : a.eval s = v) (hown : OwnTs w base v l)
    (B c : Nat) (hx : a.eval x = .slice (some ⟨B, 0, none⟩) 1 c) (y : ByteArray) (hc : w.cell? ⟨B, 0, none⟩ = some (.string y))
    (hsize : l.length + 1 ≤ 200000000000) (hbase : base ≤ w.heap.size)
    (h : ∀ a' cap w', OwnTs w' base (.slice a' (l.length + 1) cap) (l ++ [y]) → Below base w w' → (∀ c, c < w.heap.size → some c ≠ v.ownBlock → w'.heap[c]? = w.heap[c]?) → wpList Tryz.prog ops Q rest (a.put o.dst (.slice a' (l.length + 1) cap)) w') : wpList Tryz.prog ops Q (o :: rest) a w := by
  obtain ⟨i0, hi, hz0, hz1, hz2⟩ := info_parts infoStr
  refine wpList_append_lies w hgd s x 40 ho base 9 i0 _ 1 16 Tryz.underlying40 hi hz0 hz1 hz2 rfl (by decide) v l.length (l.map Value.string) hs hown ⟨B, 0, none⟩ 1 c [.string y] hx rfl
    (fun j u hj => by
      have e : j = 0 := by have := (List.getElem?_eq_some_iff.1 hj).1; simp at this; exact this
      subst e; cases hj
      rw [add_plain]; exact hc) (fun u hu => ?_) (by omega) (by unfold maxLen; omega) (by omega) hbase _ rfl ?_
  · simp at hu; subst hu; rfl
  · intro g cap w' hown' hgrow _ _
    exact h _ cap w' (by unfold OwnTs; rw [List.length_append, List.map_append]; exact hown') ((Below.refl base w).grown hgrow hbase (fun k hk => (World.ownsRow.lt hown k hk).1)) hgrow.block
end
end Go.Proofs.YtceabbbmgfeofaaGreatDoor.Nm
namespace Go.Proofs.YtceabbbmgfeofaaGreatDoor.Selss
open Go.RowKit Words
set_option linter.unusedVariables false
set_option maxRecDepth 100000
/-- The key of the first that clashes; else what is told first of what is within each. -/
noncomputable def clashN (f : ByteArray → ByteArray) (l : List Fd) : ByteArray := match Uq.firstA Bad [] l with
  | some x => x.key
  | none => firstK f (Uq.uniq (l.map Fd.key))
theorem clashN_some {f : ByteArray → ByteArray} {l : List Fd} {x : Fd} (h : Uq.firstA Bad [] l = some x) : clashN f l = x.key := by unfold clashN; rw [h]
theorem clashN_none {f : ByteArray → ByteArray} {l : List Fd} (h : Uq.firstA Bad [] l = none) : clashN f l = firstK f (Uq.uniq (l.map Fd.key)) := by unfold clashN; rw [h]
theorem clashM_succ (fr : List FragP) (m : Nat) (l : List Fd) : clashM fr (m + 1) l = clashN (fun k => clashM fr m (opens fr (subK k l))) l := rfl
theorem firstK_skip {f : ByteArray → ByteArray} {l : List ByteArray} {i : Nat} {k : ByteArray} (h : l[i]? = some k) (hf : f k = ⟨#[]⟩) : firstK f (l.drop i) = firstK f (l.drop (i + 1)) := by
  obtain ⟨hl, rfl⟩ := List.getElem?_eq_some_iff.1 h
  rw [List.drop_eq_getElem_cons hl, firstK, if_pos hf]
theorem firstK_take {f : ByteArray → ByteArray} {l : List ByteArray} {i : Nat} {k : ByteArray} (h : l[i]? = some k) (hf : f k ≠ ⟨#[]⟩) : firstK f (l.drop i) = f k := by
  obtain ⟨hl, rfl⟩ := List.getElem?_eq_some_iff.1 h
  rw [List.drop_eq_getElem_cons hl, firstK, if_neg hf]
theorem OwnSs.at {w : World} {base : Nat} {v : Value} {R : List RowS} (h : OwnSs w base v R) {i : Nat} {r : RowS} (hi : R[i]? = some r) :
    ∃ g cap, v = .slice (some ⟨g, 0, none⟩) R.length cap ∧ base ≤ g ∧ g < w.heap.size ∧ R.length ≤ cap ∧ w.cell? ⟨g, i * 5, none⟩ = some (.int .i64 r.k) ∧ w.cell? ⟨g, i * 5 + 1, none⟩ = some (.string r.key) ∧ w.cell? ⟨g, i * 5 + 2, none⟩ = some (.string r.nm) ∧ w.cell? ⟨g, i * 5 + 3, none⟩ = some (.int .i64 r.f) ∧ w.cell? ⟨g, i * 5 + 4, none⟩ = some (.slice r.a r.u.len r.cap) := by
  obtain ⟨hll, ⟨rfl, hn⟩ | ⟨gb, cap, cur, rfl, hb, hg, hc, hm, hs, ht⟩⟩ := h
  · obtain rfl : R = [] := List.eq_nil_of_length_eq_zero hn
    simp at hi
  · have key : ∀ q u, r.cells[q]? = some u → w.cell? ⟨gb, i * 5 + q, none⟩ = some u := fun q u hq => by
      have hj := cells_at hi hq
      rw [← ht] at hj
      have hj2 := (List.getElem?_eq_some_iff.1 hj).1
      rw [List.length_take] at hj2
      rw [List.getElem?_take_of_lt (by omega)] at hj
      exact Rw.cell_of hg (by rw [← hj]; simp)
    exact ⟨gb, cap, rfl, hb, Rw.lt_of_get hg, hc, by have := key 0 _ rfl; rwa [Nat.add_zero] at this, key 1 _ rfl, key 2 _ rfl, key 3 _ rfl, key 4 _ rfl⟩
theorem sumF_take (fr : List FragP) : ∀ (k : Nat) (l : List Fd), sumF fr (l.take k) ≤ sumF fr l
  | 0, l => Nat.zero_le _
  | k + 1, [] => Nat.le_refl _
  | k + 1, x :: l => by have := sumF_take fr k l; simp only [List.take_succ_cons, sumF]; omega
theorem sumF_mem (fr : List FragP) {x : Fd} : ∀ {l : List Fd}, x ∈ l → full fr x.sub ≤ sumF fr l
  | y :: l, h => by
    simp only [sumF]
    rcases List.mem_cons.1 h with rfl | h
    · omega
    · have := sumF_mem fr h; omega
theorem subK_one (key : ByteArray) (x : Fd) : subK key [x] = if x.key = key then x.sub else .nil := by
  show (if x.key = key then x.sub.app .nil else .nil) = _
  rw [Sels.app_nil]
/-- What is asked of l05Clash, at some selections. -/
def ClashOk (d : DocP) (s : Sels) (out : ByteArray) : Prop := ∀ (w : World) (B : Nat) (v : Value) (a : Option Addr) (cap : Nat), DocAt w 0 B v d → SelsAt w 0 B a s.len s → B ≤ w.heap.size →
  Calls Tryz.prog 56 #[v, .slice a s.len cap] w fun e w' => e = .returned (.string out) ∧ Below w.heap.size w w'
theorem below_drewN (w : World) (n B : Nat) : Below B w (w.drewN n) := ⟨rfl, rfl, rfl, Nat.le_refl _, fun _ _ => rfl⟩
theorem bad_not {x y : Fd} (h1 : x.key = y.key → x.name = y.name ∧ x.first = y.first) : ¬ Bad x y := fun h => h.2.elim (fun k => k (h1 h.1).1) fun k => k (h1 h.1).2
set_option maxHeartbeats 8000000 in
theorem specClashStep {d : DocP} (hn : NoLoop d.frags) (s : Sels) (hfull : full d.frags s ≤ 100000000000) (f : ByteArray → ByteArray)
    (HR : ∀ key, key ∈ (opens d.frags s).map Fd.key → ClashOk d (subK key (opens d.frags s)) (f key)) : ClashOk d s (clashN f (opens d.frags s)) := by
  intro w B v a cap hd hs hB
  have HDC := Lib.hid hd
  have HS := Lib.hid hs
  have HRR := Lib.hid HR
  obtain ⟨da, dca, db, dcb, rfl, _, hdf, _⟩ := hd
  have hsl := hs.2.1
  have HFULL := Lib.hid hfull
  have HSF := Lib.hid (Nat.le_trans (sumF_opens hn _ s (Low.top d.frags s)) hfull)
  have HA : Hid (∀ o, Below w.heap.size w (w.alloc o)) := Lib.hid fun o => (Below.refl _ _).alloc (Nat.le_refl _) o
  have HB2 : Hid (Below w.heap.size w ((w.alloc (.cells #[.slice da d.sels.len dca, .slice db d.frags.length dcb] 29)).alloc (.cells #[] 114))) := Lib.hid ((HA.out _).alloc (by simp) _)
  have HOE : Hid (OwnSs ((w.alloc (.cells #[.slice da d.sels.len dca, .slice db d.frags.length dcb] 29)).alloc (.cells #[] 114)) (w.heap.size + 1) (.slice (some ⟨w.heap.size + 1, 0, none⟩) 0 0) []) := Lib.hid (by
    have := OwnSs.made (w.alloc (.cells #[.slice da d.sels.len dca, .slice db d.frags.length dcb] 29)) (w.heap.size + 1) (by simp)
    simpa using this)
  have HK0 : Hid (((w.alloc (.cells #[.slice da d.sels.len dca, .slice db d.frags.length dcb] 29)).alloc (.cells #[] 114)).heap[w.heap.size]? = some (.cells #[.slice da d.sels.len dca, .slice db d.frags.length dcb] 29 (0, 0))) := Lib.hid (two_new _ _ _)
  have HZ2 : Hid (((w.alloc (.cells #[.slice da d.sels.len dca, .slice db d.frags.length dcb] 29)).alloc (.cells #[] 114)).heap.size = w.heap.size + 2) := Lib.hid (by simp)
  clear hs hdf hfull HR
  go_enter Tryz.func56, Tryz.ntmps56
  go_wp2_with fail
  generalize ((w.alloc (.cells #[.slice da d.sels.len dca, .slice db d.frags.length dcb] 29)).alloc (.cells #[] 114)) = w0 at *
  refine (specOpen hn (full d.frags s + 1) s (Nat.lt_succ_self _) w0 0 B _ a cap (w.heap.size + 1) _ [] (HDC.out.below hB HB2.out) (HS.out.below hB HB2.out) (by omega) (by have := HZ2.out; omega) HOE.out (fun r hr => by simp at hr) (by have := HFULL.out; simp; omega)).mono ?_
  rintro e w1 ⟨v1, Ro, rfl, ho1, hm1, hok1, hmd1⟩
  simp only [List.map_nil, List.nil_append] at hm1
  obtain ⟨a1, c1, rfl⟩ := ho1.slice
  have HL := Lib.hid hm1
  have HO1 := Lib.hid ho1
  have HOK1 := Lib.hid hok1
  have HB1 : Hid (Below w.heap.size w w1) := Lib.hid (HB2.out.trans (hmd1.to (fun g hg => by have := (HOE.out.base g hg).1; omega) (by have := HZ2.out; omega)))
  have HBOX : Hid (w1.heap[w.heap.size]? = some (.cells #[.slice da d.sels.len dca, .slice db d.frags.length dcb] 29 (0, 0))) := Lib.hid ((hmd1.block (by have := HZ2.out; omega) (fun g hg => by have := (HOE.out.base g hg).1; omega)).trans HK0.out)
  have HRL : Hid (Ro.length ≤ 100000000000) := Lib.hid (by
    have h1 := congrArg List.length hm1
    have h2 := sumF_len d.frags (opens d.frags s)
    have h3 := HSF.out
    rw [List.length_map] at h1; omega)
  have hrl := HRL.out
  have HLI : Hid (∀ (i : Nat) (r : RowS), Ro[i]? = some r → (opens d.frags s)[i]? = some (fdOf r)) := Lib.hid fun i r h => by rw [← HL.out, List.getElem?_map, h]; rfl
  have HLL : Hid ((opens d.frags s).length = Ro.length) := Lib.hid (by rw [← HL.out, List.length_map])
  obtain ⟨L, hLe⟩ : ∃ L, opens d.frags s = L := ⟨_, rfl⟩
  have HFIN : Hid (∀ x : ByteArray, clashN f L = x → Ending.returned (.string x) = .returned (.string (clashN f (opens d.frags s)))) := Lib.hid fun x h => by rw [hLe, h]
  rw [hLe] at HRR HSF HL HLI HLL
  clear hLe
  have HBK : Hid (∀ o, Below w1.heap.size w1 (w1.alloc o)) := Lib.hid fun o => (Below.refl _ _).alloc (Nat.le_refl _) o
  have HTE : Hid (Nm.OwnTs (w1.alloc (.cells #[] 9)) w1.heap.size (.slice (some ⟨w1.heap.size, 0, none⟩) 0 0) []) := Lib.hid (World.ownsRow_made w1 #[] 0 (Nat.le_refl _) (by decide) rfl)
  clear ho1 hm1 hok1 hmd1
  go_wp2_with fail
  go_loopw [6, 7] (fun v i wr => ∃ (i' : Nat) (keys : List ByteArray) (ak : Option Addr) (ck : Nat), i' ≤ Ro.length ∧ v = .slice ak keys.length ck ∧ i = .int .i64 i' ∧ Hid (Uq.firstA Bad [] L = Uq.firstA Bad (L.take i') (L.drop i')) ∧ Hid (keys = Uq.uniq ((L.take i').map Fd.key)) ∧ Hid (keys.length ≤ i') ∧ Hid (Nm.OwnTs wr w1.heap.size (.slice ak keys.length ck) keys) ∧ Hid (∀ x, x ∈ keys → OkS x) ∧ Below w1.heap.size w1 wr) (fun _ i _ => Ro.length - (intOf i).toNat)
  case atStart => exact ⟨0, [], some ⟨w1.heap.size, 0, none⟩, 0, by omega, rfl, rfl, Lib.hid (by rw [List.take_zero, List.drop_zero]), Lib.hid (by rw [List.take_zero]; rfl), Lib.hid (Nat.le_refl _), HTE, Lib.hid (fun x hx => by simp at hx), HBK.out _⟩
  case round =>
    obtain ⟨i, keys, ak, ck, hi, rfl, rfl, hm, hkeys, hkl, HT, HTOK, hb⟩ := hrel
    have HB := Lib.hid hb
    have HKL := Lib.hid hkl.out
    obtain ⟨wo, hwo⟩ : ∃ wo, wo = wr := ⟨_, rfl⟩
    subst hwo
    by_cases hlt : i < Ro.length
    · have hli : (i : Int) < (Ro.length : Int) := by omega
      have hi9 : (i : Int) < 100000000000 := by omega
      obtain ⟨ri, hri⟩ : ∃ r, Ro[i]? = some r := ⟨Ro[i], List.getElem?_eq_getElem hlt⟩
      have HRI := Lib.hid hri
      have HLX := Lib.hid (HLI.out i ri hri)
      have HOKI := Lib.hid (HOK1.out ri (List.mem_iff_getElem?.2 ⟨i, hri⟩)).2
      obtain ⟨g, cg, hve, hgb, hgl, hgc, i0, i1, i2, i3, i4⟩ := HO1.out.at hri
      cases hve
      have KI : Hid (∀ X, Below w1.heap.size w1 X → X.cell? ⟨g, i * 5 + 1, none⟩ = some (.string ri.key) ∧ X.cell? ⟨g, i * 5 + 2, none⟩ = some (.string ri.nm) ∧ X.cell? ⟨g, i * 5 + 3, none⟩ = some (.int .i64 ri.f)) := Lib.hid fun X h => ⟨(h.cell (p := ⟨g, i * 5 + 1, none⟩) hgl).trans i1, (h.cell (p := ⟨g, i * 5 + 2, none⟩) hgl).trans i2, (h.cell (p := ⟨g, i * 5 + 3, none⟩) hgl).trans i3⟩
      have HGL := Lib.hid hgl
      have HHI := Lib.hid hlt
      have hile : i ≤ Ro.length := hi
      clear hri i0 i1 i2 i3 i4 hb hgl hlt
      go_wp2_with fail
      go_loopw [8] (fun q wr => ∃ (k' : Nat), k' ≤ i ∧ q = .int .i64 k' ∧ Hid (∀ j y, j < k' → L[j]? = some y → ¬ Bad y (fdOf ri)) ∧ Below wo.heap.size wo wr) (fun q _ => i - (intOf q).toNat)
      case atStart => exact ⟨0, Nat.zero_le _, rfl, Lib.hid (fun j y h => by omega), Below.refl _ _⟩
      case round =>
        obtain ⟨k, hki, rfl, hnb, hbx⟩ := hrel
        have HX := Lib.hid hbx
        have HXB := Lib.hid (HB.out.trans (hbx.mono HB.out.size))
        obtain ⟨y1, y2, y3⟩ := KI.out _ HXB.out
        by_cases hlk : k < i
        · have hlki : (k : Int) < (i : Int) := by omega
          have hlkr : (k : Int) < (Ro.length : Int) := by omega
          obtain ⟨rk, hrk⟩ : ∃ r, Ro[k]? = some r := ⟨Ro[k]'(by omega), List.getElem?_eq_getElem (by omega)⟩
          have HLK := Lib.hid (HLI.out k rk hrk)
          obtain ⟨g', cg', hve, _, _, _, j0, j1, j2, j3, j4⟩ := HO1.out.at hrk
          cases hve
          have z1 : wr.cell? ⟨g, k * 5 + 1, none⟩ = some (.string rk.key) := (HXB.out.cell (p := ⟨g, k * 5 + 1, none⟩) HGL.out).trans j1
          have z2 : wr.cell? ⟨g, k * 5 + 2, none⟩ = some (.string rk.nm) := (HXB.out.cell (p := ⟨g, k * 5 + 2, none⟩) HGL.out).trans j2
          have z3 : wr.cell? ⟨g, k * 5 + 3, none⟩ = some (.int .i64 rk.f) := (HXB.out.cell (p := ⟨g, k * 5 + 3, none⟩) HGL.out).trans j3
          obtain ⟨kk, kn, kf, hkk⟩ : ∃ a b c, rk.key = a ∧ rk.nm = b ∧ rk.f = c := ⟨_, _, _, rfl, rfl, rfl⟩
          obtain ⟨ik, im, if_, hii⟩ : ∃ a b c, ri.key = a ∧ ri.nm = b ∧ ri.f = c := ⟨_, _, _, rfl, rfl, rfl⟩
          have HKK := Lib.hid hkk
          have HII := Lib.hid hii
          rw [hkk.1] at z1
          rw [hkk.2.1] at z2
          rw [hkk.2.2] at z3
          rw [hii.1] at y1
          rw [hii.2.1] at y2
          rw [hii.2.2] at y3
          have HBAD : Hid (Bad (fdOf rk) (fdOf ri) ↔ kk = ik ∧ (kn ≠ im ∨ kf ≠ if_)) := Lib.hid (by unfold Bad fdOf; simp only [hkk.1, hkk.2.1, hkk.2.2, hii.1, hii.2.1, hii.2.2])
          have HHK := Lib.hid hlk
          have HNX : Hid (¬ Bad (fdOf rk) (fdOf ri) → ∀ j y, j < k + 1 → L[j]? = some y → ¬ Bad y (fdOf ri)) := Lib.hid fun h j y hj hy => by
            by_cases e : j = k
            · subst e; rw [HLK.out] at hy; cases hy; exact h
            · exact hnb.out j y (by omega) hy
          have HYS : Hid (Bad (fdOf rk) (fdOf ri) → clashN f L = ik) := Lib.hid fun h => by
            have hd : L.drop i = fdOf ri :: L.drop (i + 1) := by
              obtain ⟨hl, he⟩ := List.getElem?_eq_some_iff.1 HLX.out
              rw [List.drop_eq_getElem_cons hl, he]
            have := clashN_some (f := f) (l := L) (x := fdOf ri) (by
              rw [hm.out, hd]
              exact Uq.firstA_hit ⟨fdOf rk, List.mem_iff_getElem?.2 ⟨k, by rw [List.getElem?_take_of_lt HHK.out]; exact HLK.out⟩, h⟩)
            rw [this]; exact HII.out.1
          clear hrk j0 j1 j2 j3 j4 hkk hii hlk hbx
          by_cases q1 : kk = ik
          · subst q1
            by_cases q2 : kn = im
            · subst q2
              by_cases q3 : kf = if_
              · have HG_ := Lib.hid (HNX.out (fun h => by have := HBAD.out.1 h; rcases this.2 with e | e; exact e rfl; exact e q3))
                subst q3
                go_wp2_with fail
                go_quiet (fail)
                go_wp2_with fail
                go_roundw
                case rel => exact ⟨k + 1, HHK.out, by go_num, HG_, HX.out.trans (below_drewN _ _ _)⟩
                case measure => have := HHK.out; simp [intOf]; omega
              · have HB_ := Lib.hid (HYS.out (HBAD.out.2 ⟨rfl, .inr q3⟩))
                have t3 : (kf != if_) = true := by simp [bne, q3]
                clear q3
                go_wp2_with fail
                go_quiet (fail)
                go_wp2_with fail
                all_goals go_ret
                all_goals exact ⟨HFIN.out _ HB_.out, HB1.out.trans ((HXB.out.trans (below_drewN _ _ _)).mono HB1.out.size)⟩
            · have HB_ := Lib.hid (HYS.out (HBAD.out.2 ⟨rfl, .inl q2⟩))
              have t2 := toList_ne q2; have t2b := toList_beq q2
              go_wp2_with fail
              go_quiet (fail)
              go_wp2_with fail
              all_goals go_ret
              all_goals exact ⟨HFIN.out _ HB_.out, HB1.out.trans ((HXB.out.trans (below_drewN _ _ _)).mono HB1.out.size)⟩
          · have HG_ := Lib.hid (HNX.out (fun h => q1 (HBAD.out.1 h).1))
            have t1 := toList_ne q1; have t1b := toList_beq q1
            go_wp2_with fail
            go_quiet (fail)
            go_wp2_with fail
            go_roundw
            case rel => exact ⟨k + 1, HHK.out, by go_num, HG_, HX.out.trans (below_drewN _ _ _)⟩
            case measure => have := HHK.out; simp [intOf]; omega
        · obtain rfl : k = i := by omega
          clear hlk hbx
          obtain ⟨a9, c9, he, hcc, ht⟩ := (HT.out.below HX.out).at_ HTOK.out (by have := HKL.out; omega)
          cases he
          have HTX := Lib.hid ht
          have HTW := Lib.hid (HT.out.below HX.out)
          have CI : Hid (∀ w', Below wr.heap.size wr w' → Calls Tryz.prog 108 #[.slice ak keys.length ck, .string ri.key] w' fun e w'' => e = .returned (.bool (Nm.inN ri.key keys)) ∧ Below w'.heap.size w' w'') := Lib.hid fun w' h =>
            Nm.specIn w' w1.heap.size wr.heap.size ak keys.length ck keys ri.key HOKI.out.1.2.1 (HTX.out.below Rw.textLies (Nat.le_refl _) h) h.size
          have hd : L.drop k = fdOf ri :: L.drop (k + 1) := by
            obtain ⟨hl, he⟩ := List.getElem?_eq_some_iff.1 HLX.out
            rw [List.drop_eq_getElem_cons hl, he]
          have htk : L.take (k + 1) = L.take k ++ [fdOf ri] := by rw [List.take_add_one, HLX.out]; rfl
          have HM2 : Hid (Uq.firstA Bad [] L = Uq.firstA Bad (L.take (k + 1)) (L.drop (k + 1))) := Lib.hid (by
            rw [hm.out, hd, Uq.firstA_miss, htk]
            rintro ⟨y, hy, hbad⟩
            obtain ⟨j, hj⟩ := List.mem_iff_getElem?.1 hy
            have hj2 := (List.getElem?_eq_some_iff.1 hj).1
            rw [List.length_take] at hj2
            rw [List.getElem?_take_of_lt (by omega)] at hj
            exact hnb.out j y (by omega) hj hbad)
          have HU2 : Hid (Uq.uniq ((L.take (k + 1)).map Fd.key) = Uq.add keys ri.key) := Lib.hid (by
            rw [htk, List.map_append, Uq.uniq_append, ← hkeys.out]; rfl)
          obtain ⟨p, hp⟩ : ∃ p, Nm.inN ri.key keys = p := ⟨_, rfl⟩
          have HP := Lib.hid hp
          rw [hp] at CI
          have hzw := Lib.hid (Nat.le_trans HB.out.size HX.out.size)
          have hk9 : (k : Int) < 100000000000 := hi9
          clear ht hcc hd htk hp
          cases p
          · have HKK : Hid (keys ++ [ri.key] = Uq.uniq ((L.take (k + 1)).map Fd.key)) := Lib.hid (by rw [HU2.out, Uq.add_new (Nm.inN_not.1 HP.out)])
            go_wp2_with (first
              | (go_at_call 108; refine (CI.out _ (Below.refl _ _)).mono ?_; rintro e w3 ⟨rfl, hb3⟩; have HX3 := Lib.hid (HXB.out.trans (hb3.mono hzw.out)); have ⟨d1, d2, d3⟩ := KI.out _ HX3.out; have HT3 := Lib.hid (HTW.out.below hb3); clear hb3)
              | (at_builtin; refine Nm.app_textB rfl _ _ rfl w1.heap.size (.slice ak keys.length ck) keys rfl (HT3.out.below ((Below.refl _ _).alloc (Nat.le_refl _) _)) w3.heap.size 1 rfl ri.key (by simp) (by have := HKL.out; omega) (by have := HX3.out.size; simp; omega) ?_; intro a4 c4 w4 hown4 hb4 _; have HT4 := Lib.hid hown4; have HX4 := Lib.hid ((HX3.out.alloc HX3.out.size _).trans hb4); clear hb4 hown4))
            go_roundw
            case rel => exact ⟨k + 1, keys ++ [ri.key], a4, c4, HHI.out, by simp, by go_num, HM2, HKK, Lib.hid (by have := HKL.out; rw [List.length_append]; simp; omega), Lib.hid (by rw [List.length_append]; exact HT4.out), Lib.hid (fun x hx => (List.mem_append.1 hx).elim (HTOK.out x) fun h => by simp at h; subst h; exact HOKI.out.1.2.1), HX4.out⟩
            case measure => have := HHI.out; simp [intOf]; omega
          · have HKK : Hid (keys = Uq.uniq ((L.take (k + 1)).map Fd.key)) := Lib.hid (by rw [HU2.out, Uq.add_in (Nm.inN_mem.1 HP.out)])
            go_wp2_with (first
              | (go_at_call 108; refine (CI.out _ (Below.refl _ _)).mono ?_; rintro e w3 ⟨rfl, hb3⟩; have HX3 := Lib.hid (HXB.out.trans (hb3.mono hzw.out)); have HT3 := Lib.hid (HTW.out.below hb3); clear hb3))
            go_roundw
            case rel => exact ⟨k + 1, keys, ak, ck, HHI.out, rfl, by go_num, HM2, HKK, Lib.hid (Nat.le_succ_of_le HKL.out), HT3, HTOK, HX3.out⟩
            case measure => have := HHI.out; simp [intOf]; omega
    · obtain rfl : i = Ro.length := by omega
      have hne : ∀ (l : List Fd), Uq.firstA Bad l [] = none := fun l => rfl
      have htl : L.take Ro.length = L := by rw [← HLL.out]; exact List.take_length
      have hdl : L.drop Ro.length = [] := by rw [← HLL.out]; exact List.drop_length
      have HC : Hid (clashN f L = firstK f (keys.drop 0)) := Lib.hid (by
        rw [clashN_none (by rw [hm.out, hdl]; rfl), List.drop_zero, hkeys.out, htl])
      have HKM : Hid (∀ t, t ∈ keys → t ∈ L.map Fd.key) := Lib.hid fun t ht => by rw [hkeys.out, htl] at ht; exact Uq.mem_uniq.1 ht
      obtain ⟨a9, c9, he, hcc, ht⟩ := HT.out.at_ HTOK.out (by have := HKL.out; omega)
      cases he
      have HTX := Lib.hid ht
      have hkl9 : (keys.length : Int) ≤ 100000000000 := by have := HKL.out; omega
      clear hlt hb hm hkeys hkl htl hdl hne ht hcc
      go_wp2_with fail
      go_loopw [9] (fun i wr => ∃ (i' : Nat), i' ≤ keys.length ∧ Hid (clashN f L = firstK f (keys.drop i')) ∧ i = .int .i64 i' ∧ Below wo.heap.size wo wr) (fun i _ => keys.length - (intOf i).toNat)
      case atStart => exact ⟨0, Nat.zero_le _, HC, rfl, Below.refl _ _⟩
      case round =>
        obtain ⟨i, hi, hm, rfl, hbp⟩ := hrel
        have HP := Lib.hid hbp
        obtain ⟨wp, hwp⟩ : ∃ wp, wp = wr := ⟨_, rfl⟩
        subst hwp
        have HPB := Lib.hid (HB.out.trans (hbp.mono HB.out.size))
        have hzp := Lib.hid (Nat.le_trans HB.out.size hbp.size)
        by_cases hlt : i < keys.length
        · have hli : (i : Int) < (keys.length : Int) := by omega
          obtain ⟨t, gb, go, hgt, rfl, hgA, hgB, htok, htc⟩ := HTX.out.at hlt
          rw [Nat.mul_one] at htc
          have HGT := Lib.hid hgt
          have KT : Hid (∀ X, Below wp.heap.size wp X → X.cell? ⟨gb, go + i, none⟩ = some (.string t)) := Lib.hid fun X h => ((HP.out.trans (h.mono HP.out.size)).cell (p := ⟨gb, go + i, none⟩) hgB).trans htc
          have HOM : Hid (OwnSs (wp.alloc (.cells #[] 114)) wp.heap.size (.slice (some ⟨wp.heap.size, 0, none⟩) 0 0) []) := Lib.hid (OwnSs.made wp _ (Nat.le_refl _))
          have HPA : Hid (Below wp.heap.size wp (wp.alloc (.cells #[] 114))) := Lib.hid ((Below.refl _ _).alloc (Nat.le_refl _) _)
          have HLT := Lib.hid hlt
          clear hlt hgt htok htc hbp
          go_wp2_with fail
          go_loopw [10, 11] (fun v q wr => ∃ (k' : Nat) (Rin : List RowS) (ain : Option Addr) (cin : Nat), k' ≤ Ro.length ∧ v = .slice ain Rin.length cin ∧ q = .int .i64 k' ∧ Hid (toSels Rin = subK t (L.take k')) ∧ Hid (OwnSs wr wp.heap.size (.slice ain Rin.length cin) Rin) ∧ Hid (∀ r, r ∈ Rin → RowS.ok wr 0 B r) ∧ Below wp.heap.size wp wr) (fun _ q _ => Ro.length - (intOf q).toNat)
          case atStart => exact ⟨0, [], some ⟨wp.heap.size, 0, none⟩, 0, Nat.zero_le _, rfl, rfl, Lib.hid (by rw [List.take_zero]; rfl), HOM, Lib.hid (fun r hr => by simp at hr), HPA.out⟩
          case round =>
            obtain ⟨k, Rin, ain, cin, hk, rfl, rfl, htr, HOI, HOKR, hbx⟩ := hrel
            have HX := Lib.hid hbx
            have HXB := Lib.hid (HPB.out.trans (hbx.mono hzp.out))
            have HXW := Lib.hid (HB1.out.trans (HXB.out.mono HB1.out.size))
            have hRin : Rin.length ≤ 100000000000 := by
              have h1 := toSels_len Rin
              have h2 := full_len hn (subK t (L.take k))
              have h3 := sumF_sub hn t (L.take k)
              have h4 := sumF_take d.frags k L
              have h5 := HSF.out
              rw [htr.out] at h1; omega
            have HRIN := Lib.hid hRin
            have ht1 := KT.out _ hbx
            by_cases hlk : k < Ro.length
            · have hlkr : (k : Int) < (Ro.length : Int) := by omega
              obtain ⟨rk, hrk⟩ : ∃ r, Ro[k]? = some r := ⟨Ro[k], List.getElem?_eq_getElem hlk⟩
              have HLK := Lib.hid (HLI.out k rk hrk)
              obtain ⟨g, cg, hve, _, hgl, _, j0, j1, j2, j3, j4⟩ := HO1.out.at hrk
              cases hve
              have HKO := Lib.hid (HOK1.out rk (List.mem_iff_getElem?.2 ⟨k, hrk⟩)).2
              have z1 : wr.cell? ⟨g, k * 5 + 1, none⟩ = some (.string rk.key) := (HXB.out.cell (p := ⟨g, k * 5 + 1, none⟩) hgl).trans j1
              have z4 : wr.cell? ⟨g, k * 5 + 4, none⟩ = some (.slice rk.a rk.u.len rk.cap) := (HXB.out.cell (p := ⟨g, k * 5 + 4, none⟩) hgl).trans j4
              have htk : L.take (k + 1) = L.take k ++ [fdOf rk] := by rw [List.take_add_one, HLK.out]; rfl
              have HSB : Hid (subK t (L.take (k + 1)) = (subK t (L.take k)).app (if rk.key = t then rk.u else .nil)) := Lib.hid (by rw [htk, subK_append, subK_one]; rfl)
              have HHK := Lib.hid hlk
              have hku : rk.u.len ≤ 100000000000 := by
                have h1 := full_len hn rk.u
                have h2 := sumF_mem d.frags (x := fdOf rk) (List.mem_iff_getElem?.2 ⟨k, HLK.out⟩)
                have h3 := HSF.out
                have h4 : (fdOf rk).sub = rk.u := rfl
                rw [h4] at h2; omega
              have HKU := Lib.hid hku
              clear hrk j0 j1 j2 j3 j4 htk hlk hbx hku
              by_cases q1 : rk.key = t
              · have HS2 : Hid (subK t (L.take (k + 1)) = (subK t (L.take k)).app rk.u) := Lib.hid (by rw [HSB.out, if_pos q1])
                rw [q1] at z1
                clear q1
                have HUD : Hid (∀ n, SelsAt (wr.drewN n) 0 B rk.a rk.u.len rk.u) := Lib.hid fun n => (HKO.out.2.below (C := w1.heap.size) (Nat.le_trans hB HB1.out.size) HXB.out).below (C := wr.heap.size) (Nat.le_trans hB HXW.out.size) (below_drewN _ _ _)
                generalize rk.u = ku at *
                generalize rk.a = ka at *
                generalize rk.cap = kc at *
                go_wp2_with fail
                go_quiet (fail)
                go_wp2_with (at_builtin; refine app_rows rfl _ _ rfl wp.heap.size (.slice ain Rin.length cin) Rin rfl HOI.out 0 B ka ku.len kc ku rfl (HUD.out _) (by have h1 := HKU.out; have h2 := HRIN.out; omega) (by exact HX.out.size) ?_; intro a4 c4 w4 R2 e1 e2 hok4 hown4 hmd4)
                have HMB : Hid (Below wp.heap.size wr w4) := Lib.hid ((below_drewN wr _ _).trans (hmd4.to (fun g hg => (HOI.out.base g hg).1) HX.out.size))
                have HO4 := Lib.hid hown4
                have HT4 : Hid (toSels (Rin ++ R2) = subK t (L.take (k + 1))) := Lib.hid (by rw [toSels_append, htr.out, e1, HS2.out])
                have HOK4 : Hid (∀ r, r ∈ Rin ++ R2 → RowS.ok w4 0 B r) := Lib.hid fun r hr => (List.mem_append.1 hr).elim (fun h => (HOKR.out r h).below (C := wp.heap.size) (by have h1 := HB1.out.size; have h2 := hzp.out; omega) HMB.out) fun h => (hok4 r h).below (C := wp.heap.size) (by have h1 := HB1.out.size; have h2 := hzp.out; omega) (hmd4.to (fun g hg => (HOI.out.base g hg).1) HX.out.size)
                have HE2 := Lib.hid e2
                clear hown4 hmd4 hok4 e1 e2
                go_roundw
                case rel => exact ⟨k + 1, Rin ++ R2, a4, c4, HHK.out, by rw [List.length_append, HE2.out], by go_num, HT4, Lib.hid (by rw [List.length_append, HE2.out]; exact HO4.out), HOK4, HX.out.trans HMB.out⟩
                case measure => have := HHK.out; simp [intOf]; omega
              · have HS2 : Hid (toSels Rin = subK t (L.take (k + 1))) := Lib.hid (by rw [HSB.out, if_neg q1, Sels.app_nil]; exact htr.out)
                have t1 := toList_ne q1
                have t1b := toList_beq q1
                have HOKD : Hid (∀ n, ∀ r, r ∈ Rin → RowS.ok (wr.drewN n) 0 B r) := Lib.hid fun n r hr => (HOKR.out r hr).below (C := wr.heap.size) (Nat.le_trans hB HXW.out.size) (below_drewN _ _ _)
                go_wp2_with fail
                go_quiet (fail)
                go_wp2_with fail
                go_roundw
                case rel => exact ⟨k + 1, Rin, ain, cin, HHK.out, rfl, by go_num, HS2, Lib.hid (HOI.out.below (below_drewN _ _ _)), Lib.hid (HOKD.out _), HX.out.trans (below_drewN _ _ _)⟩
                case measure => have := HHK.out; simp [intOf]; omega
            · obtain rfl : k = Ro.length := by omega
              have hts : toSels Rin = subK t L := by rw [htr.out, ← HLL.out, List.take_length]
              obtain ⟨a8, c8, he, hcc, hsl8⟩ := HOI.out.sels HOKR.out (Nat.zero_le _) (Nat.le_trans hB HXW.out.size) (by omega)
              cases he
              have hls : (subK t L).len = Rin.length := by rw [← hts, toSels_len]
              rw [hts] at hsl8
              have HCK : Hid (Calls Tryz.prog 56 #[.agg #[.slice da d.sels.len dca, .slice db d.frags.length dcb], .slice ain Rin.length cin] wr fun e w' => e = .returned (.string (f t)) ∧ Below wr.heap.size wr w') := Lib.hid (by
                have := HRR.out t (HKM.out t (List.mem_iff_getElem?.2 ⟨i, HGT.out⟩)) wr wr.heap.size (.agg #[.slice da d.sels.len dca, .slice db d.frags.length dcb]) ain cin ((HDC.out.below hB HXW.out).wide (Nat.le_refl _) (Nat.le_trans hB HXW.out.size)) (by rw [hls]; exact hsl8) (Nat.le_refl _)
                rw [hls] at this
                exact this)
              have ⟨⟨b0, b1⟩, _⟩ := keep2 ((HXB.out.block w.heap.size (Rw.lt_of_get HBOX.out)).trans HBOX.out)
              obtain ⟨ft, hft⟩ : ∃ ft, f t = ft := ⟨_, rfl⟩
              have HFT := Lib.hid hft
              rw [hft] at HCK
              clear hts hsl8 hcc hlk hbx hls hft
              go_wp2_with fail
              refine HCK.out.mono ?_
              rintro e w5 ⟨rfl, hb5⟩
              have HX5 := Lib.hid (HX.out.trans (hb5.mono HX.out.size))
              clear hb5 b0 b1
              by_cases hfe : ft = ⟨#[]⟩
              · subst hfe
                have hrel := Lib.hid (hm.out.trans (firstK_skip HGT.out HFT.out))
                go_wp2_with fail
                go_roundw
                case rel => exact ⟨i + 1, HLT.out, hrel, by go_num, HP.out.trans (HX5.out.mono HP.out.size)⟩
                case measure => have := HLT.out; simp [intOf]; omega
              · have hf := Lib.hid (hm.out.trans ((firstK_take HGT.out (by rw [HFT.out]; exact hfe)).trans HFT.out))
                have t1 := toList_ne hfe
                have t2 : ft.toList.isEmpty = false := by
                  cases h : ft.toList with
                  | nil => exact absurd (h.trans (by rw [Lib.toList_data])) t1
                  | cons _ _ => rfl
                clear t1
                go_wp2_with fail
                go_ret
                exact ⟨HFIN.out _ hf.out, HB1.out.trans ((HPB.out.trans (HX5.out.mono hzp.out)).mono HB1.out.size)⟩
        · obtain rfl : i = keys.length := by omega
          have hf := Lib.hid (show clashN f L = ⟨#[]⟩ by rw [hm.out, List.drop_length]; rfl)
          clear hlt hbp
          go_wp2_with fail
          go_ret
          exact ⟨HFIN.out _ hf.out, HB1.out.trans (HPB.out.mono HB1.out.size)⟩
end Go.Proofs.YtceabbbmgfeofaaGreatDoor.Selss
