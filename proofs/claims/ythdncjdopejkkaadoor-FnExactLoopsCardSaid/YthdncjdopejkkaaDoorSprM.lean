/-
  Contracts: spec.l05Spreads, l05Loops, Loops: what names selections spread, and which Frag comes to spread itself; of what was there nothing is changed. Conditions: in memory.
-/
import Derived.Test.YthdncjdopejkkaaDoorRows
import Derived.Test.YthdncjdopejkkaaDoorLoopP
import Derived.Test.YthdncjdopejkkaaDoorOwnT
import Derived.Test.YthdncjdopejkkaaDoorDocB
import Derived.OwnWalk
namespace Go.Proofs.YthdncjdopejkkaaDoor.Selss
open Go.RowKit Words
set_option linter.unusedVariables false
set_option maxRecDepth 100000

theorem Lie.sprOk {w : World} {A B : Nat} : ∀ {s : Sels} {b off : Nat}, Lie w A B s b off → ∀ n, n ∈ s.spr → OkS n
  | .nil, _, _, _, n, hn => by simp [Sels.spr] at hn
  | .cons k key nm f u r, b, off, ⟨⟨_, _, hk, _⟩, _, _, _, _, _, ⟨a, cap, _, _, hu⟩, hr⟩, n, hn => by
    simp only [Sels.spr, List.mem_append] at hn
    rcases hn with hn | hn | hn
    · split at hn
      · simp at hn; subst hn; exact hk
      · simp at hn
    · rcases hu with rfl | ⟨c, o, _, _, h⟩
      · simp [Sels.spr] at hn
      · exact Lie.sprOk h n hn
    · exact Lie.sprOk hr n hn
theorem SelsAt.sprOk {w : World} {A B len : Nat} {a : Option Addr} {s : Sels} (h : SelsAt w A B a len s) : ∀ n, n ∈ s.spr → OkS n := by
  rcases h.2.2 with rfl | ⟨b, off, _, _, hl⟩
  · intro n hn; simp [Sels.spr] at hn
  · exact hl.sprOk
theorem FragsAt.sprOk {w : World} {A B len : Nat} {a : Option Addr} {l : List FragP} (h : FragsAt w A B a len l) : ∀ x, x ∈ l → OkS x.name ∧ ∀ n, n ∈ x.sels.spr → OkS n := by
  intro x hx
  obtain ⟨i, hi⟩ := List.mem_iff_getElem?.1 hx
  obtain ⟨y, b, off, a', cap', hy, _, _, hok, _, hs⟩ := h.at (i := i) (by have := (List.getElem?_eq_some_iff.1 hi).1; rw [← h.1]; exact this)
  rw [hi] at hy; cases hy
  exact ⟨hok.1, hs.sprOk⟩
theorem sprOf_ok {w : World} {A B len : Nat} {a : Option Addr} {l : List FragP} (h : FragsAt w A B a len l) (nm : ByteArray) : ∀ n, n ∈ sprOf l nm → OkS n := by
  intro n hn
  obtain ⟨x, hx, hn⟩ := List.mem_flatMap.1 (sprOf_sub hn)
  exact (h.sprOk x hx).2 n hn
theorem Reach.ok {w : World} {A B len : Nat} {a : Option Addr} {l : List FragP} {s0 : List ByteArray} (h : FragsAt w A B a len l) (h0 : ∀ n, n ∈ s0 → OkS n) {n : ByteArray} (hr : Reach l s0 n) : OkS n :=
  hr.closed h0 fun m _ n hn => sprOf_ok h m n hn
theorem Sels.all_more {i : Nat} {s : Sels} {k : Int} {key nm : ByteArray} {f : Int} {u r : Sels} (h : s.drop i = .cons k key nm f u r) : (s.drop i).all = u.all + (s.drop (i + 1)).all + 1 := by
  rw [Sels.drop_succ i s h, h]; rfl

theorem spr_step {out cur : List ByteArray} {i : Nat} {s : Sels} {k : Int} {key nm : ByteArray} {f : Int} {u r : Sels} (hm : addS out s.spr = addS cur (s.drop i).spr) (h : s.drop i = .cons k key nm f u r) {cur1 : List ByteArray} (h1 : cur1 = addS cur (if k = 3 then [nm] else [])) : addS out s.spr = addS (addS cur1 u.spr) (s.drop (i + 1)).spr := by
  rw [hm, Sels.spr_drop h, addS_append, addS_append, h1]
theorem spr_len {cur cur1 : List ByteArray} {i : Nat} {s : Sels} {k : Int} {key nm : ByteArray} {f : Int} {u r : Sels} {N : Nat} (h : s.drop i = .cons k key nm f u r) (h1 : cur1.length ≤ cur.length + 1) (hl : cur.length + (s.drop i).all ≤ N) : cur1.length + u.all ≤ N ∧ (addS cur1 u.spr).length + (s.drop (i + 1)).all ≤ N := by
  have e1 := Sels.all_more h
  have e2 := addS_len u.spr cur1
  have e3 := Sels.spr_len u
  omega

set_option maxHeartbeats 1000000 in
theorem specSpreads : ∀ (n : Nat) (s : Sels), s.all < n → ∀ (w : World) (A B : Nat) (a : Option Addr) (cap base : Nat) (v : Value) (out : List ByteArray), SelsAt w A B a s.len s → B ≤ base → base ≤ w.heap.size → Nm.OwnTs w base v out → (∀ x, x ∈ out → OkS x) → out.length + s.all ≤ 1000000 →
    Calls Tryd.prog 31 #[.slice a s.len cap, v] w fun e w' => (∃ v', e = .returned v' ∧ Nm.OwnTs w' base v' (addS out s.spr)) ∧ Below base w w' := by
  intro n
  induction n with
  | zero => intro s h; omega
  | succ n ih =>
    intro s hall w A B a cap base v out hs hB hbase hown hok hlen
    have hsl := hs.2.1
    have IH := Lib.hid ih
    have HS := Lib.hid hs
    have HO := Lib.hid hown
    have HOK := Lib.hid hok
    have HN := Lib.hid hlen
    obtain ⟨av, cv, rfl⟩ := hown.slice
    clear ih hs hown hok hlen
    go_enter Tryd.func31, Tryd.ntmps31
    go_wp2_with fail
    go_loopw [1, 5] (fun v i wr => ∃ (i' : Nat) (cur : List ByteArray) (av : Option Addr) (cv : Nat), i' ≤ s.len ∧ Hid (addS out s.spr = addS cur (s.drop i').spr) ∧ v = .slice av cur.length cv ∧ i = .int .i64 i' ∧ Hid (Nm.OwnTs wr base (.slice av cur.length cv) cur) ∧ Hid (∀ x, x ∈ cur → OkS x) ∧ Hid (cur.length + (s.drop i').all ≤ 1000000) ∧ Below base w wr) (fun _ i _ => s.len - (intOf i).toNat)
    case atStart => exact ⟨0, out, av, cv, by omega, Lib.hid (by rw [Sels.drop_zero]), rfl, rfl, HO, HOK, Lib.hid (by rw [Sels.drop_zero]; exact HN.out), Below.refl _ _⟩
    case round =>
      obtain ⟨i, cur, av, cv, hi, hm, rfl, rfl, HO, HOK, HN, hb⟩ := hrel
      have HB := Lib.hid hb
      by_cases hlt : i < s.len
      · have hli : (i : Int) < (s.len : Int) := by omega
        obtain ⟨k, key, nm, f, u, r, b, off, a', cap', hd, rfl, hbb, hok, ⟨hc0, hc1, hc2, hc3, hc4⟩, hu⟩ := (HS.out.below hB hb).at hlt
        have hua : u.all < n := by have := Sels.all_drop hd; omega
        have HD := Lib.hid hd
        have HU := Lib.hid hu
        have hnk := hok.2.2.1
        have HNK := Lib.hid hnk
        have hzb : base ≤ wr.heap.size := Nat.le_trans hbase hb.size
        have CR : Hid (∀ (w' : World) (v1 : Value) (cur1 : List ByteArray), Below base wr w' → Nm.OwnTs w' base v1 cur1 → (∀ x, x ∈ cur1 → OkS x) → cur1.length + u.all ≤ 1000000 → Calls Tryd.prog 31 #[.slice a' u.len cap', v1] w' fun e w'' => (∃ v', e = .returned v' ∧ Nm.OwnTs w'' base v' (addS cur1 u.spr)) ∧ Below base w' w'') :=
          Lib.hid fun w' v1 cur1 h h1 h2 h3 => IH.out u hua w' A B a' cap' base v1 cur1 (HU.out.below hB h) hB (Nat.le_trans hzb h.size) h1 h2 h3
        have CI : Hid (∀ w', Below wr.heap.size wr w' → Calls Tryd.prog 32 #[.slice av cur.length cv, .string nm] w' fun e w'' => e = .returned (.bool (Nm.inN nm cur)) ∧ Below w'.heap.size w' w'') := Lib.hid fun w' h => by
          obtain ⟨a9, c9, he, _, ht⟩ := (HO.out.below h).at_ HOK.out (by have := HN.out; omega)
          cases he
          exact Nm.specIn w' base w'.heap.size av cur.length cv cur nm HNK.out ht (Nat.le_refl _)
        have HOA : Hid (∀ o, Nm.OwnTs (wr.alloc o) base (.slice av cur.length cv) cur) := Lib.hid fun o => HO.out.below ((Below.refl _ _).alloc (Nat.le_refl _) o)
        have HBA : Hid (∀ o, Below base w (wr.alloc o)) := Lib.hid fun o => HB.out.alloc hzb o
        have hbB : b < base := by omega
        have K2 : Hid (∀ X, Below base wr X → X.cell? ⟨b, off + i * 5 + 2, none⟩ = some (.string nm)) := Lib.hid fun X h => (h.cell (p := ⟨b, off + i * 5 + 2, none⟩) hbB).trans hc2
        have K4 : Hid (∀ X, Below base wr X → X.cell? ⟨b, off + i * 5 + 4, none⟩ = some (.slice a' u.len cap')) := Lib.hid fun X h => (h.cell (p := ⟨b, off + i * 5 + 4, none⟩) hbB).trans hc4
        have HZB := Lib.hid hzb
        clear hlt hd hb hu hok hbB hzb
        by_cases hk : k = 3
        · subst hk
          obtain ⟨p, hp⟩ : ∃ p, Nm.inN nm cur = p := ⟨_, rfl⟩
          have HP := Lib.hid hp
          rw [hp] at CI
          clear hp
          cases p
          · have h1 : Hid (cur ++ [nm] = addS cur (if (3 : Int) = 3 then [nm] else [])) := Lib.hid (by
              rw [if_pos rfl, addS_one]; unfold addN; rw [if_neg (Nm.inN_not.1 HP.out)])
            have HN1 := Lib.hid (spr_len (cur1 := cur ++ [nm]) HD.out (by simp) HN.out)
            have hrel := Lib.hid (spr_step hm.out HD.out h1.out)
            have HOK1 : Hid (∀ x, x ∈ cur ++ [nm] → OkS x) := Lib.hid fun x hx => by
              rcases List.mem_append.1 hx with h | h
              · exact HOK.out x h
              · simp at h; subst h; exact HNK.out
            go_wp2_with (first
              | (go_at_call 32; refine (CI.out _ (Below.refl _ _)).mono ?_; rintro e w1 ⟨rfl, hb1⟩; have HX1 := Lib.hid (hb1.mono HZB.out); have HB1 := Lib.hid (HB.out.trans HX1.out); have hz1 := Lib.hid (Nat.le_trans HZB.out hb1.size); have HO1 := Lib.hid (HO.out.below hb1); have d2 := K2.out _ HX1.out; have d4 := K4.out _ HX1.out; clear hb1)
              | (at_builtin; refine Nm.app_text rfl _ _ rfl base (.slice av cur.length cv) cur rfl (HO1.out.below  ((Below.refl _ _).alloc (Nat.le_refl _) _)) w1.heap.size 1 rfl nm (by simp) (by have := HN.out; omega) (by have := hz1.out; simp; omega) ?_; intro a3 cap3 w3 hown3 hb3 _; have HO3 := Lib.hid hown3; have HX3 := Lib.hid ((HX1.out.alloc hz1.out _).trans hb3); have HB3 := Lib.hid (HB.out.trans HX3.out); have e4 := K4.out _ HX3.out; clear hb3 hown3))
            refine (CR.out _ _ (cur ++ [nm]) HX3.out HO3.out HOK1.out HN1.out.1).mono ?_
            rintro e w9 ⟨⟨v9, rfl, ho9⟩, hb9⟩
            have HB9 := Lib.hid (HB3.out.trans hb9)
            obtain ⟨a9, c9, rfl⟩ := ho9.slice
            have HO9 := Lib.hid ho9
            clear hb9 ho9
            go_wp2_with fail
            go_roundw
            case rel => exact ⟨i + 1, addS (cur ++ [nm]) u.spr, a9, c9, by omega, hrel, rfl, by go_num, HO9, Lib.hid (fun x hx => (mem_addS.1 hx).elim (HOK1.out x) (HU.out.sprOk x)), Lib.hid HN1.out.2, HB9.out⟩
            case measure => simp [intOf]; omega
          · have h1 : Hid (cur = addS cur (if (3 : Int) = 3 then [nm] else [])) := Lib.hid (by
              rw [if_pos rfl, addS_one]; unfold addN; rw [if_pos (Nm.inN_mem.1 HP.out)])
            have HN1 := Lib.hid (spr_len (cur1 := cur) HD.out (by omega) HN.out)
            have hrel := Lib.hid (spr_step hm.out HD.out h1.out)
            go_wp2_with (first
              | (go_at_call 32; refine (CI.out _ (Below.refl _ _)).mono ?_; rintro e w1 ⟨rfl, hb1⟩; have HX1 := Lib.hid (hb1.mono HZB.out); have HB1 := Lib.hid (HB.out.trans HX1.out); have hz1 := Lib.hid (Nat.le_trans HZB.out hb1.size); have HO1 := Lib.hid (HO.out.below hb1); have d2 := K2.out _ HX1.out; have d4 := K4.out _ HX1.out; clear hb1))
            refine (CR.out _ _ (cur) HX1.out HO1.out HOK.out HN1.out.1).mono ?_
            rintro e w9 ⟨⟨v9, rfl, ho9⟩, hb9⟩
            have HB9 := Lib.hid (HB1.out.trans hb9)
            obtain ⟨a9, c9, rfl⟩ := ho9.slice
            have HO9 := Lib.hid ho9
            clear hb9 ho9
            go_wp2_with fail
            go_roundw
            case rel => exact ⟨i + 1, addS (cur) u.spr, a9, c9, by omega, hrel, rfl, by go_num, HO9, Lib.hid (fun x hx => (mem_addS.1 hx).elim (HOK.out x) (HU.out.sprOk x)), Lib.hid HN1.out.2, HB9.out⟩
            case measure => simp [intOf]; omega
        · have h1 : Hid (cur = addS cur (if k = 3 then [nm] else [])) := Lib.hid (by rw [if_neg hk]; rfl)
          have HN1 := Lib.hid (spr_len (cur1 := cur) HD.out (by omega) HN.out)
          have hrel := Lib.hid (spr_step hm.out HD.out h1.out)
          have hkb : (k == 3) = false := by rw [beq_eq_false_iff_ne]; exact hk
          go_wp2_with fail
          refine (CR.out _ _ cur (Below.refl _ _) HO.out HOK.out HN1.out.1).mono ?_
          rintro e w2 ⟨⟨v2, rfl, ho2⟩, hb2⟩
          have HB2 := Lib.hid (HB.out.trans hb2)
          obtain ⟨a2, c2, rfl⟩ := ho2.slice
          have HO2 := Lib.hid ho2
          clear hb2 ho2
          go_wp2_with fail
          go_roundw
          case rel => exact ⟨i + 1, addS cur u.spr, a2, c2, by omega, hrel, rfl, by go_num, HO2, Lib.hid (fun x hx => (mem_addS.1 hx).elim (HOK.out x) (HU.out.sprOk x)), Lib.hid HN1.out.2, HB2.out⟩
          case measure => simp [intOf]; omega
      · obtain rfl : i = s.len := by omega
        have hf := Lib.hid (show addS out s.spr = cur by rw [hm.out, Sels.drop_end (Nat.le_refl _)]; rfl)
        clear hlt hb
        go_wp2_with fail
        go_ret
        exact ⟨⟨_, rfl, by rw [hf.out]; exact HO.out⟩, HB.out⟩
end Go.Proofs.YthdncjdopejkkaaDoor.Selss
