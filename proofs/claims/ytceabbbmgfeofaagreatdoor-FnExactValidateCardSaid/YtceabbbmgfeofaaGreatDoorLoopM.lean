/-
  Contracts: spec.l05Loops, Loops: which Frag comes first to spread itself; of what was there nothing is changed. Conditions: in memory.
-/
import Derived.Test.YtceabbbmgfeofaaGreatDoorRows
import Derived.Test.YtceabbbmgfeofaaGreatDoorRow
import Derived.Test.YtceabbbmgfeofaaGreatDoorWord
import Derived.Deep.AppendLies
import Derived.Deep.RegionLaw
import Derived.Lib.Strings
import Derived.Test.YtceabbbmgfeofaaGreatDoorLoopP
import Derived.Test.YtceabbbmgfeofaaGreatDoorDocB
import Derived.OwnWalk
import Derived.Deep.RegionWith
namespace Go.Proofs.YtceabbbmgfeofaaGreatDoor.Nm
open Go.RowKit Words
open Rw (OkS RowsAt TextLie TextsAt textLies lt_of_get cell_of add_plain)
set_option linter.unusedVariables false
set_option maxRecDepth 100000
theorem infoStr : (Tryz.prog.info? 9).map (fun i => (i.zero, i.size, i.bytes)) = some (some (.string ⟨#[]⟩), 1, 16) := by kernel_rfl
def OwnTs (w : World) (base : Nat) (v : Value) (l : List ByteArray) : Prop := w.ownsRow base 9 1 v l.length (l.map Value.string)
theorem OwnTs.nil (w : World) (base : Nat) : OwnTs w base (.slice none 0 0) [] := World.ownsRow_nil w base _ _
theorem OwnTs.frame {w w' : World} {base : Nat} {v : Value} {l : List ByteArray} (h : OwnTs w base v l) (g : ∀ c, base ≤ c → c < w.heap.size → w'.heap[c]? = w.heap[c]?) : OwnTs w' base v l := by
  obtain ⟨hl, ⟨hv, hn⟩ | ⟨gb, cap, cur, hv, hb, hg, hc, hm, hs, ht⟩⟩ := h
  · exact ⟨hl, .inl ⟨hv, hn⟩⟩
  · exact ⟨hl, .inr ⟨gb, cap, cur, hv, hb, (g gb hb (lt_of_get hg)).trans hg, hc, hm, hs, ht⟩⟩
theorem OwnTs.below {w w' : World} {base : Nat} {v : Value} {l : List ByteArray} (h : OwnTs w base v l) (g : Below w.heap.size w w') : OwnTs w' base v l := h.frame fun c _ hc => g.block c hc
theorem OwnTs.slice {w : World} {base : Nat} {v : Value} {l : List ByteArray} (h : OwnTs w base v l) : ∃ a cap, v = .slice a l.length cap := by
  obtain ⟨_, ⟨rfl, hn⟩ | ⟨g, cap, cur, rfl, _⟩⟩ := h
  · rw [hn]; exact ⟨none, 0, rfl⟩
  · exact ⟨_, _, rfl⟩
theorem OwnTs.at_ {w : World} {base : Nat} {v : Value} {l : List ByteArray} (h : OwnTs w base v l) (hok : ∀ x ∈ l, OkS x) (hL : l.length ≤ 9223372036854775807) : ∃ a cap, v = .slice a l.length cap ∧ l.length ≤ cap ∧ TextsAt w base w.heap.size a l.length l := by
  obtain ⟨hl, ⟨rfl, hn⟩ | ⟨gb, cap, cur, rfl, hb, hg, hc, hm, hs, ht⟩⟩ := h
  · obtain rfl : l = [] := List.eq_nil_of_length_eq_zero hn
    exact ⟨none, 0, rfl, Nat.le_refl _, rfl, by simp, .inl rfl⟩
  · have hlt := lt_of_get hg
    refine ⟨_, _, rfl, hc, rfl, hL, .inr ⟨gb, 0, rfl, hb, hlt, fun j y hj => ⟨hok y (List.mem_iff_getElem?.2 ⟨j, hj⟩), ?_⟩⟩⟩
    have hjl := (List.getElem?_eq_some_iff.1 hj).1
    have h1 : (l.map Value.string)[j]? = some (.string y) := by rw [List.getElem?_map, hj]; rfl
    rw [← ht, List.getElem?_take_of_lt (by omega)] at h1
    have h2 : cur[j]? = some (.string y) := by rw [← h1]; simp
    rw [Nat.zero_add, Nat.mul_one]; exact cell_of hg h2
section
variable {w : World} {ops : Array Oper} {o : Oper} {a : Act}
theorem app_text {rest : List Oper} {Q : Exit → Act → World → Prop} (hgd : o.guard = none) (s x : Operand)
    (ho : o.op = .call { callee := .builtin .append, args := #[s, x], argTypes := #[40, 40] })
    (base : Nat) (v : Value) (l : List ByteArray) (hs : a.eval s = v) (hown : OwnTs w base v l)
    (B c : Nat) (hx : a.eval x = .slice (some ⟨B, 0, none⟩) 1 c) (y : ByteArray) (hc : w.cell? ⟨B, 0, none⟩ = some (.string y))
    (hsize : l.length + 1 ≤ 1048576) (hbase : base ≤ w.heap.size)
    (h : ∀ a' cap w', OwnTs w' base (.slice a' (l.length + 1) cap) (l ++ [y]) → Below base w w' → (∀ c, c < w.heap.size → some c ≠ v.ownBlock → w'.heap[c]? = w.heap[c]?) → wpList Tryz.prog ops Q rest (a.put o.dst (.slice a' (l.length + 1) cap)) w') : wpList Tryz.prog ops Q (o :: rest) a w := by
  obtain ⟨i0, hi, hz0, hz1, hz2⟩ := info_parts infoStr
  refine wpList_append_lies w hgd s x 40 ho base 9 i0 _ 1 16 Tryz.underlying40 hi hz0 hz1 hz2 rfl (by decide) v l.length (l.map Value.string) hs hown ⟨B, 0, none⟩ 1 c [.string y] hx rfl
    (fun j u hj => by
      have e : j = 0 := by have := (List.getElem?_eq_some_iff.1 hj).1; simp at this; exact this
      subst e; cases hj
      rw [add_plain]; exact hc) (fun u hu => ?_) (by omega) (by unfold maxLen; omega) (by omega) hbase _ rfl ?_
  · simp at hu; subst hu; rfl
  · intro g cap w' hown' hgrow _ _
    exact h _ cap w' (by unfold OwnTs; rw [List.length_append, List.map_append]; exact hown') ((Below.refl base w).grown hgrow hbase (fun k hk => (World.ownsRow.lt hown k hk).1)) hgrow.block
theorem step_app_text {K : Act → World → Prop} {Q : Exit → Act → World → Prop} {E : Prop} (hgd : o.guard = none) (s x : Operand)
    (ho : o.op = .call { callee := .builtin .append, args := #[s, x], argTypes := #[40, 40] })
    (base : Nat) (v : Value) (l : List ByteArray) (hs : a.eval s = v) (hown : OwnTs w base v l)
    (B c : Nat) (hx : a.eval x = .slice (some ⟨B, 0, none⟩) 1 c) (y : ByteArray) (hc : w.cell? ⟨B, 0, none⟩ = some (.string y))
    (hsize : l.length + 1 ≤ 1048576) (hbase : base ≤ w.heap.size)
    (h : ∀ a' cap w', OwnTs w' base (.slice a' (l.length + 1) cap) (l ++ [y]) → Below base w w' → (∀ c, c < w.heap.size → some c ≠ v.ownBlock → w'.heap[c]? = w.heap[c]?) → K (a.put o.dst (.slice a' (l.length + 1) cap)) w') : if Region.wanted o (yielded ops a.tmps) = true then Oper.wp Tryz.prog o a w K Q else E := by
  obtain ⟨i0, hi, hz0, hz1, hz2⟩ := info_parts infoStr
  refine step_append_lies w hgd s x 40 ho base 9 i0 _ 1 16 Tryz.underlying40 hi hz0 hz1 hz2 rfl (by decide) v l.length (l.map Value.string) hs hown ⟨B, 0, none⟩ 1 c [.string y] hx rfl
    (fun j u hj => by
      have e : j = 0 := by have := (List.getElem?_eq_some_iff.1 hj).1; simp at this; exact this
      subst e; cases hj
      rw [add_plain]; exact hc) (fun u hu => ?_) (by omega) (by unfold maxLen; omega) (by omega) hbase _ rfl ?_
  · simp at hu; subst hu; rfl
  · intro g cap w' hown' hgrow _ _
    exact h _ cap w' (by unfold OwnTs; rw [List.length_append, List.map_append]; exact hown') ((Below.refl base w).grown hgrow hbase (fun k hk => (World.ownsRow.lt hown k hk).1)) hgrow.block
end
/-- Whether a text is among others. -/
def inN (nm : ByteArray) : List ByteArray → Bool
  | [] => false
  | x :: l => if x = nm then true else inN nm l
theorem inN_mem {nm : ByteArray} : ∀ {l : List ByteArray}, inN nm l = true ↔ nm ∈ l
  | [] => by simp [inN]
  | x :: l => by
    unfold inN; split
    · rename_i h; subst h; simp
    · rename_i h
      rw [inN_mem, List.mem_cons]
      exact ⟨.inr, fun k => k.elim (fun e => absurd e.symm h) id⟩
theorem inN_not {nm : ByteArray} {l : List ByteArray} : inN nm l = false ↔ nm ∉ l := by
  rw [← inN_mem]; simp
theorem inN_hit {nm : ByteArray} {l : List ByteArray} {i : Nat} {x : ByteArray} (h : l[i]? = some x) (hx : x = nm) : inN nm (l.drop i) = true := by
  obtain ⟨hl, rfl⟩ := List.getElem?_eq_some_iff.1 h
  rw [List.drop_eq_getElem_cons hl, inN, if_pos hx]
theorem inN_miss {nm : ByteArray} {l : List ByteArray} {i : Nat} {x : ByteArray} (h : l[i]? = some x) (hx : x ≠ nm) : inN nm (l.drop i) = inN nm (l.drop (i + 1)) := by
  obtain ⟨hl, rfl⟩ := List.getElem?_eq_some_iff.1 h
  rw [List.drop_eq_getElem_cons hl, inN, if_neg hx]
theorem toList_ne {a b : ByteArray} (h : a ≠ b) : a.toList ≠ b.toList := fun e => h (by
  rw [Lib.toList_data, Lib.toList_data] at e
  exact ByteArray.ext (Array.toList_inj.1 e))
theorem toList_beq {a b : ByteArray} (h : a ≠ b) : (a.toList == b.toList) = false := by
  rw [beq_eq_false_iff_ne]; exact toList_ne h
theorem specIn (w : World) (A B : Nat) (a : Option Addr) (len cap : Nat) (l : List ByteArray) (nm : ByteArray) (hn : OkS nm) (hs : TextsAt w A B a len l) (hB : B ≤ w.heap.size) :
    Calls Tryz.prog 108 #[.slice a len cap, .string nm] w fun e w' => e = .returned (.bool (inN nm l)) ∧ Below w.heap.size w w' := by
  have hlen := hs.2.1
  have HS := Lib.hid hs
  obtain ⟨hll, _⟩ := hs
  subst hll
  go_enter Tryz.func108, Tryz.ntmps108
  go_wp2_with fail
  go_loopw [5] (fun i wr => ∃ (i' : Nat), i' ≤ l.length ∧ Hid (inN nm l = inN nm (l.drop i')) ∧ i = .int .i64 i' ∧ Below w.heap.size w wr) (fun i _ => l.length - (intOf i).toNat)
  case atStart => exact ⟨0, by omega, Lib.hid (by rw [List.drop_zero]), rfl, Below.refl _ _⟩
  case round =>
    obtain ⟨i, hi, hm, rfl, hb⟩ := hrel
    have HB := Lib.hid hb
    by_cases hlt : i < l.length
    · have hli : (i : Int) < (l.length : Int) := by omega
      obtain ⟨x, b, off, hd, rfl, hA, hbb, hok, hc⟩ := (HS.out.below textLies (Nat.le_refl _) (hb.mono hB)).at hlt
      rw [Nat.mul_one] at hc
      by_cases hx : x = nm
      · have hf := Lib.hid (hm.out.trans (inN_hit hd hx))
        clear hlt hd hb hok
        go_wp2_with fail
        go_ret
        exact ⟨ret_bool hf.out.symm, HB.out⟩
      · have hn1 := toList_ne hx
        have hn2 := toList_beq hx
        have hrel := Lib.hid (hm.out.trans (inN_miss hd hx))
        clear hlt hd hb hok
        go_wp2_with fail
        go_roundw
        case rel => exact ⟨i + 1, by omega, hrel, by go_num, HB.out⟩
        case measure => simp [intOf]; omega
    · obtain rfl : i = l.length := by omega
      have hf : Hid (inN nm l = false) := Lib.hid (by rw [hm.out, List.drop_length]; rfl)
      clear hlt hb
      go_wp2_with fail
      go_ret
      exact ⟨ret_bool hf.out.symm, HB.out⟩
end Go.Proofs.YtceabbbmgfeofaaGreatDoor.Nm
namespace Go.Proofs.YtceabbbmgfeofaaGreatDoor.Selss
open Go.RowKit Words
set_option linter.unusedVariables false
set_option maxRecDepth 100000
theorem Lie.sprOk {w : World} {A B : Nat} : ∀ {s : Sels} {b off : Nat}, Lie w A B s b off → ∀ n, n ∈ s.spr → OkS n
  | .nil, _, _, _, n, hn => by simp [Sels.spr] at hn
  | .cons k key nm f u r, b, off, ⟨⟨_, _, hk, _⟩, _, _, _, _, _, ⟨a, cap, _, _, hu⟩, hr⟩, n, hn => by
    simp only [Sels.spr, List.mem_append] at hn
    rcases hn with hn | hn | hn
    · split at hn
      · simp at hn; subst hn; exact hk
      · simp at hn
    · rcases hu with rfl | ⟨c, o, _, _, h⟩
      · simp [Sels.spr] at hn
      · exact Lie.sprOk h n hn
    · exact Lie.sprOk hr n hn
theorem SelsAt.sprOk {w : World} {A B len : Nat} {a : Option Addr} {s : Sels} (h : SelsAt w A B a len s) : ∀ n, n ∈ s.spr → OkS n := by
  rcases h.2.2 with rfl | ⟨b, off, _, _, hl⟩
  · intro n hn; simp [Sels.spr] at hn
  · exact hl.sprOk
theorem FragsAt.sprOk {w : World} {A B len : Nat} {a : Option Addr} {l : List FragP} (h : FragsAt w A B a len l) : ∀ x, x ∈ l → OkS x.name ∧ ∀ n, n ∈ x.sels.spr → OkS n := by
  intro x hx
  obtain ⟨i, hi⟩ := List.mem_iff_getElem?.1 hx
  obtain ⟨y, b, off, a', cap', hy, _, _, hok, _, hs⟩ := h.at (i := i) (by have := (List.getElem?_eq_some_iff.1 hi).1; rw [← h.1]; exact this)
  rw [hi] at hy; cases hy
  exact ⟨hok.1, hs.sprOk⟩
theorem sprOf_ok {w : World} {A B len : Nat} {a : Option Addr} {l : List FragP} (h : FragsAt w A B a len l) (nm : ByteArray) : ∀ n, n ∈ sprOf l nm → OkS n := by
  intro n hn
  obtain ⟨x, hx, hn⟩ := List.mem_flatMap.1 (sprOf_sub hn)
  exact (h.sprOk x hx).2 n hn
theorem Reach.ok {w : World} {A B len : Nat} {a : Option Addr} {l : List FragP} {s0 : List ByteArray} (h : FragsAt w A B a len l) (h0 : ∀ n, n ∈ s0 → OkS n) {n : ByteArray} (hr : Reach l s0 n) : OkS n :=
  hr.closed h0 fun m _ n hn => sprOf_ok h m n hn
theorem Sels.all_more {i : Nat} {s : Sels} {k : Int} {key nm : ByteArray} {f : Int} {u r : Sels} (h : s.drop i = .cons k key nm f u r) : (s.drop i).all = u.all + (s.drop (i + 1)).all + 1 := by
  rw [Sels.drop_succ i s h, h]; rfl
theorem spr_step {out cur : List ByteArray} {i : Nat} {s : Sels} {k : Int} {key nm : ByteArray} {f : Int} {u r : Sels} (hm : addS out s.spr = addS cur (s.drop i).spr) (h : s.drop i = .cons k key nm f u r) {cur1 : List ByteArray} (h1 : cur1 = addS cur (if k = 3 then [nm] else [])) : addS out s.spr = addS (addS cur1 u.spr) (s.drop (i + 1)).spr := by
  rw [hm, Sels.spr_drop h, addS_append, addS_append, h1]
theorem spr_len {cur cur1 : List ByteArray} {i : Nat} {s : Sels} {k : Int} {key nm : ByteArray} {f : Int} {u r : Sels} {N : Nat} (h : s.drop i = .cons k key nm f u r) (h1 : cur1.length ≤ cur.length + 1) (hl : cur.length + (s.drop i).all ≤ N) : cur1.length + u.all ≤ N ∧ (addS cur1 u.spr).length + (s.drop (i + 1)).all ≤ N := by
  have e1 := Sels.all_more h
  have e2 := addS_len u.spr cur1
  have e3 := Sels.spr_len u
  omega
set_option maxHeartbeats 1000000 in
theorem specSpreads : ∀ (n : Nat) (s : Sels), s.all < n → ∀ (w : World) (A B : Nat) (a : Option Addr) (cap base : Nat) (v : Value) (out : List ByteArray), SelsAt w A B a s.len s → B ≤ base → base ≤ w.heap.size → Nm.OwnTs w base v out → (∀ x, x ∈ out → OkS x) → out.length + s.all ≤ 1000000 →
    Calls Tryz.prog 96 #[.slice a s.len cap, v] w fun e w' => (∃ v', e = .returned v' ∧ Nm.OwnTs w' base v' (addS out s.spr)) ∧ Below base w w' := by
  intro n
  induction n with
  | zero => intro s h; omega
  | succ n ih =>
    intro s hall w A B a cap base v out hs hB hbase hown hok hlen
    have hsl := hs.2.1
    have IH := Lib.hid ih
    have HS := Lib.hid hs
    have HO := Lib.hid hown
    have HOK := Lib.hid hok
    have HN := Lib.hid hlen
    obtain ⟨av, cv, rfl⟩ := hown.slice
    clear ih hs hown hok hlen
    go_enter Tryz.func96, Tryz.ntmps96
    go_wp2_with fail
    go_loopw [1, 5] (fun v i wr => ∃ (i' : Nat) (cur : List ByteArray) (av : Option Addr) (cv : Nat), i' ≤ s.len ∧ Hid (addS out s.spr = addS cur (s.drop i').spr) ∧ v = .slice av cur.length cv ∧ i = .int .i64 i' ∧ Hid (Nm.OwnTs wr base (.slice av cur.length cv) cur) ∧ Hid (∀ x, x ∈ cur → OkS x) ∧ Hid (cur.length + (s.drop i').all ≤ 1000000) ∧ Below base w wr) (fun _ i _ => s.len - (intOf i).toNat)
    case atStart => exact ⟨0, out, av, cv, by omega, Lib.hid (by rw [Sels.drop_zero]), rfl, rfl, HO, HOK, Lib.hid (by rw [Sels.drop_zero]; exact HN.out), Below.refl _ _⟩
    case round =>
      obtain ⟨i, cur, av, cv, hi, hm, rfl, rfl, HO, HOK, HN, hb⟩ := hrel
      have HB := Lib.hid hb
      by_cases hlt : i < s.len
      · have hli : (i : Int) < (s.len : Int) := by omega
        obtain ⟨k, key, nm, f, u, r, b, off, a', cap', hd, rfl, hbb, hok, ⟨hc0, hc1, hc2, hc3, hc4⟩, hu⟩ := (HS.out.below hB hb).at hlt
        have hua : u.all < n := by have := Sels.all_drop hd; omega
        have HD := Lib.hid hd
        have HU := Lib.hid hu
        have hnk := hok.2.2.1
        have HNK := Lib.hid hnk
        have hzb : base ≤ wr.heap.size := Nat.le_trans hbase hb.size
        have CR : Hid (∀ (w' : World) (v1 : Value) (cur1 : List ByteArray), Below base wr w' → Nm.OwnTs w' base v1 cur1 → (∀ x, x ∈ cur1 → OkS x) → cur1.length + u.all ≤ 1000000 → Calls Tryz.prog 96 #[.slice a' u.len cap', v1] w' fun e w'' => (∃ v', e = .returned v' ∧ Nm.OwnTs w'' base v' (addS cur1 u.spr)) ∧ Below base w' w'') :=
          Lib.hid fun w' v1 cur1 h h1 h2 h3 => IH.out u hua w' A B a' cap' base v1 cur1 (HU.out.below hB h) hB (Nat.le_trans hzb h.size) h1 h2 h3
        have CI : Hid (∀ w', Below wr.heap.size wr w' → Calls Tryz.prog 108 #[.slice av cur.length cv, .string nm] w' fun e w'' => e = .returned (.bool (Nm.inN nm cur)) ∧ Below w'.heap.size w' w'') := Lib.hid fun w' h => by
          obtain ⟨a9, c9, he, _, ht⟩ := (HO.out.below h).at_ HOK.out (by have := HN.out; omega)
          cases he
          exact Nm.specIn w' base w'.heap.size av cur.length cv cur nm HNK.out ht (Nat.le_refl _)
        have HOA : Hid (∀ o, Nm.OwnTs (wr.alloc o) base (.slice av cur.length cv) cur) := Lib.hid fun o => HO.out.below ((Below.refl _ _).alloc (Nat.le_refl _) o)
        have HBA : Hid (∀ o, Below base w (wr.alloc o)) := Lib.hid fun o => HB.out.alloc hzb o
        have hbB : b < base := by omega
        have K2 : Hid (∀ X, Below base wr X → X.cell? ⟨b, off + i * 5 + 2, none⟩ = some (.string nm)) := Lib.hid fun X h => (h.cell (p := ⟨b, off + i * 5 + 2, none⟩) hbB).trans hc2
        have K4 : Hid (∀ X, Below base wr X → X.cell? ⟨b, off + i * 5 + 4, none⟩ = some (.slice a' u.len cap')) := Lib.hid fun X h => (h.cell (p := ⟨b, off + i * 5 + 4, none⟩) hbB).trans hc4
        have HZB := Lib.hid hzb
        clear hlt hd hb hu hok hbB hzb
        by_cases hk : k = 3
        · subst hk
          obtain ⟨p, hp⟩ : ∃ p, Nm.inN nm cur = p := ⟨_, rfl⟩
          have HP := Lib.hid hp
          rw [hp] at CI
          clear hp
          cases p
          · have h1 : Hid (cur ++ [nm] = addS cur (if (3 : Int) = 3 then [nm] else [])) := Lib.hid (by
              rw [if_pos rfl, addS_one]; unfold addN; rw [if_neg (Nm.inN_not.1 HP.out)])
            have HN1 := Lib.hid (spr_len (cur1 := cur ++ [nm]) HD.out (by simp) HN.out)
            have hrel := Lib.hid (spr_step hm.out HD.out h1.out)
            have HOK1 : Hid (∀ x, x ∈ cur ++ [nm] → OkS x) := Lib.hid fun x hx => by
              rcases List.mem_append.1 hx with h | h
              · exact HOK.out x h
              · simp at h; subst h; exact HNK.out
            go_wp2_with (first
              | (go_at_call 108; refine (CI.out _ (Below.refl _ _)).mono ?_; rintro e w1 ⟨rfl, hb1⟩; have HX1 := Lib.hid (hb1.mono HZB.out); have HB1 := Lib.hid (HB.out.trans HX1.out); have hz1 := Lib.hid (Nat.le_trans HZB.out hb1.size); have HO1 := Lib.hid (HO.out.below hb1); have d2 := K2.out _ HX1.out; have d4 := K4.out _ HX1.out; clear hb1)
              | (at_builtin; refine Nm.app_text rfl _ _ rfl base (.slice av cur.length cv) cur rfl (HO1.out.below  ((Below.refl _ _).alloc (Nat.le_refl _) _)) w1.heap.size 1 rfl nm (by simp) (by have := HN.out; omega) (by have := hz1.out; simp; omega) ?_; intro a3 cap3 w3 hown3 hb3 _; have HO3 := Lib.hid hown3; have HX3 := Lib.hid ((HX1.out.alloc hz1.out _).trans hb3); have HB3 := Lib.hid (HB.out.trans HX3.out); have e4 := K4.out _ HX3.out; clear hb3 hown3))
            refine (CR.out _ _ (cur ++ [nm]) HX3.out HO3.out HOK1.out HN1.out.1).mono ?_
            rintro e w9 ⟨⟨v9, rfl, ho9⟩, hb9⟩
            have HB9 := Lib.hid (HB3.out.trans hb9)
            obtain ⟨a9, c9, rfl⟩ := ho9.slice
            have HO9 := Lib.hid ho9
            clear hb9 ho9
            go_wp2_with fail
            go_roundw
            case rel => exact ⟨i + 1, addS (cur ++ [nm]) u.spr, a9, c9, by omega, hrel, rfl, by go_num, HO9, Lib.hid (fun x hx => (mem_addS.1 hx).elim (HOK1.out x) (HU.out.sprOk x)), Lib.hid HN1.out.2, HB9.out⟩
            case measure => simp [intOf]; omega
          · have h1 : Hid (cur = addS cur (if (3 : Int) = 3 then [nm] else [])) := Lib.hid (by
              rw [if_pos rfl, addS_one]; unfold addN; rw [if_pos (Nm.inN_mem.1 HP.out)])
            have HN1 := Lib.hid (spr_len (cur1 := cur) HD.out (by omega) HN.out)
            have hrel := Lib.hid (spr_step hm.out HD.out h1.out)
            go_wp2_with (first
              | (go_at_call 108; refine (CI.out _ (Below.refl _ _)).mono ?_; rintro e w1 ⟨rfl, hb1⟩; have HX1 := Lib.hid (hb1.mono HZB.out); have HB1 := Lib.hid (HB.out.trans HX1.out); have hz1 := Lib.hid (Nat.le_trans HZB.out hb1.size); have HO1 := Lib.hid (HO.out.below hb1); have d2 := K2.out _ HX1.out; have d4 := K4.out _ HX1.out; clear hb1))
            refine (CR.out _ _ (cur) HX1.out HO1.out HOK.out HN1.out.1).mono ?_
            rintro e w9 ⟨⟨v9, rfl, ho9⟩, hb9⟩
            have HB9 := Lib.hid (HB1.out.trans hb9)
            obtain ⟨a9, c9, rfl⟩ := ho9.slice
            have HO9 := Lib.hid ho9
            clear hb9 ho9
            go_wp2_with fail
            go_roundw
            case rel => exact ⟨i + 1, addS (cur) u.spr, a9, c9, by omega, hrel, rfl, by go_num, HO9, Lib.hid (fun x hx => (mem_addS.1 hx).elim (HOK.out x) (HU.out.sprOk x)), Lib.hid HN1.out.2, HB9.out⟩
            case measure => simp [intOf]; omega
        · have h1 : Hid (cur = addS cur (if k = 3 then [nm] else [])) := Lib.hid (by rw [if_neg hk]; rfl)
          have HN1 := Lib.hid (spr_len (cur1 := cur) HD.out (by omega) HN.out)
          have hrel := Lib.hid (spr_step hm.out HD.out h1.out)
          have hkb : (k == 3) = false := by rw [beq_eq_false_iff_ne]; exact hk
          go_wp2_with fail
          refine (CR.out _ _ cur (Below.refl _ _) HO.out HOK.out HN1.out.1).mono ?_
          rintro e w2 ⟨⟨v2, rfl, ho2⟩, hb2⟩
          have HB2 := Lib.hid (HB.out.trans hb2)
          obtain ⟨a2, c2, rfl⟩ := ho2.slice
          have HO2 := Lib.hid ho2
          clear hb2 ho2
          go_wp2_with fail
          go_roundw
          case rel => exact ⟨i + 1, addS cur u.spr, a2, c2, by omega, hrel, rfl, by go_num, HO2, Lib.hid (fun x hx => (mem_addS.1 hx).elim (HOK.out x) (HU.out.sprOk x)), Lib.hid HN1.out.2, HB2.out⟩
          case measure => simp [intOf]; omega
      · obtain rfl : i = s.len := by omega
        have hf := Lib.hid (show addS out s.spr = cur by rw [hm.out, Sels.drop_end (Nat.le_refl _)]; rfl)
        clear hlt hb
        go_wp2_with fail
        go_ret
        exact ⟨⟨_, rfl, by rw [hf.out]; exact HO.out⟩, HB.out⟩
theorem findN_lt {nm : ByteArray} : ∀ {l : List FragP} {k : Nat}, findN nm l k < (k : Int) + l.length ∧ (findN nm l k = -1 ∨ (k : Int) ≤ findN nm l k)
  | [], k => ⟨by simp only [findN, List.length_nil]; omega, .inl rfl⟩
  | x :: l, k => by
    have h := findN_lt (nm := nm) (l := l) (k := k + 1)
    unfold findN; split
    · simp only [List.length_cons]; omega
    · simp only [List.length_cons]; omega
theorem findN_none {nm : ByteArray} : ∀ {l : List FragP} {k : Nat}, findN nm l k = -1 → fragIn nm l = none
  | [], k, _ => rfl
  | x :: l, k, h => by
    unfold findN at h
    unfold fragIn
    split at h
    · omega
    · rename_i hx; rw [if_neg hx]; exact findN_none h
theorem findN_some {nm : ByteArray} : ∀ {l : List FragP} {k i : Nat} {x : FragP}, findN nm l k = ((k + i : Nat) : Int) → l[i]? = some x → fragIn nm l = some x
  | [], k, i, x, h, hx => by simp at hx
  | y :: l, k, i, x, h, hx => by
    unfold findN at h
    unfold fragIn
    split at h
    · rename_i hy
      have e : i = 0 := by omega
      subst e; cases hx
      rw [if_pos hy]
    · rename_i hy
      rw [if_neg hy]
      cases i with
      | zero =>
        have := (findN_lt (nm := nm) (l := l) (k := k + 1)).2
        omega
      | succ i =>
        exact findN_some (k := k + 1) (i := i) (by rw [h]; congr 1; omega) (by simpa using hx)
theorem sprOf_none {nm : ByteArray} {l : List FragP} (h : findN nm l 0 = -1) : sprOf l nm = [] := by unfold sprOf; rw [findN_none h]
theorem sprOf_some {nm : ByteArray} {l : List FragP} {i : Nat} {x : FragP} (h : findN nm l 0 = (i : Int)) (hx : l[i]? = some x) : sprOf l nm = x.sels.spr := by
  unfold sprOf; rw [findN_some (k := 0) (i := i) (by rw [h]; simp) hx]
theorem ret_s {a b : ByteArray} (h : a = b) : Ending.returned (.string a) = .returned (.string b) := by rw [h]
theorem flat_len : ∀ l : List FragP, (l.flatMap fun x => x.sels.spr).length ≤ fragAll l
  | [] => Nat.le_refl _
  | x :: l => by
    have h1 := flat_len l
    have h2 := Sels.spr_len x.sels
    rw [List.flatMap_cons, List.length_append]; simp only [fragAll]; omega
theorem fragAll_mem {x : FragP} : ∀ {l : List FragP} {i : Nat}, l[i]? = some x → x.sels.all ≤ fragAll l
  | y :: l, 0, h => by cases h; simp only [fragAll]; omega
  | y :: l, i + 1, h => by have := fragAll_mem (l := l) (i := i) (by simpa using h); simp only [fragAll]; omega
theorem allN_le {l : List FragP} {x : FragP} {i : Nat} (h : l[i]? = some x) (hl : fragAll l ≤ 60) : (allN l x.sels.spr).length ≤ 120 := by
  have h1 := flat_len l
  have h2 := Sels.spr_len x.sels
  have h3 := fragAll_mem h
  rw [allN_len]; omega
theorem frags_below {w w' : World} {A B len : Nat} {a : Option Addr} {l : List FragP} {C : Nat} (h : FragsAt w A B a len l) (hB : B ≤ C) (g : Below C w w') : FragsAt w' A B a len l := h.below hB g
set_option maxHeartbeats 4000000 in
theorem specL05Loops (w : World) (A B : Nat) (v : Value) (d : DocP) (hs : DocAt w A B v d) (hB : B ≤ w.heap.size) (hall : fragAll d.frags ≤ 60) :
    Calls Tryz.prog 55 #[v] w fun e w' => e = .returned (.string (loopN d.frags d.frags)) ∧ Below w.heap.size w w' := by
  have HDC := Lib.hid hs
  obtain ⟨a, ca, b, cb, rfl, _, hf, _⟩ := hs
  have HF := Lib.hid hf
  have HA : Hid (∀ o, Below w.heap.size w (w.alloc o)) := Lib.hid fun o => (Below.refl _ _).alloc (Nat.le_refl _) o
  have hlen := hf.2.1
  have HALL := Lib.hid hall
  clear hf hall
  go_enter Tryz.func55, Tryz.ntmps55
  go_wp2_with fail
  have k0 : (w.alloc (.cells #[.slice a d.sels.len ca, .slice b d.frags.length cb] 29)).cell? ⟨w.heap.size, 0, none⟩ = some (.slice a d.sels.len ca) := by simp
  have k1 : (w.alloc (.cells #[.slice a d.sels.len ca, .slice b d.frags.length cb] 29)).cell? ⟨w.heap.size, 1, none⟩ = some (.slice b d.frags.length cb) := by simp
  go_loopw [3] (fun i wr => ∃ (i' : Nat), i' ≤ d.frags.length ∧ Hid (loopN d.frags d.frags = loopN d.frags (d.frags.drop i')) ∧ i = .int .i64 i' ∧ wr.cell? ⟨w.heap.size, 0, none⟩ = some (.slice a d.sels.len ca) ∧ wr.cell? ⟨w.heap.size, 1, none⟩ = some (.slice b d.frags.length cb) ∧ w.heap.size + 1 ≤ wr.heap.size ∧ Below w.heap.size w wr) (fun i _ => d.frags.length - (intOf i).toNat)
  case atStart => exact ⟨0, by omega, Lib.hid (by rw [List.drop_zero]), rfl, k0, k1, by simp, HA.out _⟩
  case round =>
    obtain ⟨i, hi, hm, rfl, hk0, hk1, hz, hb⟩ := hrel
    have HB := Lib.hid hb
    obtain ⟨wo, hwo⟩ : ∃ wo, wo = wr := ⟨_, rfl⟩
    subst hwo
    clear k0 k1
    by_cases hlt : i < d.frags.length
    · have hli : (i : Int) < (d.frags.length : Int) := by omega
      obtain ⟨x, fb, off, a', cap', hd, rfl, hbb, hok, ⟨hc0, hc1, hc2⟩, hu⟩ := (HF.out.below (Nat.le_refl _) (hb.mono hB)).at hlt
      have HZ := Lib.hid hz
      have HD := Lib.hid hd
      have HU := Lib.hid hu
      have HOK := Lib.hid hok
      have hfb : fb < w.heap.size + 1 := by omega
      have HFB := Lib.hid hfb
      have KB : Hid (∀ X, Below (w.heap.size + 1) wo X → (X.cell? ⟨w.heap.size, 0, none⟩ = some (.slice a d.sels.len ca) ∧ X.cell? ⟨w.heap.size, 1, none⟩ = some (.slice (some ⟨fb, off, none⟩) d.frags.length cb)) ∧ X.cell? ⟨fb, off + i * 3, none⟩ = some (.string x.name) ∧ X.cell? ⟨fb, off + i * 3 + 2, none⟩ = some (.slice a' x.sels.len cap')) :=
        Lib.hid fun X h => ⟨⟨(h.cell (p := ⟨w.heap.size, 0, none⟩) (Nat.lt_succ_self _)).trans hk0, (h.cell (p := ⟨w.heap.size, 1, none⟩) (Nat.lt_succ_self _)).trans hk1⟩, (h.cell (p := ⟨fb, off + i * 3, none⟩) HFB.out).trans hc0, (h.cell (p := ⟨fb, off + i * 3 + 2, none⟩) HFB.out).trans hc2⟩
      have HSO := Lib.hid hu.sprOk
      have HN := Lib.hid (allN_le hd HALL.out)
      have HXA := Lib.hid (fragAll_mem hd)
      have CS : Hid (∀ (w' : World) (v1 : Value) (cur : List ByteArray), Below (w.heap.size + 1) wo w' → Nm.OwnTs w' (w.heap.size + 1) v1 cur → (∀ x, x ∈ cur → OkS x) → cur.length ≤ 120 → Calls Tryz.prog 96 #[.slice a' x.sels.len cap', v1] w' fun e w'' => (∃ v', e = .returned v' ∧ Nm.OwnTs w'' (w.heap.size + 1) v' (addS cur x.sels.spr)) ∧ Below (w.heap.size + 1) w' w'') :=
        Lib.hid fun w' v1 cur h h1 h2 h3 => specSpreads (x.sels.all + 1) x.sels (Nat.lt_succ_self _) w' A B a' cap' (w.heap.size + 1) v1 cur (HU.out.below (Nat.le_succ_of_le hB) h) (Nat.le_succ_of_le hB) (Nat.le_trans HZ.out h.size) h1 h2 (by have := HXA.out; have := HALL.out; omega)
      have HWA : Hid (∀ o, Below (w.heap.size + 1) wo (wo.alloc o)) := Lib.hid fun o => (Below.refl _ _).alloc HZ.out o
      have HOE : Hid (Nm.OwnTs (wo.alloc (.cells #[] 9)) (w.heap.size + 1) (.slice (some ⟨wo.heap.size, 0, none⟩) 0 0) []) := Lib.hid (World.ownsRow_made wo #[] 0 HZ.out (by decide) rfl)
      clear hlt hd hb hu hok hfb
      go_wp2_with fail
      refine (CS.out _ _ [] (HWA.out _) HOE.out (by simp) (by simp)).mono ?_
      rintro e w2 ⟨⟨v2, rfl, ho2⟩, hb2⟩
      obtain ⟨a2, c2, rfl⟩ := ho2.slice
      have HO2 := Lib.hid ho2
      have HX2 := Lib.hid ((HWA.out _).trans hb2)
      have HWS := Lib.hid (WorkM.start d.frags x.sels.spr)
      clear hb2 ho2 hk0 hk1 hc0 hc1 hc2
      go_wp2_with fail
      go_loopw [4, 5] (fun v q wx => ∃ (k' : Nat) (inn : List ByteArray) (ai : Option Addr) (ci : Nat), k' ≤ inn.length ∧ v = .slice ai inn.length ci ∧ q = .int .i64 k' ∧ Hid (WorkM d.frags x.sels.spr inn k') ∧ Hid (Nm.OwnTs wx (w.heap.size + 1) (.slice ai inn.length ci) inn) ∧ Below (w.heap.size + 1) wo wx) (fun _ q _ => (allN d.frags x.sels.spr).length - (intOf q).toNat)
      case atStart => exact ⟨0, addS [] x.sels.spr, a2, c2, by omega, rfl, rfl, HWS, HO2, HX2.out⟩
      case round =>
        obtain ⟨k, inn, ai, ci, hki, rfl, rfl, HW, HI, hbx⟩ := hrel
        have HX := Lib.hid hbx
        have hwn := Lib.hid (Nat.le_trans HZ.out hbx.size)
        have HBX := Lib.hid (HB.out.trans (hbx.mono (Nat.le_succ _)))
        have HIN : Hid (∀ y, y ∈ inn → OkS y) := Lib.hid fun y hy => (HW.out.reach y hy).ok HF.out HSO.out
        have hle := HW.out.len
        have HLE := Lib.hid hle
        have h120 := HN.out
        by_cases hlk : k < inn.length
        · have hli2 : (k : Int) < (inn.length : Int) := by omega
          obtain ⟨a9, c9, he, hcc, ht⟩ := HI.out.at_ HIN.out (by omega)
          cases he
          obtain ⟨m, gb, go, hgm, rfl, hgA, hgB, hmok, hmc⟩ := ht.at hlk
          rw [Nat.mul_one] at hmc
          obtain ⟨⟨b0, b1⟩, b2, b3⟩ := KB.out _ hbx
          have HGM := Lib.hid hgm
          have HLK := Lib.hid hlk
          have hk120 : (k : Int) ≤ 120 := by omega
          have CF : Hid (∀ w', Below wr.heap.size wr w' → Calls Tryz.prog 97 #[.agg #[.slice a d.sels.len ca, .slice (some ⟨fb, off, none⟩) d.frags.length cb], .string m] w' fun e w'' => e = .returned (.int .i64 (findN m d.frags 0)) ∧ Below w'.heap.size w' w'') := Lib.hid fun w' h =>
            specFrag w' A B _ d m hmok ((HDC.out.below hB HBX.out).below (Nat.le_trans hB HBX.out.size) h) (Nat.le_trans hB (Nat.le_trans HBX.out.size h.size))
          have e0 : wr.drew.cell? ⟨w.heap.size, 0, none⟩ = _ := b0
          have e1 : wr.drew.cell? ⟨w.heap.size, 1, none⟩ = _ := b1
          have e4 : wr.drew.cell? ⟨gb, go + k, none⟩ = _ := hmc
          have HD3 : Hid (Below wr.heap.size wr wr.drew) := Lib.hid ((Below.refl _ _).drew)
          obtain ⟨fn, hfn⟩ : ∃ fn, findN m d.frags 0 = fn := ⟨_, rfl⟩
          have HFN := Lib.hid hfn
          rw [hfn] at CF
          clear hfn
          clear hlk ht hmok hbx hcc hgm hle
          go_wp2_with fail
          go_region_with (go_at_call 97; refine (CF.out _ HD3.out).mono ?_; rintro e w3 ⟨rfl, hb3⟩)
          all_goals
            have HX3 := Lib.hid ((HX.out.drew).trans (hb3.mono hwn.out))
            have HI3 := Lib.hid (Nm.OwnTs.below (w := wr.drew) HI.out hb3)
            clear hb3 b0 b1 b2 b3 e0 e1 e4 hmc
            obtain ⟨⟨b0, b1⟩, b2, b3⟩ := KB.out _ HX3.out
            have hwn3 := Lib.hid (Nat.le_trans HZ.out HX3.out.size)
            rcases (findN_lt (nm := m) (l := d.frags) (k := 0)).2 with hneg | hpos
            · obtain rfl : fn = -1 := by rw [← HFN.out]; exact hneg
              have hsp := sprOf_none hneg
              have HW3 : Hid (WorkM d.frags x.sels.spr inn (k + 1)) := Lib.hid (by have := HW.out.next HGM.out; rw [hsp] at this; exact this)
              clear hneg hsp
              go_wp2_with fail
              go_roundw
              case rel => exact ⟨k + 1, inn, _, _, by have := HLK.out; omega, rfl, by go_num, HW3, HI3, HX3.out⟩
              case measure => have e1 := HLK.out; have e2 := HLE.out; simp [intOf]; omega
            · obtain ⟨j, rfl⟩ : ∃ j : Nat, fn = (j : Int) := ⟨fn.toNat, by rw [HFN.out] at hpos; omega⟩
              have hj : j < d.frags.length := by have := (findN_lt (nm := m) (l := d.frags) (k := 0)).1; rw [HFN.out] at this; omega
              have hjl : (j : Int) < (d.frags.length : Int) := by omega
              have hj0 : 0 ≤ (j : Int) := by omega
              obtain ⟨y, yb, yo, ya, ycap, hyd, hye, hybb, hyok, ⟨hy0, hy1, hy2⟩, hyu⟩ := (HF.out.below (Nat.le_refl _) ((HB.out.trans (HX3.out.mono (Nat.le_succ _))).mono hB)).at hj
              cases hye
              have hsp := sprOf_some HFN.out hyd
              have HW3 : Hid (WorkM d.frags x.sels.spr (addS inn y.sels.spr) (k + 1)) := Lib.hid (by have := HW.out.next HGM.out; rw [hsp] at this; exact this)
              have HYA := Lib.hid (fragAll_mem hyd)
              have CY : Hid (Calls Tryz.prog 96 #[.slice ya y.sels.len ycap, .slice (some ⟨gb, go, none⟩) inn.length ci] w3 fun e w'' => (∃ v', e = .returned v' ∧ Nm.OwnTs w'' (w.heap.size + 1) v' (addS inn y.sels.spr)) ∧ Below (w.heap.size + 1) w3 w'') :=
                Lib.hid (specSpreads (y.sels.all + 1) y.sels (Nat.lt_succ_self _) w3 A B ya ycap (w.heap.size + 1) _ inn hyu (Nat.le_succ_of_le hB) hwn3.out HI3.out HIN.out (by have e1 := HYA.out; have e2 := HALL.out; have e3 := HLE.out; omega))
              clear hpos hj hyd hyok hy0 hy1 hyu hsp
              go_wp2_with fail
              refine CY.out.mono ?_
              rintro e w4 ⟨⟨v4, rfl, ho4⟩, hb4⟩
              obtain ⟨a4, c4, rfl⟩ := ho4.slice
              have HO4 := Lib.hid ho4
              have HX4 := Lib.hid (HX3.out.trans hb4)
              have hln : (addS inn y.sels.spr).length ≥ inn.length := by obtain ⟨t, ht⟩ := addS_prefix y.sels.spr inn; rw [ht, List.length_append]; omega
              clear hb4 ho4
              go_wp2_with fail
              go_roundw
              case rel => exact ⟨k + 1, addS inn y.sels.spr, a4, c4, by have := HLK.out; omega, rfl, by go_num, HW3, HO4, HX4.out⟩
              case measure => have e1 := HLK.out; have e2 := HLE.out; simp [intOf]; omega
        · obtain rfl : k = inn.length := by omega
          obtain ⟨a9, c9, he, hcc, ht⟩ := HI.out.at_ HIN.out (by omega)
          cases he
          have HT := Lib.hid ht
          obtain ⟨⟨b0, b1⟩, b2, b3⟩ := KB.out _ hbx
          have hrb : Hid (reachB d.frags x.sels.spr x.name = Nm.inN x.name inn) := Lib.hid (reachB_of (Nm.inN_mem.trans HW.out.end_))
          have CI : Hid (∀ w', Below wr.heap.size wr w' → Calls Tryz.prog 108 #[.slice ai inn.length ci, .string x.name] w' fun e w'' => e = .returned (.bool (Nm.inN x.name inn)) ∧ Below w'.heap.size w' w'') := Lib.hid fun w' h =>
            Nm.specIn w' (w.heap.size + 1) wr.heap.size ai inn.length ci inn x.name HOK.out.1 (HT.out.below Rw.textLies (Nat.le_refl _) h) h.size
          generalize Nm.inN x.name inn = p at *
          clear hlk ht hbx hcc hle
          cases p
          · have hrel := Lib.hid (hm.out.trans (loopN_miss HD.out hrb.out))
            go_wp2_with (go_at_call 108; refine (CI.out _ (Below.refl _ _)).mono ?_; rintro e w3 ⟨rfl, hb3⟩; have HX3 := Lib.hid (HX.out.trans (hb3.mono hwn.out)); clear hb3)
            obtain ⟨⟨d0, d1⟩, d2, d3⟩ := KB.out _ HX3.out
            go_roundw
            case rel => exact ⟨i + 1, by omega, hrel, by go_num, d0, d1, Nat.le_trans HZ.out HX3.out.size, HB.out.trans (HX3.out.mono (Nat.le_succ _))⟩
            case measure => simp [intOf]; omega
          · have hf := Lib.hid (hm.out.trans (loopN_hit HD.out hrb.out))
            go_wp2_with (go_at_call 108; refine (CI.out _ (Below.refl _ _)).mono ?_; rintro e w3 ⟨rfl, hb3⟩; have HX3 := Lib.hid (HX.out.trans (hb3.mono hwn.out)); have ⟨⟨d0, d1⟩, d2, d3⟩ := KB.out _ HX3.out; clear hb3)
            go_ret
            exact ⟨ret_s hf.out.symm, HB.out.trans (HX3.out.mono (Nat.le_succ _))⟩
    · obtain rfl : i = d.frags.length := by omega
      have hf : Hid (loopN d.frags d.frags = ⟨#[]⟩) := Lib.hid (by rw [hm.out, List.drop_length]; rfl)
      clear hlt hb
      go_wp2_with fail
      go_ret
      exact ⟨ret_s hf.out.symm, HB.out⟩
end Go.Proofs.YtceabbbmgfeofaaGreatDoor.Selss
