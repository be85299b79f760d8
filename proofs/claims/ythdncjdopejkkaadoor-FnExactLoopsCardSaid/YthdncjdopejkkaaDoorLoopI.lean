/-
  Contracts: impl.addSpreads, fragNamed; spec.Loops; of what was there nothing is changed. Conditions: in memory.
-/
import Derived.Test.YthdncjdopejkkaaDoorRows
import Derived.Test.YthdncjdopejkkaaDoorLoopM
namespace Go.Proofs.YthdncjdopejkkaaDoor.Selss
open Go.RowKit Words
set_option linter.unusedVariables false
set_option maxRecDepth 100000

/-- Which Frag comes first to spread itself in a right Doc. -/
noncomputable def loopsD (d : DocP) : ByteArray := if docB d = true then loopN d.frags d.frags else ⟨#[]⟩
theorem docB_all {d : DocP} (h : docB d = true) : fragAll d.frags ≤ 60 := by
  unfold docB at h
  simp only [Bool.and_eq_true, decide_eq_true_eq] at h
  have := h.1.1.2
  unfold DocP.all at this; omega

theorem two_new (w : World) (o1 o2 : Obj) : ((w.alloc o1).alloc o2).heap[w.heap.size]? = some o1 := by
  rw [Go.Deep.blk_alloc_lt _ _ _ (by simp)]; exact Go.Deep.blk_alloc_new _ _
theorem app_step {out cur : List ByteArray} {i : Nat} {s : Sels} {k : Int} {key nm : ByteArray} {f : Int} {u r : Sels} (hm : out ++ s.spr = cur ++ (s.drop i).spr) (h : s.drop i = .cons k key nm f u r) {cur1 : List ByteArray} (h1 : cur1 = cur ++ (if k = 3 then [nm] else [])) : out ++ s.spr = (cur1 ++ u.spr) ++ (s.drop (i + 1)).spr := by
  rw [hm, Sels.spr_drop h, h1]; simp
theorem app_len {cur cur1 : List ByteArray} {i : Nat} {s : Sels} {k : Int} {key nm : ByteArray} {f : Int} {u r : Sels} {N : Nat} (h : s.drop i = .cons k key nm f u r) (h1 : cur1.length ≤ cur.length + 1) (hl : cur.length + (s.drop i).all ≤ N) : cur1.length + u.all ≤ N ∧ (cur1 ++ u.spr).length + (s.drop (i + 1)).all ≤ N := by
  have e1 := Sels.all_more h
  have e3 := Sels.spr_len u
  rw [List.length_append]; omega
set_option maxHeartbeats 1000000 in
theorem implAddSpreads : ∀ (n : Nat) (s : Sels), s.all < n → ∀ (w : World) (A B : Nat) (a : Option Addr) (cap base : Nat) (v : Value) (out : List ByteArray), SelsAt w A B a s.len s → B ≤ base → base ≤ w.heap.size → Nm.OwnTs w base v out → (∀ x, x ∈ out → OkS x) → out.length + s.all ≤ 1000000 →
    Calls Tryd.prog 56 #[v, .slice a s.len cap] w fun e w' => (∃ v', e = .returned v' ∧ Nm.OwnTs w' base v' (out ++ s.spr)) ∧ Below base w w' := by
  intro n
  induction n with
  | zero => intro s h; omega
  | succ n ih =>
    intro s hall w A B a cap base v out hs hB hbase hown hok hlen
    have hsl := hs.2.1
    have IH := Lib.hid ih
    have HS := Lib.hid hs
    have HO := Lib.hid hown
    have HOK := Lib.hid hok
    have HN := Lib.hid hlen
    obtain ⟨av, cv, rfl⟩ := hown.slice
    clear ih hs hown hok hlen
    go_enter Tryd.func56, Tryd.ntmps56
    go_wp2_with fail
    go_loopw [0, 9] (fun v i wr => ∃ (i' : Nat) (cur : List ByteArray) (av : Option Addr) (cv : Nat), i' ≤ s.len ∧ Hid (out ++ s.spr = cur ++ (s.drop i').spr) ∧ v = .slice av cur.length cv ∧ i = .int .i64 i' ∧ Hid (Nm.OwnTs wr base (.slice av cur.length cv) cur) ∧ Hid (∀ x, x ∈ cur → OkS x) ∧ Hid (cur.length + (s.drop i').all ≤ 1000000) ∧ Below base w wr) (fun _ i _ => s.len - (intOf i).toNat)
    case atStart => exact ⟨0, out, av, cv, by omega, Lib.hid (by rw [Sels.drop_zero]), rfl, rfl, HO, HOK, Lib.hid (by rw [Sels.drop_zero]; exact HN.out), Below.refl _ _⟩
    case round =>
      obtain ⟨i, cur, av, cv, hi, hm, rfl, rfl, HO, HOK, HN, hb⟩ := hrel
      have HB := Lib.hid hb
      by_cases hlt : i < s.len
      · have hli : (i : Int) < (s.len : Int) := by omega
        obtain ⟨k, key, nm, f, u, r, b, off, a', cap', hd, rfl, hbb, hok, ⟨hc0, hc1, hc2, hc3, hc4⟩, hu⟩ := (HS.out.below hB hb).at hlt
        have hua : u.all < n := by have := Sels.all_drop hd; omega
        have HD := Lib.hid hd
        have HU := Lib.hid hu
        have hnk := hok.2.2.1
        have HNK := Lib.hid hnk
        have hzb : base ≤ wr.heap.size := Nat.le_trans hbase hb.size
        have HZB := Lib.hid hzb
        have CR : Hid (∀ (w' : World) (v1 : Value) (cur1 : List ByteArray), Below base wr w' → Nm.OwnTs w' base v1 cur1 → (∀ x, x ∈ cur1 → OkS x) → cur1.length + u.all ≤ 1000000 → Calls Tryd.prog 56 #[v1, .slice a' u.len cap'] w' fun e w'' => (∃ v', e = .returned v' ∧ Nm.OwnTs w'' base v' (cur1 ++ u.spr)) ∧ Below base w' w'') :=
          Lib.hid fun w' v1 cur1 h h1 h2 h3 => IH.out u hua w' A B a' cap' base v1 cur1 (HU.out.below hB h) hB (Nat.le_trans HZB.out h.size) h1 h2 h3
        have hbw : b < wr.heap.size := by omega
        have HX1 : Hid (Below base wr (wr.alloc (.cells #[.int .i64 k, .string key, .string nm, .int .i64 f, .slice a' u.len cap'] 66))) := Lib.hid ((Below.refl _ _).alloc hzb _)
        have HO1 : Hid (Nm.OwnTs (wr.alloc (.cells #[.int .i64 k, .string key, .string nm, .int .i64 f, .slice a' u.len cap'] 66)) base (.slice av cur.length cv) cur) := Lib.hid (HO.out.below ((Below.refl _ _).alloc (Nat.le_refl _) _))
        have HNE : Hid (some wr.heap.size ≠ (Value.slice av cur.length cv).ownBlock) := Lib.hid fun e => Nat.lt_irrefl _ (World.ownsRow.lt HO.out _ e.symm).2
        clear hlt hd hb hu hok hzb
        by_cases hk : k = 3
        · subst hk
          have h1 : Hid (cur ++ [nm] = cur ++ (if (3 : Int) = 3 then [nm] else [])) := Lib.hid (by rw [if_pos rfl])
          have HN1 := Lib.hid (app_len (cur1 := cur ++ [nm]) HD.out (by simp) HN.out)
          have hrel := Lib.hid (app_step hm.out HD.out h1.out)
          have HOK1 : Hid (∀ x, x ∈ cur ++ [nm] → OkS x) := Lib.hid fun x hx => by
            rcases List.mem_append.1 hx with h | h
            · exact HOK.out x h
            · simp at h; subst h; exact HNK.out
          go_wp2_with (at_builtin; refine Nm.app_text rfl _ _ rfl base (.slice av cur.length cv) cur rfl (HO1.out.below ((Below.refl _ _).alloc (Nat.le_refl _) _)) (wr.heap.size + 1) 1 rfl nm (by simp) (by have := HN.out; omega) (by have := HZB.out; simp; omega) ?_; intro a3 cap3 w3 hown3 hb3 hf3; have HO3 := Lib.hid hown3; have HX3 := Lib.hid ((HX1.out.alloc (by have := HZB.out; simp; omega) _).trans hb3); have HB3 := Lib.hid (HB.out.trans HX3.out); have hs3 := (hf3 wr.heap.size (by simp; omega) HNE.out).trans (two_new wr _ _); have ⟨⟨s0, s1, s2, s3, s4⟩, _⟩ := keep5 hs3; clear hb3 hf3 hown3)
          refine (CR.out _ _ (cur ++ [nm]) HX3.out HO3.out HOK1.out HN1.out.1).mono ?_
          rintro e w9 ⟨⟨v9, rfl, ho9⟩, hb9⟩
          have HB9 := Lib.hid (HB3.out.trans hb9)
          obtain ⟨a9, c9, rfl⟩ := ho9.slice
          have HO9 := Lib.hid ho9
          clear hb9 ho9 hs3 s0 s1 s2 s3 s4
          go_wp2_with fail
          go_roundw
          case rel => exact ⟨i + 1, cur ++ [nm] ++ u.spr, a9, c9, by omega, hrel, by simp, by go_num, HO9, Lib.hid (fun x hx => (List.mem_append.1 hx).elim (HOK1.out x) (HU.out.sprOk x)), Lib.hid HN1.out.2, HB9.out⟩
          case measure => simp [intOf]; omega
        · have h1 : Hid (cur = cur ++ (if k = 3 then [nm] else [])) := Lib.hid (by rw [if_neg hk, List.append_nil])
          have HN1 := Lib.hid (app_len (cur1 := cur) HD.out (by omega) HN.out)
          have hrel := Lib.hid (app_step hm.out HD.out h1.out)
          have hkb : (k == 3) = false := by rw [beq_eq_false_iff_ne]; exact hk
          go_wp2_with fail
          refine (CR.out _ _ cur HX1.out HO1.out HOK.out HN1.out.1).mono ?_
          rintro e w9 ⟨⟨v9, rfl, ho9⟩, hb9⟩
          have HB9 := Lib.hid (HB.out.trans (HX1.out.trans hb9))
          obtain ⟨a9, c9, rfl⟩ := ho9.slice
          have HO9 := Lib.hid ho9
          clear hb9 ho9
          go_wp2_with fail
          go_roundw
          case rel => exact ⟨i + 1, cur ++ u.spr, a9, c9, by omega, hrel, by simp, by go_num, HO9, Lib.hid (fun x hx => (List.mem_append.1 hx).elim (HOK.out x) (HU.out.sprOk x)), Lib.hid HN1.out.2, HB9.out⟩
          case measure => simp [intOf]; omega
      · obtain rfl : i = s.len := by omega
        have hf := Lib.hid (show out ++ s.spr = cur by rw [hm.out, Sels.drop_end (Nat.le_refl _)]; simp [Sels.spr])
        clear hlt hb
        go_wp2_with fail
        go_ret
        exact ⟨⟨_, rfl, by rw [hf.out]; exact HO.out⟩, HB.out⟩
end Go.Proofs.YthdncjdopejkkaaDoor.Selss
