/-
  Contracts: impl.fragNamed tells the first Frag of a name, impl.reached the names that a Frag reaches; of what was there nothing is changed. Conditions: in memory.
-/
import Derived.Test.YtceabbbmgfeofaaGreatDoorRows
import Derived.Test.YtceabbbmgfeofaaGreatDoorLoopM
import Derived.Maps.Own
import Derived.Maps.OwnOps
import Derived.Maps.OwnSet
import Derived.Maps.Views
import Derived.Carry
namespace Go.Proofs.YtceabbbmgfeofaaGreatDoor.Selss
open Go.RowKit Words
set_option linter.unusedVariables false
set_option maxRecDepth 100000
/-- Which Frag comes first to spread itself in a right Doc. -/
noncomputable def loopsD (d : DocP) : ByteArray := if docB d = true then loopN d.frags d.frags else ⟨#[]⟩
theorem docB_all {d : DocP} (h : docB d = true) : fragAll d.frags ≤ 60 := by
  unfold docB at h
  simp only [Bool.and_eq_true, decide_eq_true_eq] at h
  have := h.1.1.2
  unfold DocP.all at this; omega
theorem two_new (w : World) (o1 o2 : Obj) : ((w.alloc o1).alloc o2).heap[w.heap.size]? = some o1 := by
  rw [Go.Deep.blk_alloc_lt _ _ _ (by simp)]; exact Go.Deep.blk_alloc_new _ _
theorem app_step {out cur : List ByteArray} {i : Nat} {s : Sels} {k : Int} {key nm : ByteArray} {f : Int} {u r : Sels} (hm : out ++ s.spr = cur ++ (s.drop i).spr) (h : s.drop i = .cons k key nm f u r) {cur1 : List ByteArray} (h1 : cur1 = cur ++ (if k = 3 then [nm] else [])) : out ++ s.spr = (cur1 ++ u.spr) ++ (s.drop (i + 1)).spr := by
  rw [hm, Sels.spr_drop h, h1]; simp
theorem app_len {cur cur1 : List ByteArray} {i : Nat} {s : Sels} {k : Int} {key nm : ByteArray} {f : Int} {u r : Sels} {N : Nat} (h : s.drop i = .cons k key nm f u r) (h1 : cur1.length ≤ cur.length + 1) (hl : cur.length + (s.drop i).all ≤ N) : cur1.length + u.all ≤ N ∧ (cur1 ++ u.spr).length + (s.drop (i + 1)).all ≤ N := by
  have e1 := Sels.all_more h
  have e3 := Sels.spr_len u
  rw [List.length_append]; omega
set_option maxHeartbeats 1000000 in
theorem implAddSpreads : ∀ (n : Nat) (s : Sels), s.all < n → ∀ (w : World) (A B : Nat) (a : Option Addr) (cap base : Nat) (v : Value) (out : List ByteArray), SelsAt w A B a s.len s → B ≤ base → base ≤ w.heap.size → Nm.OwnTs w base v out → (∀ x, x ∈ out → OkS x) → out.length + s.all ≤ 1000000 →
    Calls Tryz.prog 137 #[v, .slice a s.len cap] w fun e w' => (∃ v', e = .returned v' ∧ Nm.OwnTs w' base v' (out ++ s.spr)) ∧ Below base w w' := by
  intro n
  induction n with
  | zero => intro s h; omega
  | succ n ih =>
    intro s hall w A B a cap base v out hs hB hbase hown hok hlen
    have hsl := hs.2.1
    have IH := Lib.hid ih
    have HS := Lib.hid hs
    have HO := Lib.hid hown
    have HOK := Lib.hid hok
    have HN := Lib.hid hlen
    obtain ⟨av, cv, rfl⟩ := hown.slice
    clear ih hs hown hok hlen
    go_enter Tryz.func137, Tryz.ntmps137
    go_wp2_with fail
    go_loopw [0, 9] (fun v i wr => ∃ (i' : Nat) (cur : List ByteArray) (av : Option Addr) (cv : Nat), i' ≤ s.len ∧ Hid (out ++ s.spr = cur ++ (s.drop i').spr) ∧ v = .slice av cur.length cv ∧ i = .int .i64 i' ∧ Hid (Nm.OwnTs wr base (.slice av cur.length cv) cur) ∧ Hid (∀ x, x ∈ cur → OkS x) ∧ Hid (cur.length + (s.drop i').all ≤ 1000000) ∧ Below base w wr) (fun _ i _ => s.len - (intOf i).toNat)
    case atStart => exact ⟨0, out, av, cv, by omega, Lib.hid (by rw [Sels.drop_zero]), rfl, rfl, HO, HOK, Lib.hid (by rw [Sels.drop_zero]; exact HN.out), Below.refl _ _⟩
    case round =>
      obtain ⟨i, cur, av, cv, hi, hm, rfl, rfl, HO, HOK, HN, hb⟩ := hrel
      have HB := Lib.hid hb
      by_cases hlt : i < s.len
      · have hli : (i : Int) < (s.len : Int) := by omega
        obtain ⟨k, key, nm, f, u, r, b, off, a', cap', hd, rfl, hbb, hok, ⟨hc0, hc1, hc2, hc3, hc4⟩, hu⟩ := (HS.out.below hB hb).at hlt
        have hua : u.all < n := by have := Sels.all_drop hd; omega
        have HD := Lib.hid hd
        have HU := Lib.hid hu
        have hnk := hok.2.2.1
        have HNK := Lib.hid hnk
        have hzb : base ≤ wr.heap.size := Nat.le_trans hbase hb.size
        have HZB := Lib.hid hzb
        have CR : Hid (∀ (w' : World) (v1 : Value) (cur1 : List ByteArray), Below base wr w' → Nm.OwnTs w' base v1 cur1 → (∀ x, x ∈ cur1 → OkS x) → cur1.length + u.all ≤ 1000000 → Calls Tryz.prog 137 #[v1, .slice a' u.len cap'] w' fun e w'' => (∃ v', e = .returned v' ∧ Nm.OwnTs w'' base v' (cur1 ++ u.spr)) ∧ Below base w' w'') :=
          Lib.hid fun w' v1 cur1 h h1 h2 h3 => IH.out u hua w' A B a' cap' base v1 cur1 (HU.out.below hB h) hB (Nat.le_trans HZB.out h.size) h1 h2 h3
        have hbw : b < wr.heap.size := by omega
        have HX1 : Hid (Below base wr (wr.alloc (.cells #[.int .i64 k, .string key, .string nm, .int .i64 f, .slice a' u.len cap'] 114))) := Lib.hid ((Below.refl _ _).alloc hzb _)
        have HO1 : Hid (Nm.OwnTs (wr.alloc (.cells #[.int .i64 k, .string key, .string nm, .int .i64 f, .slice a' u.len cap'] 114)) base (.slice av cur.length cv) cur) := Lib.hid (HO.out.below ((Below.refl _ _).alloc (Nat.le_refl _) _))
        have HNE : Hid (some wr.heap.size ≠ (Value.slice av cur.length cv).ownBlock) := Lib.hid fun e => Nat.lt_irrefl _ (World.ownsRow.lt HO.out _ e.symm).2
        clear hlt hd hb hu hok hzb
        by_cases hk : k = 3
        · subst hk
          have h1 : Hid (cur ++ [nm] = cur ++ (if (3 : Int) = 3 then [nm] else [])) := Lib.hid (by rw [if_pos rfl])
          have HN1 := Lib.hid (app_len (cur1 := cur ++ [nm]) HD.out (by simp) HN.out)
          have hrel := Lib.hid (app_step hm.out HD.out h1.out)
          have HOK1 : Hid (∀ x, x ∈ cur ++ [nm] → OkS x) := Lib.hid fun x hx => by
            rcases List.mem_append.1 hx with h | h
            · exact HOK.out x h
            · simp at h; subst h; exact HNK.out
          go_wp2_with (at_builtin; refine Nm.app_text rfl _ _ rfl base (.slice av cur.length cv) cur rfl (HO1.out.below ((Below.refl _ _).alloc (Nat.le_refl _) _)) (wr.heap.size + 1) 1 rfl nm (by simp) (by have := HN.out; omega) (by have := HZB.out; simp; omega) ?_; intro a3 cap3 w3 hown3 hb3 hf3; have HO3 := Lib.hid hown3; have HX3 := Lib.hid ((HX1.out.alloc (by have := HZB.out; simp; omega) _).trans hb3); have HB3 := Lib.hid (HB.out.trans HX3.out); have hs3 := (hf3 wr.heap.size (by simp; omega) HNE.out).trans (two_new wr _ _); have ⟨⟨s0, s1, s2, s3, s4⟩, _⟩ := keep5 hs3; clear hb3 hf3 hown3)
          refine (CR.out _ _ (cur ++ [nm]) HX3.out HO3.out HOK1.out HN1.out.1).mono ?_
          rintro e w9 ⟨⟨v9, rfl, ho9⟩, hb9⟩
          have HB9 := Lib.hid (HB3.out.trans hb9)
          obtain ⟨a9, c9, rfl⟩ := ho9.slice
          have HO9 := Lib.hid ho9
          clear hb9 ho9 hs3 s0 s1 s2 s3 s4
          go_wp2_with fail
          go_roundw
          case rel => exact ⟨i + 1, cur ++ [nm] ++ u.spr, a9, c9, by omega, hrel, by simp, by go_num, HO9, Lib.hid (fun x hx => (List.mem_append.1 hx).elim (HOK1.out x) (HU.out.sprOk x)), Lib.hid HN1.out.2, HB9.out⟩
          case measure => simp [intOf]; omega
        · have h1 : Hid (cur = cur ++ (if k = 3 then [nm] else [])) := Lib.hid (by rw [if_neg hk, List.append_nil])
          have HN1 := Lib.hid (app_len (cur1 := cur) HD.out (by omega) HN.out)
          have hrel := Lib.hid (app_step hm.out HD.out h1.out)
          have hkb : (k == 3) = false := by rw [beq_eq_false_iff_ne]; exact hk
          go_wp2_with fail
          refine (CR.out _ _ cur HX1.out HO1.out HOK.out HN1.out.1).mono ?_
          rintro e w9 ⟨⟨v9, rfl, ho9⟩, hb9⟩
          have HB9 := Lib.hid (HB.out.trans (HX1.out.trans hb9))
          obtain ⟨a9, c9, rfl⟩ := ho9.slice
          have HO9 := Lib.hid ho9
          clear hb9 ho9
          go_wp2_with fail
          go_roundw
          case rel => exact ⟨i + 1, cur ++ u.spr, a9, c9, by omega, hrel, by simp, by go_num, HO9, Lib.hid (fun x hx => (List.mem_append.1 hx).elim (HOK.out x) (HU.out.sprOk x)), Lib.hid HN1.out.2, HB9.out⟩
          case measure => simp [intOf]; omega
      · obtain rfl : i = s.len := by omega
        have hf := Lib.hid (show out ++ s.spr = cur by rw [hm.out, Sels.drop_end (Nat.le_refl _)]; simp [Sels.spr])
        clear hlt hb
        go_wp2_with fail
        go_ret
        exact ⟨⟨_, rfl, by rw [hf.out]; exact HO.out⟩, HB.out⟩
end Go.Proofs.YtceabbbmgfeofaaGreatDoor.Selss
namespace Go.Proofs.YtceabbbmgfeofaaGreatDoor.Nm
open Go.RowKit Words Go.Maps
open Rw (OkS)
set_option linter.unusedVariables false
set_option maxRecDepth 100000
abbrev RV : Value → Option (DataW Value × List MemPlace) := fun v => some (.held v, [])
theorem lawS : Keyed Tryz.prog 9 := string_keyed Tryz.underlying9
theorem zeroB (w : World) : (zeroValue 4).run Tryz.prog w = .ok (.bool false) w := by kernel_rfl
abbrev keyL (nm : ByteArray) : Lit := .string nm.data.toList
theorem keyL_ne {a b : ByteArray} (h : a ≠ b) : keyL a ≠ keyL b := fun e => h (by
  injection e with e
  exact ByteArray.ext (Array.toList_inj.1 e))
abbrev OwnM (w : World) (b n : Nat) (D : DataW Value) : Prop := w.ownsMap Tryz.prog 9 RV b n D
theorem OwnM.same {w w' : World} {b n : Nat} {D : DataW Value} (h : OwnM w b n D) (e : w'.heap[b]? = w.heap[b]?) : OwnM w' b n D := by
  obtain ⟨es, clock, hb, F, hs, hD⟩ := h
  exact ⟨es, clock, e.trans hb, F, hs, hD⟩
/-- The map D holds the texts of seen. -/
def SD (seen : List ByteArray) (D : DataW Value) : Prop := IsMap D ∧ ∀ nm, D.atKey (keyL nm) (.held (.bool false)) = .held (.bool (inN nm seen))
theorem SD.nil : SD [] (.map []) := ⟨isMap_empty, fun nm => rfl⟩
theorem SD.put {seen : List ByteArray} {D : DataW Value} (h : SD seen D) (nm : ByteArray) : SD (nm :: seen) (D.put (keyL nm) (.held (.bool true))) := by
  refine ⟨h.1.put _ _, fun m => ?_⟩
  by_cases hm : nm = m
  · subst hm
    rw [atKey_put_same h.1 (show WideAt.IsKeyLit (keyL nm) from trivial)]
    simp [inN]
  · rw [atKey_put_other (fun e => keyL_ne (fun e => hm e.symm) e), h.2 m]
    simp [inN, hm]
theorem SD.look {seen : List ByteArray} {D : DataW Value} (h : SD seen D) {w : World} {b n : Nat} (ho : OwnM w b n D) (nm : ByteArray) (hn : OkS nm) :
    (Instr.lookup 98 (.map (some b)) (.string nm) false).run Tryz.prog w = .ok (.bool (inN nm seen)) w := by
  obtain ⟨v, ps, hr, hv⟩ := ho.lookup lawS Tryz.underlying98 (zeroB w) (zd := .held (.bool false)) (zp := []) rfl (WideMaps.keyOf_string_mk Tryz.underlying9 (by unfold maxLen; exact hn))
  rw [h.2 nm] at hv
  cases hv
  exact hr
theorem hkeyS (nm : ByteArray) (hn : OkS nm) : keyOf Tryz.prog 9 (.string nm) = some (keyL nm) := WideMaps.keyOf_string_mk Tryz.underlying9 (by unfold maxLen; exact hn)
end Go.Proofs.YtceabbbmgfeofaaGreatDoor.Nm
namespace Go.Proofs.YtceabbbmgfeofaaGreatDoor.Selss
open Go.RowKit Words Go.Maps
set_option linter.unusedVariables false
set_option maxRecDepth 100000
/-- The first Frag of a name; the empty one without. -/
def fragOr (nm : ByteArray) (l : List FragP) : FragP := (fragIn nm l).getD ⟨⟨#[]⟩, ⟨#[]⟩, .nil⟩
theorem sprOf_or (nm : ByteArray) (l : List FragP) : sprOf l nm = (fragOr nm l).sels.spr := by
  unfold sprOf fragOr; cases fragIn nm l <;> rfl
theorem fragIn_hit {l : List FragP} {i : Nat} {x : FragP} (h : l[i]? = some x) : fragIn x.name (l.drop i) = some x := by
  obtain ⟨hl, rfl⟩ := List.getElem?_eq_some_iff.1 h
  rw [List.drop_eq_getElem_cons hl, fragIn, if_pos rfl]
theorem fragIn_miss {nm : ByteArray} {l : List FragP} {i : Nat} {x : FragP} (h : l[i]? = some x) (hx : x.name ≠ nm) : fragIn nm (l.drop i) = fragIn nm (l.drop (i + 1)) := by
  obtain ⟨hl, rfl⟩ := List.getElem?_eq_some_iff.1 h
  rw [List.drop_eq_getElem_cons hl, fragIn, if_neg hx]
/-- A Frag as a value. -/
def FragV (w : World) (A B : Nat) (v : Value) (x : FragP) : Prop := ∃ a cap, v = .agg #[.string x.name, .string x.on, .slice a x.sels.len cap] ∧ (OkS x.name ∧ OkS x.on) ∧ SelsAt w A B a x.sels.len x.sels
theorem FragV.below {w w' : World} {A B C : Nat} {v : Value} {x : FragP} (h : FragV w A B v x) (hB : B ≤ C) (g : Below C w w') : FragV w' A B v x := by
  obtain ⟨a, cap, h1, h2, h3⟩ := h
  exact ⟨a, cap, h1, h2, h3.below hB g⟩
theorem ret_tb {v : Value} {a b : Bool} (h : a = b) : Ending.returned (.tuple #[v, .bool a]) = .returned (.tuple #[v, .bool b]) := by rw [h]
set_option maxHeartbeats 1000000 in
theorem implFragNamed (w : World) (A B : Nat) (a : Option Addr) (cap : Nat) (l : List FragP) (nm : ByteArray) (hn : OkS nm) (hs : FragsAt w A B a l.length l) (hB : B ≤ w.heap.size) :
    Calls Tryz.prog 138 #[.slice a l.length cap, .string nm] w fun e w' => (∃ v, e = .returned (.tuple #[v, .bool (fragIn nm l).isSome]) ∧ FragV w' A B v (fragOr nm l)) ∧ Below w.heap.size w w' := by
  have HF := Lib.hid hs
  have hlen := hs.2.1
  have HA : Hid (∀ o, Below w.heap.size w (w.alloc o)) := Lib.hid fun o => (Below.refl _ _).alloc (Nat.le_refl _) o
  have HZ0 := Lib.hid (heap_alloc_new w (.cells #[.string ⟨#[]⟩, .string ⟨#[]⟩, .slice none 0 0] 86))
  clear hs
  go_enter Tryz.func138, Tryz.ntmps138
  go_wp2_with fail
  go_loopw [10] (fun i wr => ∃ (i' : Nat), i' ≤ l.length ∧ Hid (fragIn nm l = fragIn nm (l.drop i')) ∧ i = .int .i64 i' ∧ wr.heap[w.heap.size]? = some (.cells #[.string ⟨#[]⟩, .string ⟨#[]⟩, .slice none 0 0] 86 (0, 0)) ∧ Below w.heap.size w wr) (fun i _ => l.length - (intOf i).toNat)
  case atStart => exact ⟨0, by omega, Lib.hid (by rw [List.drop_zero]), rfl, HZ0.out, HA.out _⟩
  case round =>
    obtain ⟨i, hi, hm, rfl, hz, hb⟩ := hrel
    have HB := Lib.hid hb
    have HZ := Lib.hid hz
    have hzl := Rw.lt_of_get hz
    by_cases hlt : i < l.length
    · have hli : (i : Int) < (l.length : Int) := by omega
      obtain ⟨x, fb, off, a', cap', hd, rfl, hbb, hok, ⟨hc0, hc1, hc2⟩, hu⟩ := (HF.out.below (Nat.le_refl _) (hb.mono hB)).at hlt
      have HU := Lib.hid hu
      have HOK := Lib.hid hok
      have hz1 := (Go.Deep.blk_alloc_lt wr (.cells #[.string x.name, .string x.on, .slice a' x.sels.len cap'] 86) w.heap.size hzl).trans hz
      have HZ1 := Lib.hid hz1
      have HBA : Hid (∀ o, Below w.heap.size w (wr.alloc o)) := Lib.hid fun o => HB.out.alloc HB.out.size o
      by_cases hx : x.name = nm
      · subst hx
        have hf := Lib.hid (hm.out.trans (fragIn_hit hd))
        have ⟨⟨e0, e1, e2⟩, p0, p1, p2⟩ := keep3 hz
        clear hlt hd hb hok hu hz hz1
        go_wp2_with fail
        change bodyPost _ _ _ _ _ ((Rw.putL wr w.heap.size 0 [.string x.name, .string x.on, .slice a' x.sels.len cap']).alloc (.cells #[.string x.name, .string x.on, .slice a' x.sels.len cap'] 86))
        obtain ⟨hr, _, _⟩ := Rw.putL_cells (g := w.heap.size) (o := 0) (l := [.string x.name, .string x.on, .slice a' x.sels.len cap']) HZ.out (by simp)
        have HBF := Rw.putL_below (g := w.heap.size) (B := w.heap.size) (Nat.le_refl _) [.string x.name, .string x.on, .slice a' x.sels.len cap'] 0 HB.out
        have HUF : FragV (Rw.putL wr w.heap.size 0 [.string x.name, .string x.on, .slice a' x.sels.len cap']) A B (.agg #[.string x.name, .string x.on, .slice a' x.sels.len cap']) x :=
          ⟨a', cap', rfl, HOK.out, HU.out.below hB (Rw.putL_below (g := w.heap.size) (B := w.heap.size) (Nat.le_refl _) _ 0 (Below.refl _ _))⟩
        have hsz := Rw.putL_size [.string x.name, .string x.on, .slice a' x.sels.len cap'] wr w.heap.size 0
        generalize Rw.putL wr w.heap.size 0 [.string x.name, .string x.on, .slice a' x.sels.len cap'] = wz at *
        have hzz : w.heap.size < wz.heap.size := by omega
        have x0 := hr 0 _ rfl
        have x1 := hr 1 _ rfl
        have x2 := hr 2 _ rfl
        simp only [Nat.zero_add] at x0 x1 x2
        rw [← World.cell?_alloc_lt wz (.cells #[.string x.name, .string x.on, .slice a' x.sels.len cap'] 86) _ hzz] at x0 x1 x2
        have HBG := HBF.alloc (by omega) (.cells #[.string x.name, .string x.on, .slice a' x.sels.len cap'] 86)
        have HUG := HUF.below (C := wz.heap.size) (by omega) ((Below.refl _ _).alloc (Nat.le_refl _) (.cells #[.string x.name, .string x.on, .slice a' x.sels.len cap'] 86))
        generalize wz.alloc (.cells #[.string x.name, .string x.on, .slice a' x.sels.len cap'] 86) = wy at *
        exact bodyPost_ret (v := .tuple #[.agg #[.string x.name, .string x.on, .slice a' x.sels.len cap'], .bool true]) (by simp [results, Tryz.results138, go_sem, x0, x1, x2]) rfl ⟨⟨_, by rw [hf.out]; rfl, by unfold fragOr; rw [hf.out]; exact HUG⟩, HBG⟩
      · have hn1 := toList_ne hx
        have hn2 := toList_beq hx
        have hrel := Lib.hid (hm.out.trans (fragIn_miss hd hx))
        clear hlt hd hb hok hu hz hz1
        go_wp2_with fail
        go_roundw
        case rel => exact ⟨i + 1, by omega, hrel, by go_num, HZ1.out, HBA.out _⟩
        case measure => simp [intOf]; omega
    · obtain rfl : i = l.length := by omega
      have hf : Hid (fragIn nm l = none) := Lib.hid (by rw [hm.out, List.drop_length]; rfl)
      have ⟨⟨e0, e1, e2⟩, p0, p1, p2⟩ := keep3 hz
      clear hlt hb hz
      go_wp2_with fail
      change bodyPost _ _ _ _ _ (Rw.putL wr w.heap.size 0 [.string ⟨#[]⟩, .string ⟨#[]⟩, .slice none 0 0])
      obtain ⟨hr, _, _⟩ := Rw.putL_cells (g := w.heap.size) (o := 0) (l := [.string ⟨#[]⟩, .string ⟨#[]⟩, .slice none 0 0]) HZ.out (by simp)
      have HBF := Rw.putL_below (g := w.heap.size) (B := w.heap.size) (Nat.le_refl _) [.string ⟨#[]⟩, .string ⟨#[]⟩, .slice none 0 0] 0 HB.out
      generalize Rw.putL wr w.heap.size 0 [.string ⟨#[]⟩, .string ⟨#[]⟩, .slice none 0 0] = wz at *
      have x0 := hr 0 _ rfl
      have x1 := hr 1 _ rfl
      have x2 := hr 2 _ rfl
      simp only [Nat.zero_add] at x0 x1 x2
      exact bodyPost_ret (v := .tuple #[.agg #[.string ⟨#[]⟩, .string ⟨#[]⟩, .slice none 0 0], .bool false]) (by simp [results, Tryz.results138, go_sem, x0, x1, x2]) rfl ⟨⟨_, by rw [hf.out]; rfl, by unfold fragOr; rw [hf.out]; exact ⟨none, 0, rfl, ⟨by unfold OkS; decide, by unfold OkS; decide⟩, rfl, by decide, .inl rfl⟩⟩, HBF⟩
end Go.Proofs.YtceabbbmgfeofaaGreatDoor.Selss
