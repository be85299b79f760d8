/-
  What is told of a Schema and a Doc, plainly; what a right Doc and a right Schema give for it. Conditions: as each theorem says.
-/
import Derived.Test.YtceabbbmgfeofaaGreatDoorRows
import Derived.Test.YtceabbbmgfeofaaGreatDoorLoopK
import Derived.Test.YtceabbbmgfeofaaGreatDoorImplDoc
import Derived.Deep.RegionWith
import Derived.Test.YtceabbbmgfeofaaGreatDoorClashM
import Derived.Test.YtceabbbmgfeofaaGreatDoorValP
import Derived.Test.YtceabbbmgfeofaaGreatDoorRightP
import Derived.Test.YtceabbbmgfeofaaGreatDoorErrV
namespace Go.Proofs.YtceabbbmgfeofaaGreatDoor.Selss
open Go.RowKit Words Go.Maps
set_option linter.unusedVariables false
set_option maxRecDepth 100000
/-- What loopOf tells: a fault of form, of a Doc that isn't right; the name of the first Frag that comes to spread itself; nothing without such a one. -/
def LoopOut (d : DocP) (v : Value) : Prop :=
  (docB d = false ∧ v = .iface 147 (.agg #[.int .i64 1])) ∨
  (docB d = true ∧ ((∃ x, x ∈ d.frags ∧ loopN d.frags d.frags = x.name ∧ OkS x.name ∧ x.name.size ≤ 8 ∧ v = .iface 137 (.string x.name)) ∨
    ((∀ x, x ∈ d.frags → reachB d.frags x.sels.spr x.name = false) ∧ loopN d.frags d.frags = ⟨#[]⟩ ∧ v = .nilIface)))
theorem fragsB_mem {l : List FragP} : ∀ {m : List FragP} {i : Nat}, fragsB l m i = true → ∀ x, x ∈ m → wordB x.name = true
  | [], _, _, x, hx => by simp at hx
  | y :: m, i, h, x, hx => by
    unfold fragsB at h
    rw [Bool.and_eq_true] at h
    rcases List.mem_cons.1 hx with rfl | hx
    · have h1 := h.1
      unfold fragB at h1
      simp only [Bool.and_eq_true] at h1
      exact h1.1.1.1.1
    · exact fragsB_mem h.2 x hx
theorem docB_name {d : DocP} (h : docB d = true) {x : FragP} (hx : x ∈ d.frags) : wordB x.name = true := by
  unfold docB at h
  rw [Bool.and_eq_true] at h
  exact fragsB_mem h.2 x hx
theorem wordB_size {s : ByteArray} (h : wordB s = true) : s.size ≤ 8 := by
  unfold wordB at h
  rw [Bool.and_eq_true] at h
  have h1 := h.1
  unfold ofB at h1
  exact (@of_decide_eq_true _ (Classical.propDecidable _) h1).few
theorem look_none {l : List FragP} : ∀ {m : List FragP}, (∀ x, x ∈ m → reachB l x.sels.spr x.name = false) → loopN l m = ⟨#[]⟩
  | [], _ => rfl
  | x :: m, h => by
    unfold loopN
    rw [if_neg (by rw [h x (List.mem_cons_self ..)]; simp)]
    exact look_none fun y hy => h y (List.mem_cons_of_mem _ hy)
set_option maxHeartbeats 4000000 in
theorem implLoopOf (w : World) (A B : Nat) (v : Value) (d : DocP) (hs : DocAt w A B v d) (hB : B ≤ w.heap.size) :
    Calls Tryz.prog 37 #[v] w fun e w' => (∃ v', e = .returned v' ∧ LoopOut d v') ∧ Below w.heap.size w w' := by
  have CR : Hid (∀ w' : World, Below w.heap.size w w' → Calls Tryz.prog 84 #[v] w' fun e w'' => e = .returned (.bool (docB d)) ∧ Below w'.heap.size w' w'') := Lib.hid fun w' h => implDocRight w' A B v d (hs.below hB h) (Nat.le_trans hB h.size)
  obtain ⟨q, hq⟩ : ∃ q, docB d = q := ⟨_, rfl⟩
  have HQ := Lib.hid hq
  rw [hq] at CR
  obtain ⟨a, ca, b, cb, rfl, _, hf, _⟩ := hs
  have HF := Lib.hid hf
  have hlen := hf.2.1
  have HA : Hid (∀ o, Below w.heap.size w (w.alloc o)) := Lib.hid fun o => (Below.refl _ _).alloc (Nat.le_refl _) o
  clear hq hf
  cases q
  · go_enter Tryz.func37, Tryz.ntmps37
    go_wp2_with fail
    refine (CR.out _ (HA.out _)).mono ?_
    rintro e w1 ⟨rfl, hb1⟩
    have HB1 := Lib.hid ((HA.out _).trans (hb1.mono (HA.out _).size))
    clear hb1
    go_wp2_with fail
    go_ret
    exact ⟨⟨_, rfl, .inl ⟨HQ.out, rfl⟩⟩, HB1.out⟩
  have HALL := Lib.hid (docB_all HQ.out)
  go_enter Tryz.func37, Tryz.ntmps37
  go_wp2_with fail
  refine (CR.out _ (HA.out _)).mono ?_
  rintro e w1 ⟨rfl, hb1⟩
  have HB1 := Lib.hid ((HA.out _).trans (hb1.mono (HA.out _).size))
  have k0 := hb1.cell (p := ⟨w.heap.size, 0, none⟩) (by simp)
  have k1 := hb1.cell (p := ⟨w.heap.size, 1, none⟩) (by simp)
  simp at k0 k1
  have hz1 : w.heap.size < w1.heap.size := by have := hb1.size; simp at this; omega
  clear hb1
  go_wp2_with fail
  go_loopw [13] (fun i wr => ∃ (i' : Nat), i' ≤ d.frags.length ∧ Hid (∀ x, x ∈ d.frags.take i' → reachB d.frags x.sels.spr x.name = false) ∧ Hid (loopN d.frags d.frags = loopN d.frags (d.frags.drop i')) ∧ i = .int .i64 i' ∧ wr.cell? ⟨w.heap.size, 1, none⟩ = some (.slice b d.frags.length cb) ∧ w.heap.size < wr.heap.size ∧ Below w.heap.size w wr) (fun i _ => d.frags.length - (intOf i).toNat)
  case atStart => exact ⟨0, by omega, Lib.hid (fun x hx => by simp at hx), Lib.hid (by rw [List.drop_zero]), rfl, k1, hz1, HB1.out⟩
  case round =>
    obtain ⟨i, hi, hno, hm, rfl, hk1, hz, hb⟩ := hrel
    have HB := Lib.hid hb
    clear k0 k1 hz1 HB1
    by_cases hlt : i < d.frags.length
    · have hli : (i : Int) < (d.frags.length : Int) := by omega
      obtain ⟨x, fb, off, a', cap', hd, rfl, hbb, hok, ⟨hc0, hc1, hc2⟩, hu⟩ := (HF.out.below (Nat.le_refl _) (hb.mono hB)).at hlt
      have HD := Lib.hid hd
      have HU := Lib.hid hu
      have HOK := Lib.hid hok
      have HZ := Lib.hid hz
      have HXA := Lib.hid (Nat.le_trans (fragAll_mem hd) HALL.out)
      obtain ⟨wa, hwa⟩ : ∃ wa, wr.alloc (.cells #[.string x.name, .string x.on, .slice a' x.sels.len cap'] 86) = wa := ⟨_, rfl⟩
      have HXA1 : Hid (Below wr.heap.size wr (wr.alloc (.cells #[.string x.name, .string x.on, .slice a' x.sels.len cap'] 86))) := Lib.hid ((Below.refl _ _).alloc (Nat.le_refl _) _)
      have hzz : wr.heap.size < (wr.alloc (.cells #[.string x.name, .string x.on, .slice a' x.sels.len cap'] 86)).drew.heap.size := by show _ < (wr.alloc _).heap.size; simp
      have e1 : (wr.alloc (.cells #[.string x.name, .string x.on, .slice a' x.sels.len cap'] 86)).drew.cell? ⟨w.heap.size, 1, none⟩ = some (.slice (some ⟨fb, off, none⟩) d.frags.length cb) := by
        show (wr.alloc _).cell? _ = _
        rw [World.cell?_alloc_lt _ _ ⟨w.heap.size, 1, none⟩ hz]; exact hk1
      have g0 : (wr.alloc (.cells #[.string x.name, .string x.on, .slice a' x.sels.len cap'] 86)).drew.cell? ⟨wr.heap.size, 0, none⟩ = some (.string x.name) := by show (wr.alloc _).cell? _ = _; simp
      have g1 : (wr.alloc (.cells #[.string x.name, .string x.on, .slice a' x.sels.len cap'] 86)).drew.cell? ⟨wr.heap.size, 1, none⟩ = some (.string x.on) := by show (wr.alloc _).cell? _ = _; simp
      have g2 : (wr.alloc (.cells #[.string x.name, .string x.on, .slice a' x.sels.len cap'] 86)).drew.cell? ⟨wr.heap.size, 2, none⟩ = some (.slice a' x.sels.len cap') := by show (wr.alloc _).cell? _ = _; simp
      have HWD : Hid (Below w.heap.size w (wr.alloc (.cells #[.string x.name, .string x.on, .slice a' x.sels.len cap'] 86)).drew) := Lib.hid (HB.out.alloc HB.out.size _).drew
      have CQ : Hid (Calls Tryz.prog 85 #[.slice (some ⟨fb, off, none⟩) d.frags.length cb, .agg #[.string x.name, .string x.on, .slice a' x.sels.len cap']] (wr.alloc (.cells #[.string x.name, .string x.on, .slice a' x.sels.len cap'] 86)).drew fun e w'' => ReachOut w'' d.frags x.sels.spr e ∧ Below (wr.alloc (.cells #[.string x.name, .string x.on, .slice a' x.sels.len cap'] 86)).drew.heap.size (wr.alloc (.cells #[.string x.name, .string x.on, .slice a' x.sels.len cap'] 86)).drew w'') := Lib.hid
        (implReached _ A B (some ⟨fb, off, none⟩) cb d.frags _ x (HF.out.below hB HWD.out) ⟨a', cap', rfl, HOK.out, HU.out.below (Nat.le_trans hB HB.out.size) HXA1.out.drew⟩ (Nat.le_trans hB HWD.out.size) HXA.out HALL.out)
      clear hlt hd hb hu hok hwa
      go_wp2_with fail
      go_region_with (go_at_call 85; refine CQ.out.mono ?_; rintro e w3 ⟨⟨mb, mn, D, rfl, hom, seen, hsd, hre⟩, hb3⟩; have hrun := hsd.look hom x.name HOK.out.1; have q1 := Rw.kcell hb3 (Nat.lt_trans hz hzz) e1; have q2 := Rw.kcell hb3 hzz g0)
      all_goals
        have HB3 := Lib.hid (HWD.out.trans (hb3.mono HWD.out.size))
        have hz3 : w.heap.size < w3.heap.size := Nat.lt_of_lt_of_le (Nat.lt_trans hz hzz) hb3.size
        have hrb : Hid (reachB d.frags x.sels.spr x.name = Nm.inN x.name seen) := Lib.hid (reachB_of (Nm.inN_mem.trans (hre _)))
        clear hb3 hre hrun hsd hom e1 g0 g1 g2 hzz
        generalize Nm.inN x.name seen = p at *
        cases p
        · have hrel : Hid (∀ y, y ∈ d.frags.take (i + 1) → reachB d.frags y.sels.spr y.name = false) := Lib.hid fun y hy => by
            rw [List.take_add_one, HD.out] at hy
            rcases List.mem_append.1 hy with h | h
            · exact hno.out y h
            · simp at h; subst h; exact hrb.out
          have hrel2 := Lib.hid (hm.out.trans (loopN_miss HD.out hrb.out))
          go_wp2_with fail
          go_roundw
          case rel => exact ⟨i + 1, by omega, hrel, hrel2, by go_num, q1, hz3, HB3.out⟩
          case measure => simp [intOf]; omega
        · have hf := Lib.hid (hm.out.trans (loopN_hit HD.out hrb.out))
          go_wp2_with fail
          go_ret
          exact ⟨⟨_, rfl, .inr ⟨HQ.out, .inl ⟨x, List.mem_iff_getElem?.2 ⟨i, HD.out⟩, hf.out, HOK.out.1, wordB_size (docB_name HQ.out (List.mem_iff_getElem?.2 ⟨i, HD.out⟩)), rfl⟩⟩⟩, HB3.out⟩
    · obtain rfl : i = d.frags.length := by omega
      have hf : Hid (∀ x, x ∈ d.frags → reachB d.frags x.sels.spr x.name = false) := Lib.hid (by have := hno.out; rwa [List.take_length] at this)
      clear hlt hb
      go_wp2_with fail
      go_ret
      exact ⟨⟨_, rfl, .inr ⟨HQ.out, .inr ⟨hf.out, look_none hf.out, rfl⟩⟩⟩, HB.out⟩
end Go.Proofs.YtceabbbmgfeofaaGreatDoor.Selss
namespace Go.Proofs.YtceabbbmgfeofaaGreatDoor.Selss
open Go.RowKit Words
set_option linter.unusedVariables false
set_option maxRecDepth 100000
theorem specClashM {d : DocP} (hn : NoLoop d.frags) : ∀ (m : Nat) (s : Sels), DeepL d.frags m (opens d.frags s) → full d.frags s ≤ 100000000000 → ClashOk d s (clashM d.frags m (opens d.frags s))
  | 0, s, hd, hf => by
    have h0 : opens d.frags s = [] := hd
    have := specClashStep hn s hf (fun _ => ⟨#[]⟩) (fun key hk => by rw [h0] at hk; simp at hk)
    rw [h0] at this ⊢
    exact this
  | m + 1, s, hd, hf => by
    rw [clashM_succ]
    refine specClashStep hn s hf _ fun key hk => ?_
    exact specClashM hn m _ (deep_sub hd key) (Nat.le_trans (sumF_sub hn key _) (Nat.le_trans (sumF_opens hn _ s (Low.top _ s)) hf))
theorem docB_parts {d : DocP} (h : docB d = true) : d.sels.all ≤ 60 ∧ fragAll d.frags ≤ 60 ∧ d.frags.length ≤ 5 := by
  unfold docB at h
  simp only [Bool.and_eq_true, decide_eq_true_eq] at h
  have h1 := h.1.1.2
  have h2 := h.1.1.1.2
  unfold DocP.all at h1
  exact ⟨by omega, by omega, h2⟩
open Classical in
/-- The key of what clashes first; the empty one of a Doc that isn't right, or where a Frag comes to spread itself. -/
noncomputable def clashD (d : DocP) : ByteArray := if h : docB d = true ∧ NoLoop d.frags then clashM d.frags (Classical.choose (deep_ex h.2 _ d.sels (Low.top d.frags d.sels))) (opens d.frags d.sels) else ⟨#[]⟩
theorem clashD_no {d : DocP} (h : ¬ (docB d = true ∧ NoLoop d.frags)) : clashD d = ⟨#[]⟩ := by unfold clashD; rw [dif_neg h]
theorem clashD_yes {d : DocP} (h : docB d = true ∧ NoLoop d.frags) : ∃ m, DeepL d.frags m (opens d.frags d.sels) ∧ clashD d = clashM d.frags m (opens d.frags d.sels) := by
  refine ⟨_, Classical.choose_spec (deep_ex h.2 _ d.sels (Low.top d.frags d.sels)), ?_⟩
  unfold clashD; rw [dif_pos h]
theorem loopN_some {l : List FragP} : ∀ {m : List FragP}, (∃ x, x ∈ m ∧ reachB l x.sels.spr x.name = true) → ∃ x, x ∈ m ∧ loopN l m = x.name
  | [], ⟨x, hx, _⟩ => by simp at hx
  | y :: m, ⟨x, hx, hr⟩ => by
    unfold loopN
    by_cases hy : reachB l y.sels.spr y.name = true
    · rw [if_pos hy]; exact ⟨y, List.mem_cons_self .., rfl⟩
    · rw [if_neg hy]
      rcases List.mem_cons.1 hx with rfl | hx
      · exact absurd hr hy
      · obtain ⟨z, hz, e⟩ := loopN_some ⟨x, hx, hr⟩
        exact ⟨z, List.mem_cons_of_mem _ hz, e⟩
theorem word_ne {s : ByteArray} (h : wordB s = true) : s ≠ ⟨#[]⟩ := by
  intro e; subst e
  unfold wordB at h
  rw [Bool.and_eq_true] at h
  have h1 := h.1
  unfold ofB at h1
  have := (@of_decide_eq_true _ (Classical.propDecidable _) h1).some
  exact absurd this (by decide)
theorem loop_cases {d : DocP} (hd : docB d = true) : (NoLoop d.frags ∧ loopN d.frags d.frags = ⟨#[]⟩) ∨ (¬ NoLoop d.frags ∧ loopN d.frags d.frags ≠ ⟨#[]⟩) := by
  by_cases h : ∃ x, x ∈ d.frags ∧ reachB d.frags x.sels.spr x.name = true
  · right
    obtain ⟨x, hx, e⟩ := loopN_some h
    refine ⟨fun hn => ?_, by rw [e]; exact word_ne (docB_name hd hx)⟩
    obtain ⟨y, hy, hr⟩ := h
    rw [hn y hy] at hr; cases hr
  · left
    have hn : NoLoop d.frags := fun x hx => by
      cases hr : reachB d.frags x.sels.spr x.name with
      | false => rfl
      | true => exact absurd ⟨x, hx, hr⟩ h
    exact ⟨hn, look_none hn⟩
theorem isEmpty_no {t : ByteArray} (h : t ≠ ⟨#[]⟩) : t.toList.isEmpty = false := by
  cases hh : t.toList with
  | nil => exact absurd (hh.trans (by rw [Lib.toList_data])) (toList_ne h)
  | cons _ _ => rfl
def headN : List Rw.TypeP → ByteArray
  | [] => ⟨#[]⟩
  | x :: _ => x.name
noncomputable def loopW (d : DocP) : WrP := if loopN d.frags d.frags = ⟨#[]⟩ then none else some (loopN d.frags d.frags, 7)
noncomputable def clashW (d : DocP) : WrP := if clashD d = ⟨#[]⟩ then none else some (clashD d, 7)
noncomputable def restW (s : List Rw.TypeP) (d : DocP) : WrP := WrP.or (selsW s d.frags d.sels (headN s)) (WrP.or (fragsW s d.frags d.frags) (clashW d))
/-- What is wrong first of what is right. -/
noncomputable def rightW (s : List Rw.TypeP) (d : DocP) : WrP := WrP.or (loopW d) (restW s d)
/-- What is told of a Schema and a Doc. -/
noncomputable def validW (s : List Rw.TypeP) (d : DocP) : WrP := if (Rw.schemaB s && docB d) = true then rightW s d else some (⟨#[]⟩, 1)
theorem validW_no {s : List Rw.TypeP} {d : DocP} (h : (Rw.schemaB s && docB d) = false) : validW s d = some (⟨#[]⟩, 1) := by unfold validW; rw [if_neg (by rw [h]; simp)]
theorem validW_yes {s : List Rw.TypeP} {d : DocP} (h : (Rw.schemaB s && docB d) = true) : validW s d = rightW s d := if_pos h
/-! ### kinds and texts of right Sels -/
def GoodV : Sels → Prop
  | .nil => True
  | .cons k key nm _ u r => ((k = 1 ∨ k = 2 ∨ k = 3) ∧ key.size ≤ 8 ∧ nm.size ≤ 8) ∧ GoodV u ∧ GoodV r
theorem toList_nil_size {b : ByteArray} (h : (b.toList == []) = true) : b.size = 0 := by
  rw [beq_iff_eq, Lib.toList_data] at h
  have := congrArg List.length h
  simpa using this
theorem good_v : ∀ {s : Sels} {n : Int}, selsB s n = true → GoodV s
  | .nil, _, _ => trivial
  | .cons k key nm f u r, n, h => by
    simp only [selsB, Bool.and_eq_true] at h
    refine ⟨?_, good_v h.1.2, good_v h.2⟩
    have h1 := h.1.1.1
    by_cases k1 : k = 1
    · subst k1
      rw [oneB_1, Bool.and_eq_true, Bool.and_eq_true] at h1
      exact ⟨.inl rfl, (Rw.word_small h1.1).2, (Rw.word_small h1.2.1).2⟩
    · by_cases k2 : k = 2
      · subst k2
        rw [oneB_2, Bool.and_eq_true, Bool.and_eq_true] at h1
        exact ⟨.inr (.inl rfl), by rw [toList_nil_size h1.1]; omega, (Rw.type_small h1.2.1).2⟩
      · by_cases k3 : k = 3
        · subst k3
          rw [oneB_3, Bool.and_eq_true, Bool.and_eq_true] at h1
          exact ⟨.inr (.inr rfl), by rw [toList_nil_size h1.1]; omega, (Rw.word_small h1.2.1).2⟩
        · rw [oneB_other k1 k2 k3] at h1; cases h1
theorem GoodV.drop : ∀ (i : Nat) {s : Sels}, GoodV s → GoodV (s.drop i)
  | 0, _, h => h
  | i + 1, .nil, _ => trivial
  | i + 1, .cons _ _ _ _ _ _, h => GoodV.drop i h.2.2
theorem GoodV.at {i : Nat} {s : Sels} {k : Int} {key nm : ByteArray} {f : Int} {u r : Sels} (h : GoodV s) (hd : s.drop i = .cons k key nm f u r) : ((k = 1 ∨ k = 2 ∨ k = 3) ∧ key.size ≤ 8 ∧ nm.size ≤ 8) ∧ GoodV u := by
  have := GoodV.drop i h
  rw [hd] at this
  exact ⟨this.1, this.2.1⟩
theorem fragsB_goodV {l : List FragP} : ∀ {m : List FragP} {i : Nat}, fragsB l m i = true → ∀ x, x ∈ m → GoodV x.sels ∧ x.name.size ≤ 8 ∧ x.on.size ≤ 8
  | [], _, _, x, hx => by simp at hx
  | y :: m, i, h, x, hx => by
    unfold fragsB at h
    rw [Bool.and_eq_true] at h
    rcases List.mem_cons.1 hx with rfl | hx
    · have h1 := h.1
      unfold fragB at h1
      simp only [Bool.and_eq_true] at h1
      exact ⟨good_v h1.2, (Rw.word_small h1.1.1.1.1).2, (Rw.type_small h1.1.1.2).2⟩
    · exact fragsB_goodV h.2 x hx
theorem docB_goodV {d : DocP} (h : docB d = true) : GoodV d.sels ∧ ∀ x, x ∈ d.frags → GoodV x.sels ∧ x.name.size ≤ 8 ∧ x.on.size ≤ 8 := by
  unfold docB at h
  rw [Bool.and_eq_true, Bool.and_eq_true] at h
  exact ⟨good_v h.1.2, fragsB_goodV h.2⟩
/-! ### texts that are told -/
def WrP.few (a : WrP) : Prop := ∀ x, a = some x → x.1.size ≤ 8
theorem WrP.few_none : WrP.few none := fun x h => by cases h
theorem WrP.few_some {t : ByteArray} {c : Int} (h : t.size ≤ 8) : WrP.few (some (t, c)) := fun x e => by cases e; exact h
theorem WrP.few_or {a b : WrP} (ha : a.few) (hb : b.few) : (WrP.or a b).few := by
  cases a with
  | none => exact hb
  | some x => exact ha
theorem fieldW_few (s : List Rw.TypeP) {key nm : ByteArray} (n : Int) (u : Sels) (f : Rw.FieldP) (hk : key.size ≤ 8) (hn : nm.size ≤ 8) : (fieldW s key nm n u f).few := by
  unfold fieldW
  split
  · exact WrP.few_some hn
  · split
    · exact WrP.few_some hk
    · split
      · exact WrP.few_some hk
      · exact WrP.few_none
theorem selsW_few (s : List Rw.TypeP) (fr : List FragP) : ∀ (l : Sels) (t : ByteArray), GoodV l → (selsW s fr l t).few
  | .nil, _, _ => WrP.few_none
  | .cons k key nm n u r, t, h => by
    unfold selsW
    refine WrP.few_or ?_ (selsW_few s fr r t h.2.2)
    split
    · exact WrP.few_or (fieldW_few _ _ _ _ h.1.2.1 h.1.2.2) (selsW_few s fr u _ h.2.1)
    · split
      · split
        · exact selsW_few s fr u _ h.2.1
        · exact WrP.few_some h.1.2.2
      · split
        · exact WrP.few_some h.1.2.2
        · exact WrP.few_none
theorem blockW_few (s : List Rw.TypeP) (fr : List FragP) (l : Sels) (t : ByteArray) (h : GoodV l) (ht : t.size ≤ 8) : WrP.few (if compB s t = true then selsW s fr l t else some (t, 6)) := by
  split
  · exact selsW_few s fr l t h
  · exact WrP.few_some ht
theorem fragsW_few (s : List Rw.TypeP) (fr : List FragP) : ∀ (l : List FragP), (∀ x, x ∈ l → GoodV x.sels ∧ x.name.size ≤ 8 ∧ x.on.size ≤ 8) → (fragsW s fr l).few
  | [], _ => WrP.few_none
  | x :: l, h => by
    unfold fragsW
    exact WrP.few_or (blockW_few s fr x.sels x.on (h x (List.mem_cons_self ..)).1 (h x (List.mem_cons_self ..)).2.2) (fragsW_few s fr l fun y hy => h y (List.mem_cons_of_mem _ hy))
theorem fragsW_fit (s : List Rw.TypeP) (fr : List FragP) : ∀ (l : List FragP), (fragsW s fr l).fit
  | [] => WrP.fit_none
  | x :: l => by
    unfold fragsW
    refine WrP.fit_or ?_ (fragsW_fit s fr l)
    split
    · exact selsW_fit s fr _ _
    · exact WrP.fit_some (by omega)
theorem fragsW_drop (s : List Rw.TypeP) (fr : List FragP) {l : List FragP} {i : Nat} {x : FragP} (h : l[i]? = some x) : fragsW s fr (l.drop i) = WrP.or (if compB s x.on = true then selsW s fr x.sels x.on else some (x.on, 6)) (fragsW s fr (l.drop (i + 1))) := by
  obtain ⟨hl, rfl⟩ := List.getElem?_eq_some_iff.1 h
  rw [List.drop_eq_getElem_cons hl, fragsW]
/-! ### types of a right schema -/
theorem comp_of {s : List Rw.TypeP} (hs : Rw.schemaB s = true) {t : ByteArray} (h0 : ((Rw.typeIn t s).kind == 0) = false) (h1 : ((Rw.typeIn t s).kind == 1) = false) : compB s t = true := by
  have hf : Rw.freshB t s = false := by
    cases hf : Rw.freshB t s with
    | false => rfl
    | true => rw [Rw.typeIn_zero hf] at h0; cases h0
  have := Rw.partB_kind (Rw.right_at hs hf).2.1
  unfold Rw.isKind at this
  unfold compB
  rw [h1] at this
  simpa using this
theorem comp_there {s : List Rw.TypeP} {t : ByteArray} (h : compB s t = true) : Rw.freshB t s = false := by
  cases hf : Rw.freshB t s with
  | false => rfl
  | true => unfold compB at h; rw [Rw.typeIn_zero hf] at h; cases h
theorem field_there {s : List Rw.TypeP} (hs : Rw.schemaB s = true) {t nm : ByteArray} (hf : (Rw.fieldIn nm (Rw.typeIn t s).fields).name ≠ ⟨#[]⟩) : ((Rw.typeIn (Rw.fieldIn nm (Rw.typeIn t s).fields).typ s).kind == 0) = false := by
  rcases Rw.fieldIn_cases nm (Rw.typeIn t s).fields with h | ⟨h, _⟩
  · rw [h] at hf; exact absurd rfl hf
  · cases hfr : Rw.freshB t s with
    | true => rw [Rw.typeIn_zero hfr] at h; simp [Rw.zeroType] at h
    | false => exact (Rw.part_field (Rw.right_at hs hfr).2.1 h).2.1
theorem cap_ge {s : List Rw.TypeP} (hs : Rw.schemaB s = true) (t nm : ByteArray) : 0 ≤ (Rw.fieldIn nm (Rw.typeIn t s).fields).cap := by
  rcases Rw.fieldIn_cases nm (Rw.typeIn t s).fields with h | ⟨h, _⟩
  · rw [h]; simp [Rw.zeroField]
  · cases hfr : Rw.freshB t s with
    | true => rw [Rw.typeIn_zero hfr] at h; simp [Rw.zeroType] at h
    | false =>
      have := (Rw.part_field (Rw.right_at hs hfr).2.1 h).2.2
      unfold Rw.sizedB at this
      split at this
      · simp at this; omega
      · simp at this; omega
theorem head_comp {s : List Rw.TypeP} (hs : Rw.schemaB s = true) : compB s (headN s) = true ∧ (headN s).size ≤ 8 := by
  obtain ⟨⟨h1, _⟩, h2, h3⟩ := Rw.schemaB_parts hs
  cases s with
  | nil => simp at h1
  | cons x l =>
    obtain ⟨⟨h4, _⟩, _⟩ := h3 0 x rfl
    refine ⟨?_, (Rw.type_small h4).2⟩
    unfold compB headN Rw.typeIn
    rw [if_pos rfl]
    have : x.kind = 2 := h2
    rw [this]; rfl
/-! ### an error that tells what is wrong -/
def LeafFor (x : ByteArray × Int) (l : ErrW.Leaf) : Prop := (x.2 = 6 ∧ l = .none x.1) ∨ (x.2 = 7 ∧ l = .there x.1) ∨ (x.2 = 8 ∧ l = .range x.1) ∨ (x.2 = 10 ∧ l = .state x.1)
def VOut (r : WrP) (v : Value) : Prop := (r = none ∧ v = .nilIface) ∨ (∃ (e : ErrW.ErrP) (x : ByteArray × Int), v = e.val ∧ r = some x ∧ LeafFor x e.last)
theorem VOut.nil : VOut none .nilIface := .inl ⟨rfl, rfl⟩
theorem VOut.none (t : ByteArray) : VOut (some (t, 6)) (.iface 136 (.string t)) := .inr ⟨.leaf (.none t), _, rfl, rfl, .inl ⟨rfl, rfl⟩⟩
theorem VOut.range (t : ByteArray) : VOut (some (t, 8)) (.iface 138 (.string t)) := .inr ⟨.leaf (.range t), _, rfl, rfl, .inr (.inr (.inl ⟨rfl, rfl⟩))⟩
theorem VOut.state (t : ByteArray) : VOut (some (t, 10)) (.iface 139 (.string t)) := .inr ⟨.leaf (.state t), _, rfl, rfl, .inr (.inr (.inr ⟨rfl, rfl⟩))⟩
theorem VOut.stand {r : WrP} {e : ErrW.ErrP} {x : ByteArray × Int} (i : ByteArray) (hr : r = some x) (hl : LeafFor x e.last) : VOut r (.iface 160 (.agg #[.string i, e.val])) := .inr ⟨.stand i e, x, rfl, hr, hl⟩
end Go.Proofs.YtceabbbmgfeofaaGreatDoor.Selss
