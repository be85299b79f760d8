/-
  Contract: impl.loopOf tells whether a Doc isn't right, or which Frag comes first to spread itself; of what was there nothing is changed. Conditions: in memory.
-/
import Derived.Test.YthdncjdopejkkaaDoorRows
import Derived.Test.YthdncjdopejkkaaDoorLoopK
import Derived.Test.YthdncjdopejkkaaDoorImplDoc
import Derived.Deep.RegionWith
namespace Go.Proofs.YthdncjdopejkkaaDoor.Selss
open Go.RowKit Words Go.Maps
set_option linter.unusedVariables false
set_option maxRecDepth 100000

/-- What loopOf tells: a fault of form, of a Doc that isn't right; the name of the first Frag that comes to spread itself; nothing without such a one. -/
def LoopOut (d : DocP) (v : Value) : Prop :=
  (docB d = false ∧ v = .iface 80 (.agg #[.int .i64 1])) ∨
  (docB d = true ∧ ((∃ x, x ∈ d.frags ∧ loopN d.frags d.frags = x.name ∧ OkS x.name ∧ x.name.size ≤ 8 ∧ v = .iface 70 (.string x.name)) ∨
    ((∀ x, x ∈ d.frags → reachB d.frags x.sels.spr x.name = false) ∧ loopN d.frags d.frags = ⟨#[]⟩ ∧ v = .nilIface)))
theorem fragsB_mem {l : List FragP} : ∀ {m : List FragP} {i : Nat}, fragsB l m i = true → ∀ x, x ∈ m → wordB x.name = true
  | [], _, _, x, hx => by simp at hx
  | y :: m, i, h, x, hx => by
    unfold fragsB at h
    rw [Bool.and_eq_true] at h
    rcases List.mem_cons.1 hx with rfl | hx
    · have h1 := h.1
      unfold fragB at h1
      simp only [Bool.and_eq_true] at h1
      exact h1.1.1.1.1
    · exact fragsB_mem h.2 x hx
theorem docB_name {d : DocP} (h : docB d = true) {x : FragP} (hx : x ∈ d.frags) : wordB x.name = true := by
  unfold docB at h
  rw [Bool.and_eq_true] at h
  exact fragsB_mem h.2 x hx
theorem wordB_size {s : ByteArray} (h : wordB s = true) : s.size ≤ 8 := by
  unfold wordB at h
  rw [Bool.and_eq_true] at h
  have h1 := h.1
  unfold ofB at h1
  exact (@of_decide_eq_true _ (Classical.propDecidable _) h1).few
theorem look_none {l : List FragP} : ∀ {m : List FragP}, (∀ x, x ∈ m → reachB l x.sels.spr x.name = false) → loopN l m = ⟨#[]⟩
  | [], _ => rfl
  | x :: m, h => by
    unfold loopN
    rw [if_neg (by rw [h x (List.mem_cons_self ..)]; simp)]
    exact look_none fun y hy => h y (List.mem_cons_of_mem _ hy)

set_option maxHeartbeats 4000000 in
theorem implLoopOf (w : World) (A B : Nat) (v : Value) (d : DocP) (hs : DocAt w A B v d) (hB : B ≤ w.heap.size) :
    Calls Tryd.prog 19 #[v] w fun e w' => (∃ v', e = .returned v' ∧ LoopOut d v') ∧ Below w.heap.size w w' := by
  have CR : Hid (∀ w' : World, Below w.heap.size w w' → Calls Tryd.prog 38 #[v] w' fun e w'' => e = .returned (.bool (docB d)) ∧ Below w'.heap.size w' w'') := Lib.hid fun w' h => implDocRight w' A B v d (hs.below hB h) (Nat.le_trans hB h.size)
  obtain ⟨q, hq⟩ : ∃ q, docB d = q := ⟨_, rfl⟩
  have HQ := Lib.hid hq
  rw [hq] at CR
  obtain ⟨a, ca, b, cb, rfl, _, hf, _⟩ := hs
  have HF := Lib.hid hf
  have hlen := hf.2.1
  have HA : Hid (∀ o, Below w.heap.size w (w.alloc o)) := Lib.hid fun o => (Below.refl _ _).alloc (Nat.le_refl _) o
  clear hq hf
  cases q
  · go_enter Tryd.func19, Tryd.ntmps19
    go_wp2_with fail
    refine (CR.out _ (HA.out _)).mono ?_
    rintro e w1 ⟨rfl, hb1⟩
    have HB1 := Lib.hid ((HA.out _).trans (hb1.mono (HA.out _).size))
    clear hb1
    go_wp2_with fail
    go_ret
    exact ⟨⟨_, rfl, .inl ⟨HQ.out, rfl⟩⟩, HB1.out⟩
  have HALL := Lib.hid (docB_all HQ.out)
  go_enter Tryd.func19, Tryd.ntmps19
  go_wp2_with fail
  refine (CR.out _ (HA.out _)).mono ?_
  rintro e w1 ⟨rfl, hb1⟩
  have HB1 := Lib.hid ((HA.out _).trans (hb1.mono (HA.out _).size))
  have k0 := hb1.cell (p := ⟨w.heap.size, 0, none⟩) (by simp)
  have k1 := hb1.cell (p := ⟨w.heap.size, 1, none⟩) (by simp)
  simp at k0 k1
  have hz1 : w.heap.size < w1.heap.size := by have := hb1.size; simp at this; omega
  clear hb1
  go_wp2_with fail
  go_loopw [13] (fun i wr => ∃ (i' : Nat), i' ≤ d.frags.length ∧ Hid (∀ x, x ∈ d.frags.take i' → reachB d.frags x.sels.spr x.name = false) ∧ Hid (loopN d.frags d.frags = loopN d.frags (d.frags.drop i')) ∧ i = .int .i64 i' ∧ wr.cell? ⟨w.heap.size, 1, none⟩ = some (.slice b d.frags.length cb) ∧ w.heap.size < wr.heap.size ∧ Below w.heap.size w wr) (fun i _ => d.frags.length - (intOf i).toNat)
  case atStart => exact ⟨0, by omega, Lib.hid (fun x hx => by simp at hx), Lib.hid (by rw [List.drop_zero]), rfl, k1, hz1, HB1.out⟩
  case round =>
    obtain ⟨i, hi, hno, hm, rfl, hk1, hz, hb⟩ := hrel
    have HB := Lib.hid hb
    clear k0 k1 hz1 HB1
    by_cases hlt : i < d.frags.length
    · have hli : (i : Int) < (d.frags.length : Int) := by omega
      obtain ⟨x, fb, off, a', cap', hd, rfl, hbb, hok, ⟨hc0, hc1, hc2⟩, hu⟩ := (HF.out.below (Nat.le_refl _) (hb.mono hB)).at hlt
      have HD := Lib.hid hd
      have HU := Lib.hid hu
      have HOK := Lib.hid hok
      have HZ := Lib.hid hz
      have HXA := Lib.hid (Nat.le_trans (fragAll_mem hd) HALL.out)
      obtain ⟨wa, hwa⟩ : ∃ wa, wr.alloc (.cells #[.string x.name, .string x.on, .slice a' x.sels.len cap'] 59) = wa := ⟨_, rfl⟩
      have HXA1 : Hid (Below wr.heap.size wr (wr.alloc (.cells #[.string x.name, .string x.on, .slice a' x.sels.len cap'] 59))) := Lib.hid ((Below.refl _ _).alloc (Nat.le_refl _) _)
      have hzz : wr.heap.size < (wr.alloc (.cells #[.string x.name, .string x.on, .slice a' x.sels.len cap'] 59)).drew.heap.size := by show _ < (wr.alloc _).heap.size; simp
      have e1 : (wr.alloc (.cells #[.string x.name, .string x.on, .slice a' x.sels.len cap'] 59)).drew.cell? ⟨w.heap.size, 1, none⟩ = some (.slice (some ⟨fb, off, none⟩) d.frags.length cb) := by
        show (wr.alloc _).cell? _ = _
        rw [World.cell?_alloc_lt _ _ ⟨w.heap.size, 1, none⟩ hz]; exact hk1
      have g0 : (wr.alloc (.cells #[.string x.name, .string x.on, .slice a' x.sels.len cap'] 59)).drew.cell? ⟨wr.heap.size, 0, none⟩ = some (.string x.name) := by show (wr.alloc _).cell? _ = _; simp
      have g1 : (wr.alloc (.cells #[.string x.name, .string x.on, .slice a' x.sels.len cap'] 59)).drew.cell? ⟨wr.heap.size, 1, none⟩ = some (.string x.on) := by show (wr.alloc _).cell? _ = _; simp
      have g2 : (wr.alloc (.cells #[.string x.name, .string x.on, .slice a' x.sels.len cap'] 59)).drew.cell? ⟨wr.heap.size, 2, none⟩ = some (.slice a' x.sels.len cap') := by show (wr.alloc _).cell? _ = _; simp
      have HWD : Hid (Below w.heap.size w (wr.alloc (.cells #[.string x.name, .string x.on, .slice a' x.sels.len cap'] 59)).drew) := Lib.hid (HB.out.alloc HB.out.size _).drew
      have CQ : Hid (Calls Tryd.prog 39 #[.slice (some ⟨fb, off, none⟩) d.frags.length cb, .agg #[.string x.name, .string x.on, .slice a' x.sels.len cap']] (wr.alloc (.cells #[.string x.name, .string x.on, .slice a' x.sels.len cap'] 59)).drew fun e w'' => ReachOut w'' d.frags x.sels.spr e ∧ Below (wr.alloc (.cells #[.string x.name, .string x.on, .slice a' x.sels.len cap'] 59)).drew.heap.size (wr.alloc (.cells #[.string x.name, .string x.on, .slice a' x.sels.len cap'] 59)).drew w'') := Lib.hid
        (implReached _ A B (some ⟨fb, off, none⟩) cb d.frags _ x (HF.out.below hB HWD.out) ⟨a', cap', rfl, HOK.out, HU.out.below (Nat.le_trans hB HB.out.size) HXA1.out.drew⟩ (Nat.le_trans hB HWD.out.size) HXA.out HALL.out)
      clear hlt hd hb hu hok hwa
      go_wp2_with fail
      go_region_with (go_at_call 39; refine CQ.out.mono ?_; rintro e w3 ⟨⟨mb, mn, D, rfl, hom, seen, hsd, hre⟩, hb3⟩; have hrun := hsd.look hom x.name HOK.out.1; have q1 := Rw.kcell hb3 (Nat.lt_trans hz hzz) e1; have q2 := Rw.kcell hb3 hzz g0)
      all_goals
        have HB3 := Lib.hid (HWD.out.trans (hb3.mono HWD.out.size))
        have hz3 : w.heap.size < w3.heap.size := Nat.lt_of_lt_of_le (Nat.lt_trans hz hzz) hb3.size
        have hrb : Hid (reachB d.frags x.sels.spr x.name = Nm.inN x.name seen) := Lib.hid (reachB_of (Nm.inN_mem.trans (hre _)))
        clear hb3 hre hrun hsd hom e1 g0 g1 g2 hzz
        generalize Nm.inN x.name seen = p at *
        cases p
        · have hrel : Hid (∀ y, y ∈ d.frags.take (i + 1) → reachB d.frags y.sels.spr y.name = false) := Lib.hid fun y hy => by
            rw [List.take_add_one, HD.out] at hy
            rcases List.mem_append.1 hy with h | h
            · exact hno.out y h
            · simp at h; subst h; exact hrb.out
          have hrel2 := Lib.hid (hm.out.trans (loopN_miss HD.out hrb.out))
          go_wp2_with fail
          go_roundw
          case rel => exact ⟨i + 1, by omega, hrel, hrel2, by go_num, q1, hz3, HB3.out⟩
          case measure => simp [intOf]; omega
        · have hf := Lib.hid (hm.out.trans (loopN_hit HD.out hrb.out))
          go_wp2_with fail
          go_ret
          exact ⟨⟨_, rfl, .inr ⟨HQ.out, .inl ⟨x, List.mem_iff_getElem?.2 ⟨i, HD.out⟩, hf.out, HOK.out.1, wordB_size (docB_name HQ.out (List.mem_iff_getElem?.2 ⟨i, HD.out⟩)), rfl⟩⟩⟩, HB3.out⟩
    · obtain rfl : i = d.frags.length := by omega
      have hf : Hid (∀ x, x ∈ d.frags → reachB d.frags x.sels.spr x.name = false) := Lib.hid (by have := hno.out; rwa [List.take_length] at this)
      clear hlt hb
      go_wp2_with fail
      go_ret
      exact ⟨⟨_, rfl, .inr ⟨HQ.out, .inr ⟨hf.out, look_none hf.out, rfl⟩⟩⟩, HB.out⟩
end Go.Proofs.YthdncjdopejkkaaDoor.Selss
