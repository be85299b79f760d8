/-
  Contracts: spec.DocText answers the text of a right Doc, else the empty text; of what was there nothing is changed. Conditions: in memory.
-/
import Derived.Test.YtnkknfnndoegpaaGreatDoorRows
import Derived.Test.YtnkknfnndoegpaaGreatDoorTextC
import Derived.Deep.RegionHeld3
namespace Go.Proofs.YtnkknfnndoegpaaGreatDoor.Selss
open Go.RowKit Words Decs
set_option linter.unusedVariables false
set_option maxRecDepth 100000

/-- What a Frag tells. -/
def fragT (x : FragP) : ByteArray := ((((sB [32, 102, 114, 97, 103, 109, 101, 110, 116, 32] ++ x.name) ++ sB [32, 111, 110, 32]) ++ x.on) ++ sB [32]) ++ x.sels.text
def fragsT : List FragP → ByteArray
  | [] => ByteArray.empty
  | x :: l => fragT x ++ fragsT l
theorem fragsT_drop {l : List FragP} {i : Nat} {x : FragP} (h : l[i]? = some x) : fragsT (l.drop i) = fragT x ++ fragsT (l.drop (i + 1)) := by
  obtain ⟨hl, rfl⟩ := List.getElem?_eq_some_iff.1 h
  rw [List.drop_eq_getElem_cons hl]; rfl
/-- The text of a Doc. -/
noncomputable def docT (d : DocP) : ByteArray := if docB d = true then d.sels.text ++ fragsT d.frags else ByteArray.empty
theorem docT_yes {d : DocP} (h : docB d = true) : d.sels.text ++ fragsT d.frags = docT d := by unfold docT; rw [if_pos h]
theorem docT_no {d : DocP} (h : docB d = false) : ByteArray.empty = docT d := by unfold docT; rw [h]; rfl
theorem fragsB_at {l : List FragP} : ∀ {m : List FragP} {k : Nat}, fragsB l m k = true → ∀ {i : Nat} {x : FragP}, m[i]? = some x → fragB l (k + i) x = true
  | [], _, _, i, x, h => by simp at h
  | y :: m, k, hb, i, x, h => by
    unfold fragsB at hb
    simp only [Bool.and_eq_true] at hb
    cases i with
    | zero => simp at h; subst h; exact hb.1
    | succ i =>
      have := fragsB_at hb.2 (i := i) (x := x) (by simpa using h)
      rw [show k + (i + 1) = k + 1 + i by omega]; exact this
theorem docB_parts {d : DocP} (h : docB d = true) : 0 < d.sels.len ∧ d.frags.length ≤ 5 ∧ d.all ≤ 60 ∧ selsB d.sels 6 = true ∧ fragsB d.frags d.frags 0 = true := by
  unfold docB at h
  simp only [Bool.and_eq_true, decide_eq_true_eq] at h
  exact ⟨h.1.1.1.1, h.1.1.1.2, h.1.1.2, h.1.2, h.2⟩
theorem fragB_parts {l : List FragP} {i : Nat} {x : FragP} (h : fragB l i x = true) : wordB x.name = true ∧ findN x.name l 0 = (i : Int) ∧ typeB x.on = true ∧ 0 < x.sels.len ∧ selsB x.sels 6 = true := by
  unfold fragB at h
  simp only [Bool.and_eq_true, decide_eq_true_eq, beq_iff_eq] at h
  exact ⟨h.1.1.1.1, h.1.1.1.2, h.1.1.2, h.1.2, h.2⟩
theorem fragAll_mem {x : FragP} : ∀ {l : List FragP} {i : Nat}, l[i]? = some x → x.sels.all ≤ fragAll l
  | y :: l, 0, h => by cases h; simp only [fragAll]; omega
  | y :: l, i + 1, h => by have := fragAll_mem (l := l) (i := i) (by simpa using h); simp only [fragAll]; omega
theorem fragT_size {l : List FragP} {i : Nat} {x : FragP} (h : fragB l i x = true) (ha : x.sels.all ≤ 60) : (fragT x).size ≤ 2500 := by
  obtain ⟨h1, _, h2, _, h3⟩ := fragB_parts h
  have := wordB_size h1
  have := typeB_size h2
  have := text_size h3
  unfold fragT
  simp [ByteArray.size_append, sB_size]; omega

set_option maxRecDepth 100000 in
set_option maxHeartbeats 2000000 in
theorem specDocText (w : World) (A B : Nat) (v : Value) (d : DocP) (hs : DocAt w A B v d) (hB : B ≤ w.heap.size) :
    Calls Tryz.prog 13 #[v] w fun e w' => e = .returned (.string (docT d)) ∧ Below w.heap.size w w' := by
  have CR : Hid (∀ w' : World, Below w.heap.size w w' → Calls Tryz.prog 20 #[v] w' fun e w'' => e = .returned (.bool (docB d)) ∧ Below w'.heap.size w' w'') := Lib.hid fun w' h => specDocRight w' A B v d (hs.below hB h) (Nat.le_trans hB h.size)
  obtain ⟨a, ca, b, cb, rfl, hsd, hsf, _⟩ := hs
  have HA : Hid (∀ o, Below w.heap.size w (w.alloc o)) := Lib.hid fun o => (Below.refl _ _).alloc (Nat.le_refl _) o
  obtain ⟨q, hb⟩ : ∃ q, docB d = q := ⟨_, rfl⟩
  rw [hb] at CR
  cases q
  · have hf := Lib.hid (docT_no hb)
    clear hb hsd hsf
    go_enter Tryz.func13, Tryz.ntmps13
    go_wp2_with fail
    refine (CR.out _ (HA.out _)).mono ?_
    rintro e w1 ⟨rfl, hb1⟩
    have HB1 := Lib.hid ((HA.out _).trans (hb1.mono (HA.out _).size))
    clear hb1
    go_wp2_with fail
    go_ret
    exact ⟨Decs.ret_string hf.out, HB1.out⟩
  have hf := Lib.hid (docT_yes hb)
  obtain ⟨_, hfl, hall, hsel, hfr⟩ := docB_parts hb
  have hall2 : d.sels.all ≤ 60 := by unfold DocP.all at hall; omega
  have hall3 : fragAll d.frags ≤ 60 := by unfold DocP.all at hall; omega
  have htx := text_size hsel
  have CS : Hid (∀ (w' : World), Below w.heap.size w w' → Calls Tryz.prog 21 #[.slice a d.sels.len ca] w' fun e w'' => e = .returned (.string d.sels.text) ∧ Below w'.heap.size w' w'') :=
    Lib.hid fun w' h => specText (d.sels.all + 1) d.sels (Nat.lt_succ_self _) w' A B a ca 6 (hsd.below hB h) (Nat.le_trans hB h.size) hsel (by omega)
  have HF := Lib.hid hsf
  have HFR := Lib.hid hfr
  clear hb hsd hsf hsel hfr
  go_enter Tryz.func13, Tryz.ntmps13
  go_wp2_with fail
  refine (CR.out _ (HA.out _)).mono ?_
  rintro e w1 ⟨rfl, hb1⟩
  have k0 := hb1.cell (p := ⟨w.heap.size, 0, none⟩) (by simp)
  have k1 := hb1.cell (p := ⟨w.heap.size, 1, none⟩) (by simp)
  simp at k0 k1
  have z1 : w.heap.size < w1.heap.size := by have := hb1.size; simp at this; omega
  have HB1 := Lib.hid ((HA.out _).trans (hb1.mono (HA.out _).size))
  clear hb1
  go_wp2_with fail
  refine (CS.out _ HB1.out).mono ?_
  rintro e w2 ⟨rfl, hb2⟩
  obtain ⟨B2, z2, k2, j2⟩ := kstep HB1.out z1 k0 k1 hb2
  have HB2 := Lib.hid B2
  clear hb2 B2 k0 k1 CS CR
  go_wp2_with fail
  go_loopw [3, 4] (fun t i wr => ∃ (i' : Nat) (T : ByteArray), i' ≤ d.frags.length ∧ t = .string T ∧ Hid (T ++ fragsT (d.frags.drop i') = docT d) ∧ T.size ≤ 2403 + 2500 * i' ∧ i = .int .i64 i' ∧ wr.cell? ⟨w.heap.size, 0, none⟩ = some (.slice a d.sels.len ca) ∧ wr.cell? ⟨w.heap.size, 1, none⟩ = some (.slice b d.frags.length cb) ∧ w.heap.size < wr.heap.size ∧ Below w.heap.size w wr) (fun _ i _ => d.frags.length - (intOf i).toNat)
  case atStart => exact ⟨0, _, by omega, rfl, Lib.hid (by rw [List.drop_zero]; exact hf.out), by omega, rfl, k2, j2, z2, HB2.out⟩
  case round =>
    obtain ⟨i, T, hi, rfl, hT, hTs, rfl, hk0, hk1, hz, hb⟩ := hrel
    have HB := Lib.hid hb
    clear k2 j2 z2 HB2 HB1
    by_cases hlt : i < d.frags.length
    · have hli : (i : Int) < (d.frags.length : Int) := by omega
      obtain ⟨x, fb, off, a', cap', hd, rfl, hbb, hox, ⟨hc0, hc1, hc2⟩, hu⟩ := (HF.out.below (Nat.le_refl _) (hb.mono hB)).at hlt
      have hfb := fragsB_at HFR.out hd
      have hxa : x.sels.all ≤ 60 := Nat.le_trans (fragAll_mem hd) hall3
      have hst := Lib.hid (fragsT_drop hd)
      have hsz := fragT_size hfb hxa
      obtain ⟨hw, _, ht, hpos, hxs⟩ := fragB_parts hfb
      have hns := wordB_size hw
      have hos := typeB_size ht
      have hxt : x.sels.text.size ≤ 2403 := by have := text_size hxs; omega
      have HU := Lib.hid hu
      have CX : Hid (∀ (w' : World), Below wr.heap.size wr w' → Calls Tryz.prog 21 #[.slice a' x.sels.len cap'] w' fun e w'' => e = .returned (.string x.sels.text) ∧ Below w'.heap.size w' w'') :=
        Lib.hid fun w' h => specText (x.sels.all + 1) x.sels (Nat.lt_succ_self _) w' A B a' cap' 6 (HU.out.below (Nat.le_trans hB HB.out.size) h) (Nat.le_trans (Nat.le_trans hB HB.out.size) h.size) hxs (by omega)
      have HA3 : Hid (∀ o, Below w.heap.size w (wr.alloc o)) := Lib.hid fun o => HB.out.alloc HB.out.size o
      have HA4 : Hid (∀ o, Below wr.heap.size wr (wr.alloc o)) := Lib.hid fun o => (Below.refl _ _).alloc (Nat.le_refl _) o
      clear hlt hd hb hu hox hfb hw ht hxs
      go_wp2_with fail
      have s1 : ¬ 9223372036854775807 < T.size + 10 := by omega
      have s2 : ¬ 9223372036854775807 < T.size + 10 + x.name.size := by omega
      have s3 : ¬ 9223372036854775807 < T.size + 10 + x.name.size + 4 := by omega
      have s4 : ¬ 9223372036854775807 < T.size + 10 + x.name.size + 4 + x.on.size := by omega
      have s5 : ¬ 9223372036854775807 < T.size + 10 + x.name.size + 4 + x.on.size + 1 := by omega
      have s6 : ¬ 9223372036854775807 < T.size + 10 + x.name.size + 4 + x.on.size + 1 + x.sels.text.size := by omega
      have c0 : ((wr.alloc (.cells #[.string x.name, .string x.on, .slice a' x.sels.len cap'] 40)).drew).cell? ⟨wr.heap.size, 0, none⟩ = some (.string x.name) := by show (wr.alloc _).cell? _ = _; simp
      have c1 : ((wr.alloc (.cells #[.string x.name, .string x.on, .slice a' x.sels.len cap'] 40)).drew).cell? ⟨wr.heap.size, 1, none⟩ = some (.string x.on) := by show (wr.alloc _).cell? _ = _; simp
      have c2 : ((wr.alloc (.cells #[.string x.name, .string x.on, .slice a' x.sels.len cap'] 40)).drew).cell? ⟨wr.heap.size, 2, none⟩ = some (.slice a' x.sels.len cap') := by show (wr.alloc _).cell? _ = _; simp
      have hlz : wr.heap.size < ((wr.alloc (.cells #[.string x.name, .string x.on, .slice a' x.sels.len cap'] 40)).drew).heap.size := by show _ < (wr.alloc _).heap.size; simp
      have HD4 : Hid (Below wr.heap.size wr ((wr.alloc (.cells #[.string x.name, .string x.on, .slice a' x.sels.len cap'] 40)).drew)) := Lib.hid (HA4.out _).drew
      go_region_held3 (fun w' => w'.cell? ⟨wr.heap.size, 0, none⟩ = some (.string x.name) ∧ w'.cell? ⟨wr.heap.size, 1, none⟩ = some (.string x.on) ∧ w'.cell? ⟨wr.heap.size, 2, none⟩ = some (.slice a' x.sels.len cap')) (go_keep)
        (first | (go_at_call 21; refine (CX.out _ (HA4.out _).drew).mono ?_; rintro e w3 ⟨rfl, hb3⟩; have q0 := kcell hb3 hlz c0; have q1 := kcell hb3 hlz c1; have q2 := kcell hb3 hlz c2))
      all_goals
        have HX3 := HD4.out.trans (hb3.mono HD4.out.size)
        obtain ⟨B3, z3, k3, j3⟩ := kstep HB.out hz hk0 hk1 HX3
        have HB3 := Lib.hid B3
        clear hb3 HX3 B3 hk0 hk1 c0 c1 c2 HD4
        go_wp2_with fail
        go_roundw
        case rel => exact ⟨i + 1, _, by omega, rfl, Lib.hid (by rw [← hT.out, hst.out]; simp [fragT, sB, ByteArray.append_assoc]), Nat.le_trans (Nat.le_of_eq (congrArg ByteArray.size (by simp [fragT, sB, ByteArray.append_assoc] : _ = T ++ fragT x))) (by rw [ByteArray.size_append]; omega), by go_num, k3, j3, z3, HB3.out⟩
        case measure => simp [intOf]; omega
    · obtain rfl : i = d.frags.length := by omega
      have hfin : Hid (T = docT d) := Lib.hid (by have := hT.out; rw [List.drop_length] at this; simpa [fragsT] using this)
      clear hlt hb
      go_wp2_with fail
      go_ret
      exact ⟨Decs.ret_string hfin.out, HB.out⟩
end Go.Proofs.YtnkknfnndoegpaaGreatDoor.Selss
