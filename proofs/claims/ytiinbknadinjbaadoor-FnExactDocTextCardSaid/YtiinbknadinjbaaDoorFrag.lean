/-
  Frags and a Doc in memory; contracts: laws.szDoc, toDoc, eqDoc tell their size, make one like it in new memory, say of like ones that they are; of what was there nothing is changed. Conditions: in memory; sizes as each theorem says.
-/
import Derived.Test.YtiinbknadinjbaaDoorRows
import Derived.Test.YtiinbknadinjbaaDoorEqSel
namespace Go.Proofs.YtiinbknadinjbaaDoor.Selss
open Go.RowKit
set_option linter.unusedVariables false

structure FragP where
  name : ByteArray
  on : ByteArray
  sels : Sels
/-- Frag x lies in block b at cell o. -/
structure FragLie (w : World) (A B : Nat) (b o : Nat) (x : FragP) : Prop where
  okn : OkS x.name
  oko : OkS x.on
  c0 : w.cell? ⟨b, o, none⟩ = some (.string x.name)
  c1 : w.cell? ⟨b, o + 1, none⟩ = some (.string x.on)
  c2 : ∃ a cap, w.cell? ⟨b, o + 2, none⟩ = some (.slice a x.sels.len cap) ∧ SelsAt w A B a x.sels.len x.sels
/-- A slice that holds the Frags l. -/
def FragsAt (w : World) (A B : Nat) (a : Option Addr) (len : Nat) (l : List FragP) : Prop :=
  l.length = len ∧ len ≤ 9223372036854775807 ∧ (l = [] ∨ ∃ b off, a = some ⟨b, off, none⟩ ∧ A ≤ b ∧ b < B ∧ ∀ i x, l[i]? = some x → FragLie w A B b (off + i * 3) x)
theorem SelsAt.block {w w' : World} {A B len : Nat} {a : Option Addr} {s : Sels} (h : SelsAt w A B a len s) (hw : ∀ c, A ≤ c → c < B → w'.heap[c]? = w.heap[c]?) : SelsAt w' A B a len s :=
  ⟨h.1, h.2.1, h.2.2.imp id fun ⟨b, off, ha, hA, hl⟩ => ⟨b, off, ha, hA, hl.block hw hA⟩⟩
theorem FragLie.frame {w w' : World} {A B b o : Nat} {x : FragP} (h : FragLie w A B b o x) (hw : ∀ c, A ≤ c → c < B → w'.heap[c]? = w.heap[c]?) (he : ∀ j, o ≤ j → j < o + 3 → w'.cell? ⟨b, j, none⟩ = w.cell? ⟨b, j, none⟩) : FragLie w' A B b o x := by
  obtain ⟨a, cap, hc, hs⟩ := h.c2
  exact ⟨h.okn, h.oko, (he _ (by omega) (by omega)).trans h.c0, (he _ (by omega) (by omega)).trans h.c1, a, cap, (he _ (by omega) (by omega)).trans hc, hs.block hw⟩
theorem FragLie.wide {w : World} {A B A' B' b o : Nat} {x : FragP} (h : FragLie w A B b o x) (hA : A' ≤ A) (hB : B ≤ B') : FragLie w A' B' b o x := by
  obtain ⟨a, cap, hc, hs⟩ := h.c2
  exact ⟨h.okn, h.oko, h.c0, h.c1, a, cap, hc, hs.wide hA hB⟩
theorem FragsAt.block {w w' : World} {A B len : Nat} {a : Option Addr} {l : List FragP} (h : FragsAt w A B a len l) (hw : ∀ c, A ≤ c → c < B → w'.heap[c]? = w.heap[c]?) : FragsAt w' A B a len l :=
  ⟨h.1, h.2.1, h.2.2.imp id fun ⟨b, off, ha, hA, hB, hl⟩ => ⟨b, off, ha, hA, hB, fun i x hx => (hl i x hx).frame hw fun j _ _ => World.cell?_of_block (w := w) (hw b hA hB)⟩⟩
theorem FragsAt.below {w w' : World} {A B C len : Nat} {a : Option Addr} {l : List FragP} (h : FragsAt w A B a len l) (hB : B ≤ C) (g : Below C w w') : FragsAt w' A B a len l := h.block fun c _ hc => g.block c (by omega)
theorem FragsAt.wide {w : World} {A B A' B' len : Nat} {a : Option Addr} {l : List FragP} (h : FragsAt w A B a len l) (hA : A' ≤ A) (hB : B ≤ B') : FragsAt w A' B' a len l :=
  ⟨h.1, h.2.1, h.2.2.imp id fun ⟨b, off, ha, hb, hb', hl⟩ => ⟨b, off, ha, by omega, by omega, fun i x hx => (hl i x hx).wide hA hB⟩⟩
theorem FragsAt.at {w : World} {A B len : Nat} {a : Option Addr} {l : List FragP} (h : FragsAt w A B a len l) {i : Nat} (hi : i < len) :
    ∃ x b off a' cap, l[i]? = some x ∧ a = some ⟨b, off, none⟩ ∧ b < B ∧ (OkS x.name ∧ OkS x.on) ∧
      (w.cell? ⟨b, off + i * 3, none⟩ = some (.string x.name) ∧ w.cell? ⟨b, off + i * 3 + 1, none⟩ = some (.string x.on) ∧ w.cell? ⟨b, off + i * 3 + 2, none⟩ = some (.slice a' x.sels.len cap)) ∧ SelsAt w A B a' x.sels.len x.sels := by
  have hl : i < l.length := by rw [h.1]; exact hi
  have hx : l[i]? = some l[i] := List.getElem?_eq_getElem hl
  rcases h.2.2 with rfl | ⟨b, off, ha, hA, hB, hl⟩
  · simp at hl
  · have hf := hl i _ hx
    obtain ⟨a', cap, hc, hs⟩ := hf.c2
    exact ⟨_, b, off, a', cap, hx, ha, hB, ⟨hf.okn, hf.oko⟩, ⟨hf.c0, hf.c1, hc⟩, hs⟩

/-- What Frags weigh, beside how many there are. -/
def fragWt : List FragP → Nat
  | [] => 0
  | x :: l => x.name.size + x.on.size + x.sels.len + x.sels.wt + fragWt l
theorem fragWt_drop {l : List FragP} {i : Nat} {x : FragP} (h : l[i]? = some x) : fragWt (l.drop i) = x.name.size + x.on.size + x.sels.len + x.sels.wt + fragWt (l.drop (i + 1)) := by
  obtain ⟨hl, rfl⟩ := List.getElem?_eq_some_iff.1 h
  rw [List.drop_eq_getElem_cons hl]; rfl
theorem fragWt_mem {x : FragP} : ∀ {l : List FragP} {i : Nat}, l[i]? = some x → x.sels.len + x.sels.wt ≤ fragWt l
  | y :: l, 0, h => by cases h; simp only [fragWt]; omega
  | y :: l, i + 1, h => by have := fragWt_mem (l := l) (i := i) (by simpa using h); simp only [fragWt]; omega

theorem szFrag (w : World) (A B : Nat) (hB : B ≤ w.heap.size) (key nm : ByteArray) (a : Option Addr) (cap : Nat) (u : Sels)
    (hs : SelsAt w A B a u.len u) (hk : OkS key) (hn : OkS nm) (left : Int) (h0 : 0 ≤ left) (h1 : left ≤ 1048576) :
    Calls Tryd.prog 21 #[.agg #[.string key, .string nm, .slice a u.len cap], .int .i64 left] w fun e w' => e = .returned (.int .i64 (leftOf left (key.size + nm.size + u.len + u.wt))) ∧ Below w.heap.size w w' := by
  unfold OkS at hk hn
  have IH : Hid (∀ (w : World) (left : Int), SelsAt w A B a u.len u → B ≤ w.heap.size → 0 ≤ left → left ≤ 1048576 → Calls Tryd.prog 9 #[.slice a u.len cap, .int .i64 left] w fun e w' => e = .returned (.int .i64 (leftOf left (u.len + u.wt))) ∧ Below w.heap.size w w') :=
    Lib.hid fun w left h1 h2 h3 h4 => szSelS (u.all + 1) u (Nat.lt_succ_self _) w A B a cap left h1 h2 h3 h4
  have HS := Lib.hid hs
  have HA : Hid (∀ o, Below w.heap.size w (w.alloc o)) := Lib.hid fun o => (Below.refl _ _).alloc (Nat.le_refl _) o
  clear hs
  by_cases c1 : left - (key.size : Int) < 0
  · have hf := Lib.hid (leftOf_no (left := left) (n := key.size + nm.size + u.len + u.wt) (by omega))
    go_enter Tryd.func21, Tryd.ntmps21
    go_wp2_with fail
    go_ret
    exact ⟨ret_i hf.out, HA.out _⟩
  have c1' : 0 ≤ left - (key.size : Int) := by omega
  clear c1
  by_cases c2 : left - (key.size : Int) - (nm.size : Int) < 0
  · have hf := Lib.hid (leftOf_no (left := left) (n := key.size + nm.size + u.len + u.wt) (by omega))
    go_enter Tryd.func21, Tryd.ntmps21
    go_wp2_with fail
    go_ret
    exact ⟨ret_i hf.out, HA.out _⟩
  have c2' : 0 ≤ left - (key.size : Int) - (nm.size : Int) := by omega
  clear c2
  go_enter Tryd.func21, Tryd.ntmps21
  go_wp2_with fail
  refine (IH.out _ _ (HS.out.below hB (HA.out _)) (Nat.le_trans hB (HA.out _).size) (by omega) (by omega)).mono ?_
  rintro e w1 ⟨rfl, hb1⟩
  have HB1 := Lib.hid ((HA.out _).trans (hb1.mono (HA.out _).size))
  clear hb1
  by_cases c3 : ((u.len + u.wt : Nat) : Int) ≤ left - (key.size : Int) - (nm.size : Int)
  · have e3 : leftOf (left - (key.size : Int) - (nm.size : Int)) (u.len + u.wt) = left - (key.size : Int) - (nm.size : Int) - ((u.len + u.wt : Nat) : Int) := if_pos c3
    rw [e3]
    have hf := Lib.hid (leftOf_yes (left := left) (n := key.size + nm.size + u.len + u.wt) (m := left - (key.size : Int) - (nm.size : Int) - ((u.len + u.wt : Nat) : Int)) (by omega) (by omega))
    have hlo : 0 ≤ left - (key.size : Int) - (nm.size : Int) - ((u.len + u.wt : Nat) : Int) := by omega
    generalize left - (key.size : Int) - (nm.size : Int) - ((u.len + u.wt : Nat) : Int) = m at *
    go_wp2_with fail
    go_ret
    exact ⟨ret_i hf.out, HB1.out⟩
  · have e3 : leftOf (left - (key.size : Int) - (nm.size : Int)) (u.len + u.wt) = -1 := if_neg c3
    rw [e3]
    have hf := Lib.hid (leftOf_no (left := left) (n := key.size + nm.size + u.len + u.wt) (by omega))
    clear c3
    go_wp2_with fail
    go_ret
    exact ⟨ret_i hf.out, HB1.out⟩

theorem szFragS (w : World) (A B : Nat) (a : Option Addr) (len cap : Nat) (l : List FragP) (left : Int) (hs : FragsAt w A B a len l) (hB : B ≤ w.heap.size) (h0 : 0 ≤ left) (h1 : left ≤ 1048576) :
    Calls Tryd.prog 10 #[.slice a len cap, .int .i64 left] w fun e w' => e = .returned (.int .i64 (leftOf left (len + fragWt l))) ∧ Below w.heap.size w w' := by
  have hlen := hs.2.1
  have HS := Lib.hid hs
  clear hs
  by_cases c1 : left - (len : Int) < 0
  · have hf := Lib.hid (leftOf_no (left := left) (n := len + fragWt l) (by omega))
    go_enter Tryd.func10, Tryd.ntmps10
    go_wp2_with fail
    go_ret
    exact ⟨ret_i hf.out, Below.refl _ _⟩
  have c1' : 0 ≤ left - (len : Int) := by omega
  clear c1
  go_enter Tryd.func10, Tryd.ntmps10
  go_wp2_with fail
  go_loopw [1, 5] (fun v i wr => ∃ (i' : Nat) (m : Int), i' ≤ len ∧ 0 ≤ m ∧ m ≤ 1048576 ∧ Hid (m + ((len + fragWt l : Nat) : Int) = left + (fragWt (l.drop i') : Int)) ∧ v = .int .i64 m ∧ i = .int .i64 i' ∧ Below w.heap.size w wr) (fun _ i _ => len - (intOf i).toNat)
  case atStart => exact ⟨0, left - len, by omega, by omega, by omega, Lib.hid (by rw [List.drop_zero]; omega), rfl, rfl, Below.refl _ _⟩
  case round =>
    obtain ⟨i, m, hi, hm0, hm1, hm, rfl, rfl, hb⟩ := hrel
    by_cases hlt : i < len
    · have hli : (i : Int) < (len : Int) := by omega
      obtain ⟨⟨key, nm, u⟩, b, off, a', cap', hd, rfl, hbb, ⟨okey, onm⟩, ⟨hc0, hc1, hc2⟩, hu⟩ := (HS.out.below (Nat.le_refl _) (hb.mono hB)).at hlt
      have hwt := Lib.hid (fragWt_drop hd)
      dsimp only at hwt okey onm hc0 hc1 hc2 hu
      have HB := Lib.hid hb
      clear hlt hd hb
      go_wp2_with fail
      refine (szFrag _ A B (Nat.le_trans hB HB.out.size) key nm a' cap' u hu okey onm m hm0 hm1).mono ?_
      rintro e w1 ⟨rfl, hb1⟩
      have HB1 := Lib.hid (HB.out.trans (hb1.mono HB.out.size))
      clear hb1 hu
      by_cases c3 : ((key.size + nm.size + u.len + u.wt : Nat) : Int) ≤ m
      · have e3 : leftOf m (key.size + nm.size + u.len + u.wt) = m - ((key.size + nm.size + u.len + u.wt : Nat) : Int) := if_pos c3
        rw [e3]
        have hlo : 0 ≤ m - ((key.size + nm.size + u.len + u.wt : Nat) : Int) := by omega
        have hhi : m - ((key.size + nm.size + u.len + u.wt : Nat) : Int) ≤ 1048576 := by omega
        have hrel : Hid (m - ((key.size + nm.size + u.len + u.wt : Nat) : Int) + ((len + fragWt l : Nat) : Int) = left + (fragWt (l.drop (i + 1)) : Int)) := Lib.hid (by
          have e1 := hm.out; have e2 := hwt.out; omega)
        generalize m - ((key.size + nm.size + u.len + u.wt : Nat) : Int) = m' at *
        clear c3 e3 hm
        go_wp2_with fail
        go_roundw
        case rel => exact ⟨i + 1, m', by omega, hlo, hhi, hrel, rfl, by go_num, HB1.out⟩
        case measure => simp [intOf]; omega
      · have e3 : leftOf m (key.size + nm.size + u.len + u.wt) = -1 := if_neg c3
        rw [e3]
        have hf := Lib.hid (leftOf_no (left := left) (n := len + fragWt l) (by have e1 := hm.out; have e2 := hwt.out; omega))
        clear c3 e3 hm
        go_wp2_with fail
        go_ret
        exact ⟨ret_i hf.out, HB1.out⟩
    · obtain rfl : i = len := by omega
      have HB := Lib.hid hb
      have hf := Lib.hid (leftOf_yes (left := left) (n := i + fragWt l) hm0 (by have e1 := hm.out; rw [List.drop_eq_nil_of_le (by rw [HS.out.1]; exact Nat.le_refl _)] at e1; simp only [fragWt] at e1; omega))
      clear hlt hb hm
      go_wp2_with fail
      go_ret
      exact ⟨ret_i hf.out, HB.out⟩

/-- A Doc. -/
structure DocP where
  sels : Sels
  frags : List FragP
def DocP.wt (d : DocP) : Nat := d.sels.len + d.sels.wt + (d.frags.length + fragWt d.frags)
/-- A value that is the Doc d. -/
def DocAt (w : World) (A B : Nat) (v : Value) (d : DocP) : Prop := ∃ a ca b cb, v = .agg #[.slice a d.sels.len ca, .slice b d.frags.length cb] ∧ SelsAt w A B a d.sels.len d.sels ∧ FragsAt w A B b d.frags.length d.frags ∧ d.frags.length ≤ cb
theorem DocAt.below {w w' : World} {A B C : Nat} {v : Value} {d : DocP} (h : DocAt w A B v d) (hB : B ≤ C) (g : Below C w w') : DocAt w' A B v d := by
  obtain ⟨a, ca, b, cb, hv, h1, h2, h3⟩ := h
  exact ⟨a, ca, b, cb, hv, h1.below hB g, h2.below hB g, h3⟩
theorem DocAt.wide {w : World} {A B A' B' : Nat} {v : Value} {d : DocP} (h : DocAt w A B v d) (hA : A' ≤ A) (hB : B ≤ B') : DocAt w A' B' v d := by
  obtain ⟨a, ca, b, cb, hv, h1, h2, h3⟩ := h
  exact ⟨a, ca, b, cb, hv, h1.wide hA hB, h2.wide hA hB, h3⟩
theorem leftOf_two {left : Int} {m n : Nat} (h : (m : Int) ≤ left) : leftOf (leftOf left m) n = leftOf left (m + n) := by
  unfold leftOf; rw [if_pos h]; split <;> split <;> omega
theorem leftOf_wide {left : Int} {m n : Nat} (h : ¬ (m : Int) ≤ left) : leftOf left (m + n) = -1 := if_neg (by omega)

theorem szDoc (w : World) (A B : Nat) (v : Value) (d : DocP) (left : Int) (hs : DocAt w A B v d) (hB : B ≤ w.heap.size) (h0 : 0 ≤ left) (h1 : left ≤ 1048576) :
    Calls Tryd.prog 4 #[v, .int .i64 left] w fun e w' => e = .returned (.int .i64 (leftOf left d.wt)) ∧ Below w.heap.size w w' := by
  obtain ⟨a, ca, b, cb, rfl, hd, hf, _⟩ := hs
  have IH : Hid (∀ (w : World), SelsAt w A B a d.sels.len d.sels → B ≤ w.heap.size → Calls Tryd.prog 9 #[.slice a d.sels.len ca, .int .i64 left] w fun e w' => e = .returned (.int .i64 (leftOf left (d.sels.len + d.sels.wt))) ∧ Below w.heap.size w w') :=
    Lib.hid fun w h2 h3 => szSelS (d.sels.all + 1) d.sels (Nat.lt_succ_self _) w A B a ca left h2 h3 h0 h1
  have HD := Lib.hid hd
  have HF := Lib.hid hf
  have HA : Hid (∀ o, Below w.heap.size w (w.alloc o)) := Lib.hid fun o => (Below.refl _ _).alloc (Nat.le_refl _) o
  clear hd hf
  go_enter Tryd.func4, Tryd.ntmps4
  go_wp2_with fail
  refine (IH.out _ (HD.out.below hB (HA.out _)) (Nat.le_trans hB (HA.out _).size)).mono ?_
  rintro e w1 ⟨rfl, hb1⟩
  have HB1 := Lib.hid ((HA.out _).trans (hb1.mono (HA.out _).size))
  have k0 := hb1.cell (p := ⟨w.heap.size, 0, none⟩) (by simp)
  have k1 := hb1.cell (p := ⟨w.heap.size, 1, none⟩) (by simp)
  simp at k0 k1
  clear hb1
  by_cases c3 : ((d.sels.len + d.sels.wt : Nat) : Int) ≤ left
  · have e3 : leftOf left (d.sels.len + d.sels.wt) = left - ((d.sels.len + d.sels.wt : Nat) : Int) := if_pos c3
    have e4 : Hid (leftOf (left - ((d.sels.len + d.sels.wt : Nat) : Int)) (d.frags.length + fragWt d.frags) = leftOf left d.wt) := Lib.hid (by rw [← e3]; exact leftOf_two c3)
    rw [e3]
    have hlo : 0 ≤ left - ((d.sels.len + d.sels.wt : Nat) : Int) := by omega
    have hhi : left - ((d.sels.len + d.sels.wt : Nat) : Int) ≤ 1048576 := by omega
    generalize left - ((d.sels.len + d.sels.wt : Nat) : Int) = m at *
    clear c3 e3
    go_wp2_with fail
    refine (szFragS _ A B b _ cb d.frags m (HF.out.below hB HB1.out) (Nat.le_trans hB HB1.out.size) hlo hhi).mono ?_
    rintro e w2 ⟨rfl, hb2⟩
    have HB2 := Lib.hid (HB1.out.trans (hb2.mono HB1.out.size))
    have e5 := e4.out
    clear hb2 k0 k1
    rw [e5]
    have hx : leftOf left d.wt = -1 ∨ 0 ≤ leftOf left d.wt := by unfold leftOf; split <;> omega
    obtain ⟨x, hxe⟩ : ∃ x, leftOf left d.wt = x := ⟨_, rfl⟩
    rw [hxe] at hx ⊢
    have HX := Lib.hid hxe
    clear hxe e5 e4
    rcases hx with rfl | hx
    · go_wp2_with fail
      go_ret
      exact ⟨ret_i HX.out.symm, HB2.out⟩
    · go_wp2_with fail
      go_ret
      exact ⟨ret_i HX.out.symm, HB2.out⟩
  · have e3 : leftOf left (d.sels.len + d.sels.wt) = -1 := if_neg c3
    have hf := Lib.hid (leftOf_wide (n := d.frags.length + fragWt d.frags) c3)
    rw [e3]
    clear c3
    go_wp2_with fail
    go_ret
    exact ⟨ret_i hf.out.symm, HB1.out⟩
end Go.Proofs.YtiinbknadinjbaaDoor.Selss
