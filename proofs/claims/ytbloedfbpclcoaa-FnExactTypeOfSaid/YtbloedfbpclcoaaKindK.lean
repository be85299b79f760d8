/-
  Contracts: the kinds' members; of what was there nothing is changed. Conditions: in memory, texts of at most 2^20 bytes.
-/
import Derived.Test.YtbloedfbpclcoaaRows
import Derived.Test.YtbloedfbpclcoaaKindJ
import Derived.Test.YtbloedfbpclcoaaOwnRw
import Derived.Deep.RegionWith
namespace Go.Proofs.Ytbloedfbpclcoaa.Rw
open Go.RowKit Words Go.Maps
set_option linter.unusedVariables false
set_option maxRecDepth 100000

/-- Texts in new memory, as a slice. -/
def TextsNew (w w' : World) (l : List ByteArray) (e : Ending) : Prop := ∃ a cap, e = .returned (.slice a l.length cap) ∧ l.length ≤ cap ∧ TextsX w' w.heap.size w'.heap.size a l.length l

theorem membersM1 (w : World) (x : TypeP) (a : Option Addr) (ca : Nat) (c : Option Addr) (cc : Nat) :
    Calls Try.prog 106 #[.agg (x.cells a ca c cc).toArray] w fun e w' => TextsNew w w' [] e ∧ Below w.heap.size w w' := by
  have HA : Hid (∀ o, Below w.heap.size w (w.alloc o)) := Lib.hid fun o => (Below.refl _ _).alloc (Nat.le_refl _) o
  simp only [TypeP.cells]
  go_enter Try.func106, Try.ntmps106
  go_wp2_with fail
  go_ret
  exact ⟨⟨none, 0, rfl, Nat.le_refl _, RowsX.nil (by simp)⟩, HA.out _⟩
theorem membersM2 (w : World) (x : TypeP) (a : Option Addr) (ca : Nat) (c : Option Addr) (cc : Nat) (hk : OkS x.name) (ht : x.name.size ≤ 1048576) :
    Calls Try.prog 126 #[.agg (x.cells a ca c cc).toArray] w fun e w' => TextsNew w w' [x.name] e ∧ Below w.heap.size w w' := by
  have HA : Hid (∀ o, Below w.heap.size w (w.alloc o)) := Lib.hid fun o => (Below.refl _ _).alloc (Nat.le_refl _) o
  have C1 : Hid (∀ w, Calls Try.prog 110 #[.string x.name] w fun e w' => e = .returned (.string x.name) ∧ Below w.heap.size w w') := Lib.hid fun w => Clones.clone _ w (by omega)
  have HK := Lib.hid hk
  obtain ⟨nm, kd, by_, fs, ms⟩ := x
  simp only [TypeP.cells] at C1 HK ⊢
  clear hk
  go_enter Try.func126, Try.ntmps126
  go_wp2_with fail
  refine (C1.out _).mono ?_
  rintro e w1 ⟨rfl, hb1⟩
  have HB1 := Lib.hid ((HA.out _).trans (hb1.mono (HA.out _).size))
  clear hb1
  go_wp2_with fail
  go_ret
  have hn := heap_alloc_new w1 (.cells #[.string nm] 9)
  have hl : w1.heap.size < (w1.alloc (.cells #[.string nm] 9)).heap.size := by simp
  exact ⟨⟨_, 1, rfl, Nat.le_refl _, rfl, by simp, Nat.le_trans HB1.out.size (Nat.le_of_lt hl), .inr ⟨w1.heap.size, 0, rfl, HB1.out.size, hl, LieRX.flat ⟨_, _, hn⟩ hl (Nat.le_trans HB1.out.size (Nat.le_of_lt hl)) fun j y hj => by
    have e : j = 0 := by have := (List.getElem?_eq_some_iff.1 hj).1; simp at this; exact this
    subst e; cases hj
    exact ⟨HK.out, by simp⟩⟩⟩, HB1.out.alloc HB1.out.size _⟩

set_option maxHeartbeats 1000000 in
theorem membersM3 (w : World) (A B : Nat) (x : TypeP) (a : Option Addr) (ca : Nat) (c : Option Addr) (cc : Nat) (hx : TypeAt w A B (.agg (x.cells a ca c cc).toArray) x) (hB : B ≤ w.heap.size) (hml : x.members.length ≤ 1048576) (ht : ∀ m ∈ x.members, m.size ≤ 1048576) :
    Calls Try.prog 139 #[.agg (x.cells a ca c cc).toArray] w fun e w' => TextsNew w w' x.members e ∧ Below w.heap.size w w' := by
  obtain ⟨a', ca', c', cc', hve, hk, ⟨h2, hca⟩, h3, hcc⟩ := hx
  obtain ⟨xn, kd, by_, fs, ms⟩ := x
  simp [TypeP.cells] at hve
  obtain ⟨⟨rfl, rfl⟩, rfl, rfl⟩ := hve
  simp only [TypeP.cells] at h2 h3 hca hcc ht hml ⊢
  have HM := Lib.hid h3
  have HT := Lib.hid ht
  have HOK : Hid (∀ m ∈ ms, OkS m) := Lib.hid (rows_all h3 fun _ _ _ h => h.1)
  have HA : Hid (∀ o, Below w.heap.size w (w.alloc o)) := Lib.hid fun o => (Below.refl _ _).alloc (Nat.le_refl _) o
  clear h2 h3 ht
  go_enter Try.func139, Try.ntmps139
  go_wp2_with fail
  go_loopw [3, 9] (fun v i wr => ∃ (i' : Nat) (av : Option Addr) (cap : Nat), i' ≤ ms.length ∧ i = .int .i64 i' ∧ v = .slice av i' cap ∧ Hid (OwnTs wr w.heap.size (.slice av i' cap) (ms.take i')) ∧ Below w.heap.size w wr) (fun _ i _ => ms.length - (intOf i).toNat)
  case atStart => exact ⟨0, none, 0, by omega, rfl, rfl, Lib.hid (by rw [List.take_zero]; exact OwnTs.nil _ _), HA.out _⟩
  case round =>
    obtain ⟨i, av, cap, hi, rfl, rfl, HO, hb⟩ := hrel
    have HB := Lib.hid hb
    by_cases hlt : i < ms.length
    · have hli : (i : Int) < (ms.length : Int) := by omega
      obtain ⟨m, b, off, hd, rfl, hAb, hbb, hok, hc⟩ := (HM.out.below textLies (Nat.le_refl _) (hb.mono hB)).at hlt
      rw [Nat.mul_one] at hc
      have hm := HT.out m (List.mem_iff_getElem?.2 ⟨i, hd⟩)
      have HD := Lib.hid hd
      have C1 : Hid (∀ w, Calls Try.prog 110 #[.string m] w fun e w' => e = .returned (.string m) ∧ Below w.heap.size w w') := Lib.hid fun w => Clones.clone _ w (by omega)
      have hlen : (ms.take i).length = i := by rw [List.length_take]; omega
      have HL := Lib.hid hlen
      clear hd hb hok hlt hlen
      go_wp2_with fail
      refine (C1.out _).mono ?_
      rintro e w1 ⟨rfl, hb1⟩
      have HB1 := Lib.hid (HB.out.trans (hb1.mono HB.out.size))
      have HO1 := Lib.hid (HO.out.below hb1)
      have HO2 : Hid (OwnTs (w1.alloc (.cells #[.string m] 9)) w.heap.size (.slice av i cap) (ms.take i)) := Lib.hid (HO1.out.below ((Below.refl _ _).alloc (Nat.le_refl _) _))
      have HB2 := Lib.hid (HB1.out.alloc HB1.out.size (.cells #[.string m] 9))
      clear hb1
      go_wp2_with (at_builtin; refine app_text rfl _ _ rfl w.heap.size (.slice av i cap) (ms.take i) rfl HO2.out w1.heap.size 1 rfl m (by simp) (by rw [HL.out]; omega) HB2.out.size ?_; rw [HL.out]; intro a3 cap3 w3 hown3 hb3)
      have HO3 : Hid (OwnTs w3 w.heap.size (.slice a3 (i + 1) cap3) (ms.take (i + 1))) := Lib.hid (by rw [List.take_add_one, HD.out]; exact hown3)
      have HB3 := Lib.hid (HB2.out.trans hb3)
      go_roundw
      case rel => exact ⟨i + 1, a3, cap3, by omega, by go_num, rfl, HO3, HB3.out⟩
      case measure => simp [intOf]; omega
    · obtain rfl : i = ms.length := by omega
      have hx := HO.out
      rw [List.take_length] at hx
      obtain ⟨a9, c9, he, h1, h2⟩ := hx.textsX HOK.out hml HB.out.size
      have HX := Lib.hid h2
      have HE := Lib.hid he
      have H1 := Lib.hid h1
      clear hlt hb hx he h1 h2
      go_wp2_with fail
      go_ret
      exact ⟨⟨a9, c9, by rw [HE.out]; rfl, H1.out, HX.out⟩, HB.out⟩
end Go.Proofs.Ytbloedfbpclcoaa.Rw
