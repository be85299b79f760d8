/-
  Contracts: l01Any, DrawPutNum, DrawPutText. Conditions: as each theorem says.
-/
import Derived.Test.YtlncdkeooacebaaDoorRows
import Derived.Test.YtlncdkeooacebaaDoorDrawOne
import Derived.Test.YtlncdkeooacebaaDoorDrawC
import Derived.OpenShut
namespace Go.Proofs.YtlncdkeooacebaaDoor.Draws
open Go.RowKit Texts Bytes
set_option linter.unusedVariables false

theorem src_any (w : World) (p len cap : Nat) (a : Option Addr) (h : Src w p a len cap) :
    Calls Tryd.prog 31 #[.pointer (some ⟨p, 0, none⟩)] w fun e w' => (∃ v : Int, e = .returned (.int .i64 v) ∧ -9223372036854775808 ≤ v ∧ v ≤ 9223372036854775807) ∧ Src w' p a len cap ∧ Only p w w' := by
  have hplt := h.lt
  have HS := Lib.hid h
  clear h
  go_enter Tryd.func31, Tryd.ntmps31
  go_wp2_with fail
  refine (src_one _ p len cap a HS.out 4 (by omega)).mono ?_
  rintro e w2 ⟨⟨b, rfl⟩, hs2, ho2⟩
  have HS2 := Lib.hid hs2
  have HO2 := Lib.hid ho2
  clear hs2 ho2
  cases b
  · go_wp2_with fail
    refine (src_n _ p len cap a HS2.out 1099511627776 (by omega)).mono ?_
    rintro e w3 ⟨⟨r, rfl, hr0, hr1⟩, hs3, ho3⟩
    have HS3 := Lib.hid hs3
    have HO3 := Lib.hid (HO2.out.trans ho3)
    clear hs3 ho3
    go_wp2_with fail
    go_ret
    exact ⟨⟨_, rfl, by omega, by omega⟩, HS3.out, HO3.out⟩
  · go_wp2_with fail
    refine (src_edge _ p len cap a HS2.out).mono ?_
    rintro e w3 ⟨⟨v, rfl, hv0, hv1⟩, hs3, ho3⟩
    have HS3 := Lib.hid hs3
    have HO3 := Lib.hid (HO2.out.trans ho3)
    clear hs3 ho3
    go_wp2_with fail
    go_ret
    exact ⟨⟨_, rfl, hv0, hv1⟩, HS3.out, HO3.out⟩

theorem drawPutNum (w : World) (len cap : Nat) (a : Option Addr) (h : BytesAt w w.heap.size a len) (hsm : len ≤ 140737488351232) :
    Calls Tryd.prog 8 #[.slice a len cap] w fun e w' => (∃ v : Int, e = .returned (.int .i64 v) ∧ -9223372036854775808 ≤ v ∧ v ≤ 9223372036854775807) ∧ Below w.heap.size w w' := by
  have HB := Lib.hid h
  clear h
  go_enter Tryd.func8, Tryd.ntmps8
  go_wp2_with fail
  refine (source _ len cap a HB.out hsm).mono ?_
  rintro e w1 ⟨rfl, hs1, hb1⟩
  go_wp2_with fail
  refine (src_any _ _ len cap a hs1).mono ?_
  rintro e w2 ⟨⟨v, rfl, hv0, hv1⟩, hs2, ho2⟩
  have hb2 := hb1.trans (ho2.below (Nat.le_refl _) hb1.size)
  go_wp2_with fail
  go_ret
  exact ⟨⟨_, rfl, hv0, hv1⟩, hb2⟩

theorem drawPutText (w : World) (len cap : Nat) (a : Option Addr) (h : BytesAt w w.heap.size a len) (hsm : len ≤ 140737488351232) :
    Calls Tryd.prog 12 #[.slice a len cap] w fun e w' => (∃ s : ByteArray, e = .returned (.string s) ∧ s.size ≤ 20010) ∧ Below w.heap.size w w' := by
  have HB := Lib.hid h
  clear h
  go_enter Tryd.func12, Tryd.ntmps12
  go_wp2_with fail
  refine (source _ len cap a HB.out hsm).mono ?_
  rintro e w1 ⟨rfl, hs1, hb1⟩
  go_wp2_with fail
  refine (src_one _ _ len cap a hs1 8 (by omega)).mono ?_
  rintro e w2 ⟨⟨b, rfl⟩, hs2, ho2⟩
  have hb2 := hb1.trans (ho2.below (Nat.le_refl _) hb1.size)
  cases b
  · go_wp2_with fail
    refine (src_n _ _ len cap a hs2 20 (by omega)).mono ?_
    rintro e w3 ⟨⟨r, rfl, hr0, hr1⟩, hs3, ho3⟩
    have hb3 := hb2.trans (ho3.below (Nat.le_refl _) hb2.size)
    obtain ⟨m, rfl⟩ := Int.eq_ofNat_of_zero_le hr0
    have hm : m ≤ 20 := by omega
    go_wp2_with fail
    refine (src_bytes _ _ len cap a hs3 m (by omega)).mono ?_
    rintro e w4 ⟨⟨l, rfl, hl⟩, hs4, ho4⟩
    have hb4 := hb3.trans (ho4.below (Nat.le_refl _) hb3.size)
    have HL := Lib.hid hl
    clear hl
    go_wp2_with fail
    go_ret
    exact ⟨⟨_, rfl, by have := HL.out; simp [ByteArray.size]; omega⟩, hb4⟩
  · go_wp2_with fail
    refine (src_n _ _ len cap a hs2 3 (by omega)).mono ?_
    rintro e w3 ⟨⟨r, rfl, hr0, hr1⟩, hs3, ho3⟩
    have hb3 := hb2.trans (ho3.below (Nat.le_refl _) hb2.size)
    obtain ⟨m, rfl⟩ := Int.eq_ofNat_of_zero_le hr0
    have hm : m ≤ 3 := by omega
    have hmk := make_bytes (19999 + m) (by omega) w3
    have e1 : ((19999 + m : Nat) : Int) = 19999 + (m : Int) := by omega
    rw [e1] at hmk
    have hst := zeros_string (19999 + m) w3.heap.size _ (heap_alloc_new w3 _)
    clear e1
    go_wp2_with fail
    go_ret
    exact ⟨⟨_, rfl, by simp [ByteArray.size]; omega⟩, hb3.alloc hb3.size _⟩
end Go.Proofs.YtlncdkeooacebaaDoor.Draws
