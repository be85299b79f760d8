/-
  Contracts: the draw bytes. Conditions: as each theorem says.
-/
import Derived.Test.YtlncdkeooacebaaDoorRows
import Derived.Test.YtlncdkeooacebaaDoorDraw
namespace Go.Proofs.YtlncdkeooacebaaDoor.Draws
open Go.RowKit Texts Bytes
set_option linter.unusedVariables false

set_option maxHeartbeats 1000000 in
theorem src_bytes (w : World) (p len cap : Nat) (a : Option Addr) (h : Src w p a len cap) (n : Nat) (hn : n ≤ 100000) :
    Calls Tryd.prog 37 #[.pointer (some ⟨p, 0, none⟩), .int .i64 n] w fun e w' => (∃ l : List UInt8, e = .returned (.string ⟨l.toArray⟩) ∧ l.length = n) ∧ Src w' p a len cap ∧ Only p w w' := by
  have hplt := h.lt
  have HS := Lib.hid h
  clear h
  go_enter Tryd.func37, Tryd.ntmps37
  go_wp2_with fail
  go_loopw [5, 6] (fun v i wr => ∃ (k : Nat) (l : List UInt8), k ≤ n ∧ Hid (l.length = k) ∧ i = .int .i64 k ∧ Src wr p a len cap ∧ Only p w wr ∧ OwnB wr w.heap.size v l) (fun _ i _ => n - (intOf i).toNat)
  case atStart =>
    have hb : Below w.heap.size w (w.alloc (.cells #[] 5)) := (Below.refl _ _).alloc (Nat.le_refl _) _
    exact ⟨0, [], by omega, Lib.hid rfl, rfl, HS.out.below hplt hb, (Only.refl p w).of_below (Nat.le_refl _) hb, OwnB.made w _ (Nat.le_refl _)⟩
  case round =>
    obtain ⟨k, l, hk, hl, rfl, hs, ho, hown⟩ := hrel
    have HO := Lib.hid ho
    have HSR := Lib.hid hs
    have hz := ho.size
    clear ho hs
    by_cases hlt : k < n
    · go_wp2_with fail
      refine (src_n _ p len cap a HSR.out 256 (by omega)).mono ?_
      rintro e w1 ⟨⟨r, rfl, hr0, hr1⟩, hs1, ho1⟩
      have hr2 : r < 256 := by omega
      have hown1 := OwnB.only hown ho1 hplt
      have HS1 := Lib.hid hs1
      have HO1 := Lib.hid (HO.out.trans ho1)
      have hz1 : w.heap.size ≤ w1.heap.size := HO1.out.size
      have hlen : l.length ≤ 100000 := by have := hl.out; omega
      clear hs1 ho1 hr1 hown
      go_wp2_with (at_builtin; refine app_byte rfl _ _ rfl w.heap.size _ l rfl (hown1.alloc _) ⟨w1.heap.size, 0, none⟩ 1 rfl r (by omega) (by omega) (one_new _ _ _) (by omega) (by simp; omega) ?_; intro v' w2 hown2 hb2)
      have hb : Below w.heap.size w1 w2 := ((Below.refl _ _).alloc hz1 _).trans hb2
      have R1 := Lib.hid (HS1.out.below hplt hb)
      have R2 := Lib.hid (HO1.out.of_below (Nat.le_refl _) hb)
      have R3 : Hid ((l ++ [u8of r]).length = k + 1) := Lib.hid (by rw [List.length_append, hl.out]; rfl)
      clear hown1 hb2 hb
      go_roundw
      case rel => exact ⟨k + 1, _, by omega, R3, by go_num, R1.out, R2.out, hown2⟩
      case measure => simp [intOf]; omega
    · have hst := hown.string
      go_wp2_with fail
      go_ret
      exact ⟨⟨l, rfl, by have := hl.out; omega⟩, HSR.out, HO.out⟩
end Go.Proofs.YtlncdkeooacebaaDoor.Draws
