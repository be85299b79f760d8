/-
  Contract: laws.lwAt. Conditions: as each theorem says.
-/
import Derived.Test.YtlbjnblbjbdaaaaDoorRows
import Derived.Test.YtlbjnblbjbdaaaaDoorDrawSrc
namespace Go.Proofs.YtlbjnblbjbdaaaaDoor.Draws
open Go.RowKit Texts Bytes
set_option linter.unusedVariables false

theorem lwAt (w : World) (B len cap : Nat) (a : Option Addr) (h : BytesAt w B a len) (hsm : len ≤ 140737488351232) (k : Nat) (hk : k ≤ 100) (most : Int) (hm : most ≤ 1000000) :
    Calls Tryd.prog 16 #[.slice a len cap, .int .i64 k, .int .i64 most] w fun e w' => (∃ r : Int, e = .returned (.int .i64 r) ∧ 0 ≤ r ∧ (r < most ∨ r = 0)) ∧ w = w' := by
  by_cases h1 : most ≤ 1
  · go_enter Tryd.func16, Tryd.ntmps16
    go_wp2_with fail
    go_ret
    exact ⟨⟨0, rfl, Int.le_refl _, .inr rfl⟩, rfl⟩
  have h1' : 1 < most := by omega
  clear h1
  by_cases h0 : len = 0
  · have hb : ((len : Int) == 0) = true := beq_iff_eq.2 (by omega)
    clear h0
    go_enter Tryd.func16, Tryd.ntmps16
    go_wp2_with fail
    go_ret
    exact ⟨⟨0, rfl, Int.le_refl _, .inr rfl⟩, rfl⟩
  · have hb : ((len : Int) == 0) = false := beq_eq_false_iff_ne.2 (by omega)
    have hpos : 0 < len := by omega
    have hmod : k % len < len := Nat.mod_lt _ hpos
    obtain ⟨b, off, x, rfl, hbB, hx0, hx1, hc⟩ := h (k % len) hmod
    have hlen1 : (1 : Int) ≤ (len : Int) := by omega
    have hx2 : 0 ≤ x % most := Int.emod_nonneg _ (by omega)
    have hx3 : x % most < most := Int.emod_lt_of_pos _ (by omega)
    clear h0 h
    go_enter Tryd.func16, Tryd.ntmps16
    go_wp2_with fail
    go_ret
    exact ⟨⟨_, rfl, hx2, .inl hx3⟩, rfl⟩
end Go.Proofs.YtlbjnblbjbdaaaaDoor.Draws
