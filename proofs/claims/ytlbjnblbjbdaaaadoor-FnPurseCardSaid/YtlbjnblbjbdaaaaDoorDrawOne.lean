/-
  Contracts: the draw one. Conditions: as each theorem says.
-/
import Derived.Test.YtlbjnblbjbdaaaaDoorRows
import Derived.Test.YtlbjnblbjbdaaaaDoorDraw
namespace Go.Proofs.YtlbjnblbjbdaaaaDoor.Draws
open Go.RowKit Texts Bytes
set_option linter.unusedVariables false

theorem src_one (w : World) (p len cap : Nat) (a : Option Addr) (h : Src w p a len cap) (of : Int) (hm : of ≤ 9223372036854775807) :
    Calls Tryd.prog 21 #[.pointer (some ⟨p, 0, none⟩), .int .i64 of] w fun e w' => (∃ b, e = .returned (.bool b)) ∧ Src w' p a len cap ∧ Only p w w' := by
  have HS := Lib.hid h
  clear h
  go_enter Tryd.func21, Tryd.ntmps21
  go_wp2_with (go_at_call 20; refine (src_n _ p len cap a HS.out of hm).mono ?_; rintro e w1 ⟨⟨r, rfl, hr0, hr1⟩, hs1, ho1⟩)
  go_ret
  exact ⟨⟨_, rfl⟩, hs1, ho1⟩
end Go.Proofs.YtlbjnblbjbdaaaaDoor.Draws
