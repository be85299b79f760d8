/-
  What the program's readers of a node and of one kid of a node answer; no contract here; of what was there the reader's own place, and the node, alone are changed. Conditions: in memory, a text of at most 8000 bytes; the library's variables hold what the program lays.
-/
import Derived.Test.YtlncdkeooacebaaDoorRows
import Derived.Test.YtlncdkeooacebaaDoorJsX
import Derived.Test.YtlncdkeooacebaaDoorNdZ
import Derived.BigRegion
namespace Go.Proofs.YtlncdkeooacebaaDoor.Rw
open Go.RowKit Words
open _root_.Go.Proofs.YtlncdkeooacebaaDoor.Nm (OwnTs)
set_option linter.unusedVariables false
set_option linter.unusedSimpArgs false
set_option maxRecDepth 100000

def NodOut (f p : Nat) (s : Bs) (w : World) (e : Ending) (w' : World) : Prop :=
  (∃ (r : RowD) (q : Bs), Hid (rdN f s = some (r.x, q)) ∧ e = .returned (.tuple #[.agg #[.int .i64 r.x.kind, .string r.x.text, .slice r.a r.x.keys.length r.ca, .slice r.c r.x.kids.length r.cc], .nilIface]) ∧ (OkD f w' r ∧ w.heap.size ≤ r.lo ∧ r.hi ≤ w'.heap.size) ∧ RdI w' p q) ∨ (Hid (rdN f s = none) ∧ ∃ (k : Int) (u : ByteArray) (s' : Bs), e = .returned (.tuple #[.agg #[.int .i64 k, .string u, .slice none 0 0, .slice none 0 0], .iface 100 (.agg #[.int .i64 3])]) ∧ RdI w' p s')
def NodI (f : Nat) : Prop := ∀ (w : World) (p B : Nat) (s : Bs), RdI w p s → s.length < f → s.length ≤ 8000 → VarsJ B w → B ≤ p → B ≤ w.heap.size →
    Calls Tryd.prog 80 #[.pointer (some ⟨p, 0, none⟩)] w fun e w' => NodOut f p s w e w' ∧ Onl p w w'
def stepQ (kd : Int) (s : Bs) : Option (ByteArray × Bs) := if kd = 4 then keyQ s else some (tB [], s)
def KidOut (f nb base p : Nat) (kd : Int) (s : Bs) (ks : List ByteArray) (L : List RowD) (e : Ending) (w' : World) : Prop :=
  (∃ k s2 r q sk' sn', Hid (stepQ kd s = some (k, s2)) ∧ Hid (rdN f s2 = some (RowD.x r, q)) ∧ e = .returned .nilIface ∧ StN f nb base p kd w' sk' sn' (if kd = 4 then ks ++ [k] else ks) (L ++ [r]) ∧ RdI w' p q) ∨
       (Hid (stepQ kd s = none ∨ ∃ k s2, stepQ kd s = some (k, s2) ∧ rdN f s2 = none) ∧ ∃ s', e = .returned (.iface 100 (.agg #[.int .i64 3])) ∧ RdI w' p s')
def KidI (kd : Int) (f : Nat) : Prop := ∀ (w : World) (p B nb base : Nat) (s : Bs) (sk sn : Value) (ks : List ByteArray) (L : List RowD), StN f nb base p kd w sk sn ks L → RdI w p s → s.length < f → s.length ≤ 8000 → VarsJ B w → B ≤ p → B ≤ nb → B ≤ base → ks.length ≤ L.length → L.length ≤ 10000 →
    Calls Tryd.prog 115 #[.pointer (some ⟨p, 0, none⟩), .pointer (some ⟨nb, 0, none⟩)] w fun e w' => KidOut f nb base p kd s ks L e w' ∧ Fr base p nb w w'
theorem key_len {s r : Bs} {k : ByteArray} (h : keyQ s = some (k, r)) : r.length ≤ s.length ∧ k.size ≤ s.length := by
  have := congrArg List.length (key_sound h)
  simp only [List.length_append, keyB, if_true, List.length_cons, bl_len] at this
  omega
end Go.Proofs.YtlncdkeooacebaaDoor.Rw
