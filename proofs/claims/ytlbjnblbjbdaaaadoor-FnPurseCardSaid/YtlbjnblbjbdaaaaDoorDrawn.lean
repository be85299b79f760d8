/-
  Regions that draw their order, walked operation by operation: what is no call is taken first, calls one by one; what is held of the world (S) holds behind each. No program. Conditions: as each theorem says.
-/
import Derived.Test.YtlbjnblbjbdaaaaDoorRows
import Derived.Test.YtlbjnblbjbdaaaaDoorDue
import Derived.WalkKit
import Derived.Below
import Derived.Outline
import Derived.Lib.Hide
namespace Go.Proofs.YtlbjnblbjbdaaaaDoor.Drawn
open Go.RowKit
set_option linter.unusedVariables false
set_option maxRecDepth 100000

/-- The nth of a list, so that it comes up laid out. -/
def nth : List Oper → Nat → Option Oper
  | [], _ => none
  | o :: _, 0 => some o
  | _ :: l, n + 1 => nth l n
theorem nth_eq : ∀ (l : List Oper) (n : Nat) (o : Oper), nth l n = some o → l.toArray[n]? = some o
  | [], _, _, h => by cases h
  | x :: l, 0, o, h => by simpa [nth] using h
  | x :: l, n + 1, o, h => by have := nth_eq l n o h; simpa using this

section
variable {P : Program} {L : List Oper} {Q : Exit → Act → World → Prop} {md : Region.Mode} {k : Nat} {S : Bool → World → Prop}
def okC (md : Region.Mode) (ops : Array Oper) (k : Nat) (listed : Array Bool) (i : Nat) : Bool := Region.noSelect ops && (Region.free md ops listed i && ((Region.ready md ops listed).contains i && (Due.closedB md ops listed && (k != i))))
def okT (md : Region.Mode) (ops : Array Oper) (k : Nat) (listed : Array Bool) (i : Nat) : Bool := okC md ops k listed i && Due.chainB md ops k [i]
/-- Take number i first: k waits for it. -/
theorem dT (i : Nat) (v : Value) {oi : Oper} {fuel : Nat} {listed : Array Bool} {a : Act} {w : World} (hi : nth L i = some oi) (hb : okT md L.toArray k listed i = true) (hy : YieldsIf P L.toArray (S false) oi v a) (hw : S (listed.getD k false) w)
    (hS : ∀ w, S false w → S true w) (hQ : ∀ c a w, Q (.panic c) (a.put oi.dst v) w → Q (.panic c) a w)
    (h : Due.anyD P md L.toArray Q k S fuel (listed.setIfInBounds i true) (a.put oi.dst v) w) : Due.anyD P md L.toArray Q k S (fuel + 1) listed a w := by
  simp only [okT, okC, Bool.and_eq_true] at hb
  exact Due.anyD_due [i] (nth_eq _ _ _ hi) hb.1.1 hb.1.2.1 hb.1.2.2.1 hb.1.2.2.2.1 hb.1.2.2.2.2 (by simpa using hb.2) hQ hS hy hw h
/-- Take number i first: it is so anyhow. -/
theorem dU (i : Nat) (v : Value) {oi : Oper} {fuel : Nat} {listed : Array Bool} {a : Act} {w : World} (hi : nth L i = some oi) (hb : okC md L.toArray k listed i = true) (hy : YieldsIf P L.toArray (S true) oi v a) (hw : S (listed.getD k false) w)
    (hS : ∀ w, S false w → S true w) (hQ : ∀ c a w, Q (.panic c) (a.put oi.dst v) w → Q (.panic c) a w)
    (h : Due.anyD P md L.toArray Q k S fuel (listed.setIfInBounds i true) (a.put oi.dst v) w) : Due.anyD P md L.toArray Q k S (fuel + 1) listed a w := by
  simp only [okC, Bool.and_eq_true] at hb
  exact Due.anyD_take (nth_eq _ _ _ hi) hb.1 hb.2.1 hb.2.2.1 hb.2.2.2.1 hb.2.2.2.2 hQ hS hy hw h
theorem dO (i : Nat) {o : Oper} {fuel : Nat} {listed : Array Bool} {a : Act} {w : World} (hr : Region.ready md L.toArray listed = [i]) (ho : nth L i = some o)
    (h : ∀ K' : Act → World → Prop, Shut (∀ a w, S ((listed.setIfInBounds i true).getD k false) w → Due.anyD P md L.toArray Q k S fuel (listed.setIfInBounds i true) a w → K' a w) → if Region.wanted o (yielded L.toArray a.tmps) = true then Oper.wp P o a w K' Q else K' (a.put o.dst undef) w) : Due.anyD P md L.toArray Q k S (fuel + 1) listed a w :=
  Due.anyD_one hr (nth_eq _ _ _ ho) h
theorem p1 {α : Type} (l : List α) (i : Nat) (x : α) : l.toArray.setIfInBounds i x = (l.set i x).toArray := by simp
theorem p2 {α : Type} (x y : α) (l : List α) : (x :: l).set 0 y = y :: l := rfl
theorem p3 {α : Type} (x y : α) (l : List α) (i : Nat) : (x :: l).set (i + 1) y = x :: l.set i y := rfl
theorem dueTwo {i j : Nat} {o o' : Oper} {fuel : Nat} {listed : Array Bool} {a : Act} {w : World} (hr : Region.ready md L.toArray listed = [i, j]) (ho : nth L i = some o) (ho' : nth L j = some o')
    (h : ∀ K' : Act → World → Prop, Shut (∀ a w, S ((listed.setIfInBounds i true).getD k false) w → Due.anyD P md L.toArray Q k S fuel (listed.setIfInBounds i true) a w → K' a w) → if Region.wanted o (yielded L.toArray a.tmps) = true then Oper.wp P o a w K' Q else K' (a.put o.dst undef) w)
    (h' : ∀ K' : Act → World → Prop, Shut (∀ a w, S ((listed.setIfInBounds j true).getD k false) w → Due.anyD P md L.toArray Q k S fuel (listed.setIfInBounds j true) a w → K' a w) → if Region.wanted o' (yielded L.toArray a.tmps) = true then Oper.wp P o' a w K' Q else K' (a.put o'.dst undef) w) : Due.anyD P md L.toArray Q k S (fuel + 1) listed a w := by
  refine ⟨fun h0 => ?_, fun n hn => ?_⟩
  · rw [h0] at hr; cases hr
  · rw [hr] at hn
    simp only [List.mem_cons, List.not_mem_nil, or_false] at hn
    rcases hn with rfl | rfl
    · exact wpOp_step (nth_eq _ _ _ ho) (fun K' hK => h K' (fun a w hS hW => hK a w ⟨hS, hW⟩))
    · exact wpOp_step (nth_eq _ _ _ ho') (fun K' hK => h' K' (fun a w hS hW => hK a w ⟨hS, hW⟩))
end
section
variable {P : Program} {L : List Oper} {E : Exit → Act → World → Prop} {S : World → Prop}
/-- Take number i first. -/
theorem tU (i : Nat) (v : Value) {oi : Oper} {fuel : Nat} {listed : Array Bool} {a : Act} {w : World} (hw : S w) (hy : ∀ w, S w → (execOp a.eval oi).run P w = .ok (.value v) w)
    (h : Due.anyD P .any L.toArray E 100000 (fun _ X => S X) fuel (listed.setIfInBounds i true) (a.put oi.dst v) w)
    (hi : nth L i = some oi := by rfl) (hg : Region.wanted oi (yielded L.toArray a.tmps) = true := by rfl) (hb : okC .any L.toArray 100000 listed i = true := by kernel_rfl)
    (hQ : ∀ c a w, E (.panic c) (a.put oi.dst v) w → E (.panic c) a w := by exact fun _ _ _ h => h) : Due.anyD P .any L.toArray E 100000 (fun _ X => S X) (fuel + 1) listed a w :=
  dU i v hi hb (.inl ⟨hg, hy⟩) hw (fun _ h => h) hQ h
/-- Number i is not wanted. -/
theorem tX (i : Nat) {oi : Oper} {fuel : Nat} {listed : Array Bool} {a : Act} {w : World} (hw : S w)
    (h : Due.anyD P .any L.toArray E 100000 (fun _ X => S X) fuel (listed.setIfInBounds i true) (a.put oi.dst undef) w)
    (hi : nth L i = some oi := by rfl) (hg : Region.wanted oi (yielded L.toArray a.tmps) = false := by rfl) (hb : okC .any L.toArray 100000 listed i = true := by kernel_rfl)
    (hQ : ∀ c a w, E (.panic c) (a.put oi.dst undef) w → E (.panic c) a w := by exact fun _ _ _ h => h) : Due.anyD P .any L.toArray E 100000 (fun _ X => S X) (fuel + 1) listed a w :=
  dU i undef hi hb (.inr ⟨hg, rfl⟩) hw (fun _ h => h) hQ h
end

theorem region_of {P : Program} {S : World → Prop} {ops : Array Oper} {E : Exit → Act → World → Prop} {W : World} {id : Nat} {a : Act} (hm : P.follows .mixedOrders = true)
    (hh : Due.anyD P .any ops E 100000 (fun _ X => S X) ops.size (Array.replicate ops.size false) a W.drew) : (Code.region id ops true).wp P E a W := Due.region_due 100000 (fun _ X => S X) hm hh
end Go.Proofs.YtlbjnblbjbdaaaaDoor.Drawn
