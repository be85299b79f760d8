/-
  Contracts: the model's reader of nodes: has, quoted; of what was there its own place alone is changed. Conditions: in memory, a text of at most 8000 bytes.
-/
import Derived.Test.YtlncdkeooacebaaDoorRows
import Derived.Test.YtlncdkeooacebaaDoorJsT
import Derived.Test.YtlncdkeooacebaaDoorNdF
import Derived.Deep.QuietTactic
import Derived.BigQuiet
namespace Go.Proofs.YtlncdkeooacebaaDoor.Rw
open Go.RowKit Words
set_option linter.unusedVariables false
set_option linter.unusedSimpArgs false
set_option maxRecDepth 100000

/-- What is there stays, but for one block. -/
structure Onl (p : Nat) (w w' : World) : Prop where
  os : w'.os = w.os
  tape : w'.tape = w.tape
  output : w'.output = w.output
  size : w.heap.size ≤ w'.heap.size
  block : ∀ k, k < w.heap.size → k ≠ p → w'.heap[k]? = w.heap[k]?
theorem Onl.refl (p : Nat) (w : World) : Onl p w w := ⟨rfl, rfl, rfl, Nat.le_refl _, fun _ _ _ => rfl⟩
theorem Onl.trans {p : Nat} {a b c : World} (h : Onl p a b) (g : Onl p b c) : Onl p a c :=
  ⟨g.os.trans h.os, g.tape.trans h.tape, g.output.trans h.output, Nat.le_trans h.size g.size, fun k hk hp => (g.block k (Nat.lt_of_lt_of_le hk h.size) hp).trans (h.block k hk hp)⟩
theorem Onl.of {p : Nat} {w w' : World} (g : Below w.heap.size w w') : Onl p w w' := ⟨g.os, g.tape, g.output, g.size, fun k hk _ => g.block k hk⟩
theorem Onl.drew {p : Nat} {a w : World} (h : Onl p a w) : Onl p a w.drew := ⟨h.os, h.tape, h.output, h.size, h.block⟩
theorem Onl.drewN {p : Nat} {a w : World} (h : Onl p a w) (n : Nat) : Onl p a (w.drewN n) := ⟨h.os, h.tape, h.output, h.size, h.block⟩
theorem Onl.alloc {p : Nat} {a w : World} (h : Onl p a w) (o : Obj) : Onl p a (w.alloc o) := h.trans (.of ((Below.refl _ _).alloc (Nat.le_refl _) o))
theorem Onl.set {p j : Nat} {a w : World} (h : Onl p a w) (v : Value) : Onl p a (w.setCell ⟨p, j, none⟩ v) :=
  h.trans ⟨rfl, rfl, rfl, by simp [World.setCell], fun k _ hk => Below.heap_setCell _ _ _ _ hk⟩
/-- Blocks of the call's own may be written. -/
theorem Onl.setNew {p q j : Nat} {a w : World} (h : Onl p a w) (hq : a.heap.size ≤ q) (v : Value) : Onl p a (w.setCell ⟨q, j, none⟩ v) :=
  ⟨h.os, h.tape, h.output, Nat.le_trans h.size (by simp [World.setCell]), fun k hk hp => (Below.heap_setCell w ⟨q, j, none⟩ v k (by simp only; omega)).trans (h.block k hk hp)⟩
theorem Onl.below {p : Nat} {w w' : World} (h : Onl p w w') {B : Nat} (hB : B ≤ p) (hs : B ≤ w.heap.size) : Below B w w' := ⟨h.os, h.tape, h.output, h.size, fun k hk => h.block k (by omega) (by omega)⟩
theorem took_eq (p s : Bs) : tookQ p s = if s.take p.length = p then some (s.drop p.length) else none := by
  unfold tookQ Lib.trimPrefix
  by_cases h : s.take p.length = p
  · have g : Lib.hasPrefix s p = true := List.isPrefixOf_iff_prefix.2 (List.prefix_iff_eq_take.2 h.symm)
    rw [if_pos g, if_pos g, if_pos h]
  · have g : ¬ Lib.hasPrefix s p = true := fun g => h (List.prefix_iff_eq_take.1 (List.isPrefixOf_iff_prefix.1 g)).symm
    rw [if_neg g, if_neg h]

/-- The model's reader at block p, of the text t, that has s still to read. -/
def RdS (w : World) (p : Nat) (t : ByteArray) (s : Bs) : Prop := ∃ k : Nat, k ≤ t.size ∧ s = (bl t).drop k ∧ w.heap[p]? = some (.cells #[.string t, .int .i64 k] 90 (0, 0))
theorem RdS.len {w : World} {p : Nat} {t : ByteArray} {s : Bs} (h : RdS w p t s) : s.length ≤ t.size := by
  obtain ⟨k, _, rfl, _⟩ := h
  rw [List.length_drop, bl_len]; omega
theorem RdS.keep {w w' : World} {p : Nat} {t : ByteArray} {s : Bs} (h : RdS w p t s) (e : w'.heap[p]? = w.heap[p]?) : RdS w' p t s := by
  obtain ⟨k, h1, h2, h3⟩ := h; exact ⟨k, h1, h2, e.trans h3⟩
theorem RdS.lt {w : World} {p : Nat} {t : ByteArray} {s : Bs} (h : RdS w p t s) : p < w.heap.size := by
  obtain ⟨k, _, _, h⟩ := h; exact lt_of_get h
theorem extract_ne {t p : ByteArray} {a b : Nat} (h : ¬ (((bl t).drop a).take (b - a) = bl p)) : ((t.extract a b).toList == p.toList) = false := by
  rw [beq_eq_false_iff_ne, Lib.extract_toList, Lib.toList_data]; exact h
theorem extract_eq {t p : ByteArray} {a b : Nat} (h : ((bl t).drop a).take (b - a) = bl p) : ((t.extract a b).toList == p.toList) = true := by
  rw [beq_iff_eq, Lib.extract_toList, Lib.toList_data]; exact h
set_option maxHeartbeats 1000000 in
theorem specHas (w : World) (p : Nat) (t : ByteArray) (s : Bs) (q : ByteArray) (h : RdS w p t s) (ht : t.size ≤ 8000) (hq : q.size ≤ 10) :
    Calls Tryd.prog 76 #[.pointer (some ⟨p, 0, none⟩), .string q] w fun e w' => e = .returned (.bool (tookQ (bl q) s).isSome) ∧ RdS w' p t ((tookQ (bl q) s).getD s) ∧ Onl p w w' := by
  obtain ⟨k, hk, rfl, hh⟩ := h
  have ⟨⟨c0, c1⟩, f0, f1⟩ : (w.cell? ⟨p, 0, none⟩ = some (.string t) ∧ w.cell? ⟨p, 1, none⟩ = some (.int .i64 k)) ∧ w.frozen? ⟨p, 0, none⟩ = false ∧ w.frozen? ⟨p, 1, none⟩ = false := by simp [World.cell?, World.frozen?, hh]
  have HH := Lib.hid hh
  have hkk : (k : Int) ≤ (t.size : Int) := by omega
  have HLEN : Hid (((bl t).drop k).length = t.size - k) := Lib.hid (by rw [List.length_drop, bl_len])
  clear hh
  by_cases hlt : t.size - k < q.size
  · have hi : (t.size : Int) - (k : Int) < (q.size : Int) := by omega
    have hf : Hid (tookQ (bl q) ((bl t).drop k) = none) := Lib.hid (by
      rw [took_eq, if_neg]
      intro e
      have := congrArg List.length e
      rw [List.length_take, HLEN.out, bl_len] at this; omega)
    clear hlt
    go_enter Tryd.func76, Tryd.ntmps76
    go_wp2_with fail
    go_quiet (fail)
    go_wp2_with fail
    go_ret
    rw [hf.out]
    exact ⟨rfl, ⟨k, hk, rfl, HH.out⟩, (Onl.refl p w).drewN _⟩
  · have hi : (q.size : Int) ≤ (t.size : Int) - (k : Int) := by omega
    have hkq : (k : Int) + (q.size : Int) ≤ (t.size : Int) := by omega
    have hk3 : (k : Int) ≤ (k : Int) + (q.size : Int) := by omega
    have hcd : decide ((t.size : Int) - (k : Int) < (q.size : Int)) = false := decide_eq_false (by omega)
    by_cases he : ((bl t).drop k).take q.size = bl q
    · have hx := extract_eq (a := k) (b := k + q.size) (p := q) (t := t) (by rw [show k + q.size - k = q.size by omega]; exact he)
      have hf : Hid (tookQ (bl q) ((bl t).drop k) = some ((bl t).drop (k + q.size))) := Lib.hid (by
        rw [took_eq, bl_len, if_pos he, List.drop_drop])
      have HS : Hid (∀ n v, v = (k : Int) + (q.size : Int) → RdS ((w.drewN n).setCell ⟨p, 1, none⟩ (.int .i64 v)) p t ((bl t).drop (k + q.size))) := Lib.hid fun n v hv => ⟨k + q.size, by omega, rfl, by
        have := heap_setCell_same (w.drewN n) p 1 _ _ (.int .i64 v) HH.out
        rw [this, hv]; simp⟩
      clear hlt he
      go_enter Tryd.func76, Tryd.ntmps76
      go_wp2_with fail
      go_quiet (fail)
      go_wp2_with fail
      go_ret
      rw [hf.out]
      exact ⟨rfl, HS.out _ _ rfl, ((Onl.refl p w).drewN _).set _⟩
    · have hx := extract_ne (a := k) (b := k + q.size) (p := q) (t := t) (by rw [show k + q.size - k = q.size by omega]; exact he)
      have hf : Hid (tookQ (bl q) ((bl t).drop k) = none) := Lib.hid (by rw [took_eq, bl_len, if_neg he])
      clear hlt he
      go_enter Tryd.func76, Tryd.ntmps76
      go_wp2_with fail
      go_quiet (fail)
      go_wp2_with fail
      go_ret
      rw [hf.out]
      exact ⟨rfl, ⟨k, hk, rfl, HH.out⟩, (Onl.refl p w).drewN _⟩
end Go.Proofs.YtlncdkeooacebaaDoor.Rw
