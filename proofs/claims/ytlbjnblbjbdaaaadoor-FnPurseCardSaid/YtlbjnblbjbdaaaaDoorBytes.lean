/-
  A []byte of the call's own that reads as a list of bytes: append of one byte, string(b). Used by the contracts. Conditions: as each theorem says.
-/
import Derived.Test.YtlbjnblbjbdaaaaDoorMem
import Derived.Laws.BytesArg
import Derived.Laws.OwnMore
namespace Go.Proofs.YtlbjnblbjbdaaaaDoor.Bytes
open Go.RowKit Texts
set_option linter.unusedVariables false

def u8of (n : Int) : UInt8 := n.toNat.toUInt8
theorem u8of_val {n : Int} (h0 : 0 ≤ n) (h1 : n < 256) : ((u8of n).toNat : Int) = n := by
  simp [u8of]; omega

def OwnB (w : World) (base : Nat) (v : Value) (l : List UInt8) : Prop := w.ownsRow base 5 1 v l.length (Lib.byteCells l)

theorem OwnB.none_ (w : World) (base : Nat) : OwnB w base (.slice none 0 0) [] := World.ownsRow_nil w base _ _
theorem OwnB.made (w : World) (base : Nat) (hb : base ≤ w.heap.size) : OwnB (w.alloc (.cells #[] 5)) base (.slice (some ⟨w.heap.size, 0, none⟩) 0 0) [] :=
  World.ownsRow_lit (size := 1) w #[] 0 hb (by simp) rfl
theorem OwnB.alloc {w : World} {base : Nat} {v : Value} {l : List UInt8} (h : OwnB w base v l) (o : Obj) : OwnB (w.alloc o) base v l := World.ownsRow.alloc h o
theorem OwnB.drew {w : World} {base : Nat} {v : Value} {l : List UInt8} (h : OwnB w base v l) : OwnB w.drew base v l := h
theorem OwnB.setBelow {w : World} {base : Nat} {v : Value} {l : List UInt8} (h : OwnB w base v l) {a : Addr} (ha : a.block < base) (u : Value) : OwnB (w.setCell a u) base v l := ownsRow_setCell_below h ha u

/-- 'string(b)'. -/
theorem OwnB.string {w : World} {base : Nat} {v : Value} {l : List UInt8} (h : OwnB w base v l) :
    (convert 22 9 v).run Tryd.prog w = .ok (.string ⟨l.toArray⟩) w := by
  obtain ⟨hl, ⟨rfl, hn⟩ | ⟨g, cap, cur, rfl, hb, hg, hc, hm, hs, ht⟩⟩ := h
  · obtain rfl : l = [] := List.eq_nil_of_length_eq_zero hn
    exact run_convert_bytes_nil (P := Tryd.prog) w 22 5 Tryd.underlying22 Tryd.underlying5 0 0 9 Tryd.underlying9
  · refine run_convert_bytes_back (P := Tryd.prog) w 22 9 5 ⟨g, 0, none⟩ cap l Tryd.underlying22 Tryd.underlying5 Tryd.underlying9 (fun j hj => ?_)
    rw [Nat.mul_one] at ht
    exact Lib.cells_of_row hg l.length j _ (by rw [ht]; simp [Lib.byteCells, hj])

theorem one_new (w : World) (v : Value) (T : TypeId) : (w.alloc (.cells #[v] T)).cell? ⟨w.heap.size, 0, none⟩ = some v := by simp
/-- 'append(b, x)' of one byte. -/
theorem app_byte {w : World} {ops : Array Oper} {rest : List Oper} {o : Oper} {a : Act} {Q : Exit → Act → World → Prop} (hgd : o.guard = none) (s x : Operand)
    (ho : o.op = .call { callee := .builtin .append, args := #[s, x], argTypes := #[22, 22] })
    (base : Nat) (v : Value) (l : List UInt8) (hs : a.eval s = v) (hown : OwnB w base v l)
    (ad : Addr) (c : Nat) (hx : a.eval x = .slice (some ad) 1 c) (n : Int) (h0 : 0 ≤ n) (h1 : n < 256) (hc : w.cell? ad = some (.int .u8 n))
    (hsize : l.length + 1 ≤ 140737488351232) (hbase : base ≤ w.heap.size)
    (h : ∀ v' w', OwnB w' base v' (l ++ [u8of n]) → Below base w w' → wpList Tryd.prog ops Q rest (a.put o.dst v') w') : wpList Tryd.prog ops Q (o :: rest) a w := by
  obtain ⟨i0, hi, hz0, hz1, hz2⟩ := info_parts info5
  refine wpList_append_own w hgd s x 22 ho base 5 i0 (.int .u8 0) 1 1 Tryd.underlying22 hi hz0 hz1 hz2 rfl (by decide) v l.length (Lib.byteCells l) hs hown ad 1 c [.int .u8 n] hx rfl ?_ ?_ (by unfold maxLen; omega) (by omega) hbase ?_
  · intro j u hj
    match j, hj with
    | 0, hj => simp at hj; subst hj; simpa [Addr.add] using hc
  · intro u hu; simp at hu; subst hu; rfl
  · intro v' w' ho' hg' _
    refine h v' w' ?_ ((Below.refl base w).grown hg' hbase (fun k hk => (hown.lt k hk).1))
    have e : Lib.byteCells (l ++ [u8of n]) = Lib.byteCells l ++ [.int .u8 n] := by
      rw [Lib.byteCells_append]
      simp [Lib.byteCells, u8of_val h0 h1]
    unfold OwnB
    rw [e]
    simpa using ho'

/-! ### A row written cell by cell -/
theorem row_cell {W : World} {g k : Nat} {C : Array Value} {T : TypeId} (h : W.heap[g]? = some (.cells C T (0, 0))) (hk : k < C.size) : W.cell? ⟨g, k, none⟩ = some C[k] := by
  simp [World.cell?, h, hk]
theorem set_take {C : Array Value} {k : Nat} (hk : k < C.size) (v : Value) : (C.setIfInBounds k v).toList.take (k + 1) = C.toList.take k ++ [v] := by
  rw [Array.toList_setIfInBounds, List.take_succ_eq_append_getElem (by simpa using hk), List.take_set_of_le (Nat.le_refl _)]
  simp
theorem row_put {W : World} {g k : Nat} {C : Array Value} {T : TypeId} {l : List UInt8} (h : W.heap[g]? = some (.cells C T (0, 0))) (hk : k < C.size) (hl : C.toList.take k = Lib.byteCells l) {n : Int} (h0 : 0 ≤ n) (h1 : n < 256) :
    (W.setCell ⟨g, k, none⟩ (.int .u8 n)).heap[g]? = some (.cells (C.setIfInBounds k (.int .u8 n)) T (0, 0)) ∧ (C.setIfInBounds k (.int .u8 n)).size = C.size ∧
      (C.setIfInBounds k (.int .u8 n)).toList.take (k + 1) = Lib.byteCells (l ++ [u8of n]) := by
  refine ⟨heap_setCell_same W g k C T _ h, by simp, ?_⟩
  rw [set_take hk, hl, Lib.byteCells_append]
  simp [Lib.byteCells, u8of_val h0 h1]
/-- 'string(row[:n])'. -/
theorem string_of_prefix {W : World} {g n : Nat} {Y : Array Value} {T : TypeId} {l : List UInt8} (h : W.heap[g]? = some (.cells Y T (0, 0))) (hY : Y.toList.take n = Lib.byteCells l) (hn : l.length = n) (cap : Nat) :
    (convert 22 9 (.slice (some ⟨g, 0, none⟩) n cap)).run Tryd.prog W = .ok (.string ⟨l.toArray⟩) W := by
  subst hn
  refine run_convert_bytes_back (P := Tryd.prog) W 22 9 5 ⟨g, 0, none⟩ cap l Tryd.underlying22 Tryd.underlying5 Tryd.underlying9 (fun j hj => ?_)
  exact Lib.cells_of_row h l.length j _ (by rw [hY]; simp [Lib.byteCells, hj])
end Go.Proofs.YtlbjnblbjbdaaaaDoor.Bytes
