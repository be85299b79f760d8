/-
  A row of texts of the call's own, grown by append; contract: spec.l04In tells whether a text is among others; of what was there nothing is changed. Conditions: in memory.
-/
import Derived.Test.YthdncjdopejkkaaDoorRows
import Derived.Test.YthdncjdopejkkaaDoorRow
import Derived.Test.YthdncjdopejkkaaDoorWordW
import Derived.Deep.AppendLies
import Derived.Deep.RegionLaw
import Derived.Lib.Strings
namespace Go.Proofs.YthdncjdopejkkaaDoor.Nm
open Go.RowKit Words
open Rw (OkS RowsAt TextLie TextsAt textLies lt_of_get cell_of add_plain)
set_option linter.unusedVariables false
set_option maxRecDepth 100000

theorem infoStr : (Tryd.prog.info? 9).map (fun i => (i.zero, i.size, i.bytes)) = some (some (.string ⟨#[]⟩), 1, 16) := by kernel_rfl
def OwnTs (w : World) (base : Nat) (v : Value) (l : List ByteArray) : Prop := w.ownsRow base 9 1 v l.length (l.map Value.string)
theorem OwnTs.nil (w : World) (base : Nat) : OwnTs w base (.slice none 0 0) [] := World.ownsRow_nil w base _ _
theorem OwnTs.frame {w w' : World} {base : Nat} {v : Value} {l : List ByteArray} (h : OwnTs w base v l) (g : ∀ c, base ≤ c → c < w.heap.size → w'.heap[c]? = w.heap[c]?) : OwnTs w' base v l := by
  obtain ⟨hl, ⟨hv, hn⟩ | ⟨gb, cap, cur, hv, hb, hg, hc, hm, hs, ht⟩⟩ := h
  · exact ⟨hl, .inl ⟨hv, hn⟩⟩
  · exact ⟨hl, .inr ⟨gb, cap, cur, hv, hb, (g gb hb (lt_of_get hg)).trans hg, hc, hm, hs, ht⟩⟩
theorem OwnTs.below {w w' : World} {base : Nat} {v : Value} {l : List ByteArray} (h : OwnTs w base v l) (g : Below w.heap.size w w') : OwnTs w' base v l := h.frame fun c _ hc => g.block c hc
theorem OwnTs.slice {w : World} {base : Nat} {v : Value} {l : List ByteArray} (h : OwnTs w base v l) : ∃ a cap, v = .slice a l.length cap := by
  obtain ⟨_, ⟨rfl, hn⟩ | ⟨g, cap, cur, rfl, _⟩⟩ := h
  · rw [hn]; exact ⟨none, 0, rfl⟩
  · exact ⟨_, _, rfl⟩
theorem OwnTs.at_ {w : World} {base : Nat} {v : Value} {l : List ByteArray} (h : OwnTs w base v l) (hok : ∀ x ∈ l, OkS x) (hL : l.length ≤ 9223372036854775807) : ∃ a cap, v = .slice a l.length cap ∧ l.length ≤ cap ∧ TextsAt w base w.heap.size a l.length l := by
  obtain ⟨hl, ⟨rfl, hn⟩ | ⟨gb, cap, cur, rfl, hb, hg, hc, hm, hs, ht⟩⟩ := h
  · obtain rfl : l = [] := List.eq_nil_of_length_eq_zero hn
    exact ⟨none, 0, rfl, Nat.le_refl _, rfl, by simp, .inl rfl⟩
  · have hlt := lt_of_get hg
    refine ⟨_, _, rfl, hc, rfl, hL, .inr ⟨gb, 0, rfl, hb, hlt, fun j y hj => ⟨hok y (List.mem_iff_getElem?.2 ⟨j, hj⟩), ?_⟩⟩⟩
    have hjl := (List.getElem?_eq_some_iff.1 hj).1
    have h1 : (l.map Value.string)[j]? = some (.string y) := by rw [List.getElem?_map, hj]; rfl
    rw [← ht, List.getElem?_take_of_lt (by omega)] at h1
    have h2 : cur[j]? = some (.string y) := by rw [← h1]; simp
    rw [Nat.zero_add, Nat.mul_one]; exact cell_of hg h2

section
variable {w : World} {ops : Array Oper} {o : Oper} {a : Act}
theorem app_text {rest : List Oper} {Q : Exit → Act → World → Prop} (hgd : o.guard = none) (s x : Operand)
    (ho : o.op = .call { callee := .builtin .append, args := #[s, x], argTypes := #[62, 62] })
    (base : Nat) (v : Value) (l : List ByteArray) (hs : a.eval s = v) (hown : OwnTs w base v l)
    (B c : Nat) (hx : a.eval x = .slice (some ⟨B, 0, none⟩) 1 c) (y : ByteArray) (hc : w.cell? ⟨B, 0, none⟩ = some (.string y))
    (hsize : l.length + 1 ≤ 1048576) (hbase : base ≤ w.heap.size)
    (h : ∀ a' cap w', OwnTs w' base (.slice a' (l.length + 1) cap) (l ++ [y]) → Below base w w' → (∀ c, c < w.heap.size → some c ≠ v.ownBlock → w'.heap[c]? = w.heap[c]?) → wpList Tryd.prog ops Q rest (a.put o.dst (.slice a' (l.length + 1) cap)) w') : wpList Tryd.prog ops Q (o :: rest) a w := by
  obtain ⟨i0, hi, hz0, hz1, hz2⟩ := info_parts infoStr
  refine wpList_append_lies w hgd s x 62 ho base 9 i0 _ 1 16 Tryd.underlying62 hi hz0 hz1 hz2 rfl (by decide) v l.length (l.map Value.string) hs hown ⟨B, 0, none⟩ 1 c [.string y] hx rfl
    (fun j u hj => by
      have e : j = 0 := by have := (List.getElem?_eq_some_iff.1 hj).1; simp at this; exact this
      subst e; cases hj
      rw [add_plain]; exact hc) (fun u hu => ?_) (by omega) (by unfold maxLen; omega) (by omega) hbase _ rfl ?_
  · simp at hu; subst hu; rfl
  · intro g cap w' hown' hgrow _ _
    exact h _ cap w' (by unfold OwnTs; rw [List.length_append, List.map_append]; exact hown') ((Below.refl base w).grown hgrow hbase (fun k hk => (World.ownsRow.lt hown k hk).1)) hgrow.block
theorem step_app_text {K : Act → World → Prop} {Q : Exit → Act → World → Prop} {E : Prop} (hgd : o.guard = none) (s x : Operand)
    (ho : o.op = .call { callee := .builtin .append, args := #[s, x], argTypes := #[62, 62] })
    (base : Nat) (v : Value) (l : List ByteArray) (hs : a.eval s = v) (hown : OwnTs w base v l)
    (B c : Nat) (hx : a.eval x = .slice (some ⟨B, 0, none⟩) 1 c) (y : ByteArray) (hc : w.cell? ⟨B, 0, none⟩ = some (.string y))
    (hsize : l.length + 1 ≤ 1048576) (hbase : base ≤ w.heap.size)
    (h : ∀ a' cap w', OwnTs w' base (.slice a' (l.length + 1) cap) (l ++ [y]) → Below base w w' → (∀ c, c < w.heap.size → some c ≠ v.ownBlock → w'.heap[c]? = w.heap[c]?) → K (a.put o.dst (.slice a' (l.length + 1) cap)) w') : if Region.wanted o (yielded ops a.tmps) = true then Oper.wp Tryd.prog o a w K Q else E := by
  obtain ⟨i0, hi, hz0, hz1, hz2⟩ := info_parts infoStr
  refine step_append_lies w hgd s x 62 ho base 9 i0 _ 1 16 Tryd.underlying62 hi hz0 hz1 hz2 rfl (by decide) v l.length (l.map Value.string) hs hown ⟨B, 0, none⟩ 1 c [.string y] hx rfl
    (fun j u hj => by
      have e : j = 0 := by have := (List.getElem?_eq_some_iff.1 hj).1; simp at this; exact this
      subst e; cases hj
      rw [add_plain]; exact hc) (fun u hu => ?_) (by omega) (by unfold maxLen; omega) (by omega) hbase _ rfl ?_
  · simp at hu; subst hu; rfl
  · intro g cap w' hown' hgrow _ _
    exact h _ cap w' (by unfold OwnTs; rw [List.length_append, List.map_append]; exact hown') ((Below.refl base w).grown hgrow hbase (fun k hk => (World.ownsRow.lt hown k hk).1)) hgrow.block
end

/-- Whether a text is among others. -/
def inN (nm : ByteArray) : List ByteArray → Bool
  | [] => false
  | x :: l => if x = nm then true else inN nm l
theorem inN_mem {nm : ByteArray} : ∀ {l : List ByteArray}, inN nm l = true ↔ nm ∈ l
  | [] => by simp [inN]
  | x :: l => by
    unfold inN; split
    · rename_i h; subst h; simp
    · rename_i h
      rw [inN_mem, List.mem_cons]
      exact ⟨.inr, fun k => k.elim (fun e => absurd e.symm h) id⟩
theorem inN_not {nm : ByteArray} {l : List ByteArray} : inN nm l = false ↔ nm ∉ l := by
  rw [← inN_mem]; simp
theorem inN_hit {nm : ByteArray} {l : List ByteArray} {i : Nat} {x : ByteArray} (h : l[i]? = some x) (hx : x = nm) : inN nm (l.drop i) = true := by
  obtain ⟨hl, rfl⟩ := List.getElem?_eq_some_iff.1 h
  rw [List.drop_eq_getElem_cons hl, inN, if_pos hx]
theorem inN_miss {nm : ByteArray} {l : List ByteArray} {i : Nat} {x : ByteArray} (h : l[i]? = some x) (hx : x ≠ nm) : inN nm (l.drop i) = inN nm (l.drop (i + 1)) := by
  obtain ⟨hl, rfl⟩ := List.getElem?_eq_some_iff.1 h
  rw [List.drop_eq_getElem_cons hl, inN, if_neg hx]
theorem toList_ne {a b : ByteArray} (h : a ≠ b) : a.toList ≠ b.toList := fun e => h (by
  rw [Lib.toList_data, Lib.toList_data] at e
  exact ByteArray.ext (Array.toList_inj.1 e))
theorem toList_beq {a b : ByteArray} (h : a ≠ b) : (a.toList == b.toList) = false := by
  rw [beq_eq_false_iff_ne]; exact toList_ne h
theorem specIn (w : World) (A B : Nat) (a : Option Addr) (len cap : Nat) (l : List ByteArray) (nm : ByteArray) (hn : OkS nm) (hs : TextsAt w A B a len l) (hB : B ≤ w.heap.size) :
    Calls Tryd.prog 32 #[.slice a len cap, .string nm] w fun e w' => e = .returned (.bool (inN nm l)) ∧ Below w.heap.size w w' := by
  have hlen := hs.2.1
  have HS := Lib.hid hs
  obtain ⟨hll, _⟩ := hs
  subst hll
  go_enter Tryd.func32, Tryd.ntmps32
  go_wp2_with fail
  go_loopw [5] (fun i wr => ∃ (i' : Nat), i' ≤ l.length ∧ Hid (inN nm l = inN nm (l.drop i')) ∧ i = .int .i64 i' ∧ Below w.heap.size w wr) (fun i _ => l.length - (intOf i).toNat)
  case atStart => exact ⟨0, by omega, Lib.hid (by rw [List.drop_zero]), rfl, Below.refl _ _⟩
  case round =>
    obtain ⟨i, hi, hm, rfl, hb⟩ := hrel
    have HB := Lib.hid hb
    by_cases hlt : i < l.length
    · have hli : (i : Int) < (l.length : Int) := by omega
      obtain ⟨x, b, off, hd, rfl, hA, hbb, hok, hc⟩ := (HS.out.below textLies (Nat.le_refl _) (hb.mono hB)).at hlt
      rw [Nat.mul_one] at hc
      by_cases hx : x = nm
      · have hf := Lib.hid (hm.out.trans (inN_hit hd hx))
        clear hlt hd hb hok
        go_wp2_with fail
        go_ret
        exact ⟨ret_bool hf.out.symm, HB.out⟩
      · have hn1 := toList_ne hx
        have hn2 := toList_beq hx
        have hrel := Lib.hid (hm.out.trans (inN_miss hd hx))
        clear hlt hd hb hok
        go_wp2_with fail
        go_roundw
        case rel => exact ⟨i + 1, by omega, hrel, by go_num, HB.out⟩
        case measure => simp [intOf]; omega
    · obtain rfl : i = l.length := by omega
      have hf : Hid (inN nm l = false) := Lib.hid (by rw [hm.out, List.drop_length]; rfl)
      clear hlt hb
      go_wp2_with fail
      go_ret
      exact ⟨ret_bool hf.out.symm, HB.out⟩
end Go.Proofs.YthdncjdopejkkaaDoor.Nm
