/-
  Contracts: impl.fragNamed tells the first Frag of a name, impl.reached the names that a Frag reaches; of what was there nothing is changed. Conditions: in memory.
-/
import Derived.Test.YthdncjdopejkkaaDoorRows
import Derived.Test.YthdncjdopejkkaaDoorLoopI
import Derived.Test.YthdncjdopejkkaaDoorSetM
import Derived.Carry
namespace Go.Proofs.YthdncjdopejkkaaDoor.Selss
open Go.RowKit Words Go.Maps
set_option linter.unusedVariables false
set_option maxRecDepth 100000

/-- The first Frag of a name; the empty one without. -/
def fragOr (nm : ByteArray) (l : List FragP) : FragP := (fragIn nm l).getD ⟨⟨#[]⟩, ⟨#[]⟩, .nil⟩
theorem sprOf_or (nm : ByteArray) (l : List FragP) : sprOf l nm = (fragOr nm l).sels.spr := by
  unfold sprOf fragOr; cases fragIn nm l <;> rfl
theorem fragIn_hit {l : List FragP} {i : Nat} {x : FragP} (h : l[i]? = some x) : fragIn x.name (l.drop i) = some x := by
  obtain ⟨hl, rfl⟩ := List.getElem?_eq_some_iff.1 h
  rw [List.drop_eq_getElem_cons hl, fragIn, if_pos rfl]
theorem fragIn_miss {nm : ByteArray} {l : List FragP} {i : Nat} {x : FragP} (h : l[i]? = some x) (hx : x.name ≠ nm) : fragIn nm (l.drop i) = fragIn nm (l.drop (i + 1)) := by
  obtain ⟨hl, rfl⟩ := List.getElem?_eq_some_iff.1 h
  rw [List.drop_eq_getElem_cons hl, fragIn, if_neg hx]
/-- A Frag as a value. -/
def FragV (w : World) (A B : Nat) (v : Value) (x : FragP) : Prop := ∃ a cap, v = .agg #[.string x.name, .string x.on, .slice a x.sels.len cap] ∧ (OkS x.name ∧ OkS x.on) ∧ SelsAt w A B a x.sels.len x.sels
theorem FragV.below {w w' : World} {A B C : Nat} {v : Value} {x : FragP} (h : FragV w A B v x) (hB : B ≤ C) (g : Below C w w') : FragV w' A B v x := by
  obtain ⟨a, cap, h1, h2, h3⟩ := h
  exact ⟨a, cap, h1, h2, h3.below hB g⟩
theorem ret_tb {v : Value} {a b : Bool} (h : a = b) : Ending.returned (.tuple #[v, .bool a]) = .returned (.tuple #[v, .bool b]) := by rw [h]

set_option maxHeartbeats 1000000 in
theorem implFragNamed (w : World) (A B : Nat) (a : Option Addr) (cap : Nat) (l : List FragP) (nm : ByteArray) (hn : OkS nm) (hs : FragsAt w A B a l.length l) (hB : B ≤ w.heap.size) :
    Calls Tryd.prog 57 #[.slice a l.length cap, .string nm] w fun e w' => (∃ v, e = .returned (.tuple #[v, .bool (fragIn nm l).isSome]) ∧ FragV w' A B v (fragOr nm l)) ∧ Below w.heap.size w w' := by
  have HF := Lib.hid hs
  have hlen := hs.2.1
  have HA : Hid (∀ o, Below w.heap.size w (w.alloc o)) := Lib.hid fun o => (Below.refl _ _).alloc (Nat.le_refl _) o
  have HZ0 := Lib.hid (heap_alloc_new w (.cells #[.string ⟨#[]⟩, .string ⟨#[]⟩, .slice none 0 0] 59))
  clear hs
  go_enter Tryd.func57, Tryd.ntmps57
  go_wp2_with fail
  go_loopw [10] (fun i wr => ∃ (i' : Nat), i' ≤ l.length ∧ Hid (fragIn nm l = fragIn nm (l.drop i')) ∧ i = .int .i64 i' ∧ wr.heap[w.heap.size]? = some (.cells #[.string ⟨#[]⟩, .string ⟨#[]⟩, .slice none 0 0] 59 (0, 0)) ∧ Below w.heap.size w wr) (fun i _ => l.length - (intOf i).toNat)
  case atStart => exact ⟨0, by omega, Lib.hid (by rw [List.drop_zero]), rfl, HZ0.out, HA.out _⟩
  case round =>
    obtain ⟨i, hi, hm, rfl, hz, hb⟩ := hrel
    have HB := Lib.hid hb
    have HZ := Lib.hid hz
    have hzl := Rw.lt_of_get hz
    by_cases hlt : i < l.length
    · have hli : (i : Int) < (l.length : Int) := by omega
      obtain ⟨x, fb, off, a', cap', hd, rfl, hbb, hok, ⟨hc0, hc1, hc2⟩, hu⟩ := (HF.out.below (Nat.le_refl _) (hb.mono hB)).at hlt
      have HU := Lib.hid hu
      have HOK := Lib.hid hok
      have hz1 := (Go.Deep.blk_alloc_lt wr (.cells #[.string x.name, .string x.on, .slice a' x.sels.len cap'] 59) w.heap.size hzl).trans hz
      have HZ1 := Lib.hid hz1
      have HBA : Hid (∀ o, Below w.heap.size w (wr.alloc o)) := Lib.hid fun o => HB.out.alloc HB.out.size o
      by_cases hx : x.name = nm
      · subst hx
        have hf := Lib.hid (hm.out.trans (fragIn_hit hd))
        have ⟨⟨e0, e1, e2⟩, p0, p1, p2⟩ := keep3 hz
        clear hlt hd hb hok hu hz hz1
        go_wp2_with fail
        change bodyPost _ _ _ _ _ ((Rw.putL wr w.heap.size 0 [.string x.name, .string x.on, .slice a' x.sels.len cap']).alloc (.cells #[.string x.name, .string x.on, .slice a' x.sels.len cap'] 59))
        obtain ⟨hr, _, _⟩ := Rw.putL_cells (g := w.heap.size) (o := 0) (l := [.string x.name, .string x.on, .slice a' x.sels.len cap']) HZ.out (by simp)
        have HBF := Rw.putL_below (g := w.heap.size) (B := w.heap.size) (Nat.le_refl _) [.string x.name, .string x.on, .slice a' x.sels.len cap'] 0 HB.out
        have HUF : FragV (Rw.putL wr w.heap.size 0 [.string x.name, .string x.on, .slice a' x.sels.len cap']) A B (.agg #[.string x.name, .string x.on, .slice a' x.sels.len cap']) x :=
          ⟨a', cap', rfl, HOK.out, HU.out.below hB (Rw.putL_below (g := w.heap.size) (B := w.heap.size) (Nat.le_refl _) _ 0 (Below.refl _ _))⟩
        have hsz := Rw.putL_size [.string x.name, .string x.on, .slice a' x.sels.len cap'] wr w.heap.size 0
        generalize Rw.putL wr w.heap.size 0 [.string x.name, .string x.on, .slice a' x.sels.len cap'] = wz at *
        have hzz : w.heap.size < wz.heap.size := by omega
        have x0 := hr 0 _ rfl
        have x1 := hr 1 _ rfl
        have x2 := hr 2 _ rfl
        simp only [Nat.zero_add] at x0 x1 x2
        rw [← World.cell?_alloc_lt wz (.cells #[.string x.name, .string x.on, .slice a' x.sels.len cap'] 59) _ hzz] at x0 x1 x2
        have HBG := HBF.alloc (by omega) (.cells #[.string x.name, .string x.on, .slice a' x.sels.len cap'] 59)
        have HUG := HUF.below (C := wz.heap.size) (by omega) ((Below.refl _ _).alloc (Nat.le_refl _) (.cells #[.string x.name, .string x.on, .slice a' x.sels.len cap'] 59))
        generalize wz.alloc (.cells #[.string x.name, .string x.on, .slice a' x.sels.len cap'] 59) = wy at *
        exact bodyPost_ret (v := .tuple #[.agg #[.string x.name, .string x.on, .slice a' x.sels.len cap'], .bool true]) (by simp [results, Tryd.results57, go_sem, x0, x1, x2]) rfl ⟨⟨_, by rw [hf.out]; rfl, by unfold fragOr; rw [hf.out]; exact HUG⟩, HBG⟩
      · have hn1 := toList_ne hx
        have hn2 := toList_beq hx
        have hrel := Lib.hid (hm.out.trans (fragIn_miss hd hx))
        clear hlt hd hb hok hu hz hz1
        go_wp2_with fail
        go_roundw
        case rel => exact ⟨i + 1, by omega, hrel, by go_num, HZ1.out, HBA.out _⟩
        case measure => simp [intOf]; omega
    · obtain rfl : i = l.length := by omega
      have hf : Hid (fragIn nm l = none) := Lib.hid (by rw [hm.out, List.drop_length]; rfl)
      have ⟨⟨e0, e1, e2⟩, p0, p1, p2⟩ := keep3 hz
      clear hlt hb hz
      go_wp2_with fail
      change bodyPost _ _ _ _ _ (Rw.putL wr w.heap.size 0 [.string ⟨#[]⟩, .string ⟨#[]⟩, .slice none 0 0])
      obtain ⟨hr, _, _⟩ := Rw.putL_cells (g := w.heap.size) (o := 0) (l := [.string ⟨#[]⟩, .string ⟨#[]⟩, .slice none 0 0]) HZ.out (by simp)
      have HBF := Rw.putL_below (g := w.heap.size) (B := w.heap.size) (Nat.le_refl _) [.string ⟨#[]⟩, .string ⟨#[]⟩, .slice none 0 0] 0 HB.out
      generalize Rw.putL wr w.heap.size 0 [.string ⟨#[]⟩, .string ⟨#[]⟩, .slice none 0 0] = wz at *
      have x0 := hr 0 _ rfl
      have x1 := hr 1 _ rfl
      have x2 := hr 2 _ rfl
      simp only [Nat.zero_add] at x0 x1 x2
      exact bodyPost_ret (v := .tuple #[.agg #[.string ⟨#[]⟩, .string ⟨#[]⟩, .slice none 0 0], .bool false]) (by simp [results, Tryd.results57, go_sem, x0, x1, x2]) rfl ⟨⟨_, by rw [hf.out]; rfl, by unfold fragOr; rw [hf.out]; exact ⟨none, 0, rfl, ⟨by unfold OkS; decide, by unfold OkS; decide⟩, rfl, by decide, .inl rfl⟩⟩, HBF⟩
end Go.Proofs.YthdncjdopejkkaaDoor.Selss
