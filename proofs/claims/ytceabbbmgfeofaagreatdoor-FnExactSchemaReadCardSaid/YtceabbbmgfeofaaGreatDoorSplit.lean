/-
  Contracts: spec.l01Split parts a text at a byte; of what was there nothing is changed. Conditions: a text of at most 2^20 bytes.
-/
import Derived.Test.YtceabbbmgfeofaaGreatDoorRows
import Derived.Test.YtceabbbmgfeofaaGreatDoorBytes
import Derived.RegionTactic
import Derived.BigRegion
import Derived.Lib.Strings
namespace Go.Proofs.YtceabbbmgfeofaaGreatDoor.Splits
open Go.RowKit Texts Bytes
set_option linter.unusedVariables false
set_option maxRecDepth 100000
/-- Ahead of the first part. -/
def glue (p : List UInt8) : List (List UInt8) → List (List UInt8)
  | [] => [p]
  | h :: t => (p ++ h) :: t
/-- The parts between the bytes c. -/
def splitL (c : UInt8) : List UInt8 → List (List UInt8)
  | [] => [[]]
  | x :: r => if x = c then [] :: splitL c r else glue [x] (splitL c r)
theorem splitL_ne (c : UInt8) : ∀ l, splitL c l ≠ []
  | [] => by simp [splitL]
  | x :: r => by
    unfold splitL
    split
    · simp
    · cases splitL c r <;> simp [glue]
theorem glue_nil {X : List (List UInt8)} (h : X ≠ []) : glue [] X = X := by cases X with
  | nil => exact absurd rfl h
  | cons a b => rfl
theorem glue_glue (p q : List UInt8) {X : List (List UInt8)} : glue p (glue q X) = glue (p ++ q) X := by cases X <;> simp [glue]
/-- The bytes of t from a to b. -/
def part (t : ByteArray) (a b : Nat) : List UInt8 := (t.data.toList.take b).drop a
theorem part_next {t : ByteArray} {a b : Nat} (hab : a ≤ b) (hb : b < t.size) : part t a b ++ [t[b]] = part t a (b + 1) := by
  have hl : b < t.data.toList.length := by rw [Array.length_toList]; exact hb
  unfold part
  rw [List.take_succ_eq_append_getElem hl, List.drop_append_of_le_length (by rw [List.length_take]; omega)]
  rfl
theorem part_self (t : ByteArray) (a : Nat) : part t a a = [] := by
  unfold part; rw [List.drop_eq_nil_of_le]; rw [List.length_take]; omega
theorem drop_byte {t : ByteArray} {b : Nat} (hb : b < t.size) : t.data.toList.drop b = t[b] :: t.data.toList.drop (b + 1) := by
  have hl : b < t.data.toList.length := by rw [Array.length_toList]; exact hb
  rw [List.drop_eq_getElem_cons hl]; rfl
theorem part_extract (t : ByteArray) {a b : Nat} (h : b ≤ t.size) : t.extract a b = ⟨(part t a b).toArray⟩ := by
  apply ByteArray.ext
  apply Array.toList_inj.1
  rw [Lib.extract_data]
  unfold part
  simp [List.drop_take]
theorem split_hit {c : UInt8} {t : ByteArray} {out : List (List UInt8)} {a b : Nat} (hab : a ≤ b) (hb : b < t.size) (hx : t[b] = c) (h : out ++ glue (part t a b) (splitL c (t.data.toList.drop b)) = splitL c t.data.toList) :
    (out ++ [part t a b]) ++ glue (part t (b + 1) (b + 1)) (splitL c (t.data.toList.drop (b + 1))) = splitL c t.data.toList := by
  rw [← h, drop_byte hb, part_self, glue_nil (splitL_ne _ _)]
  simp [splitL, hx, glue]
theorem split_miss {c : UInt8} {t : ByteArray} {out : List (List UInt8)} {a b : Nat} (hab : a ≤ b) (hb : b < t.size) (hx : t[b] ≠ c) (h : out ++ glue (part t a b) (splitL c (t.data.toList.drop b)) = splitL c t.data.toList) :
    out ++ glue (part t a (b + 1)) (splitL c (t.data.toList.drop (b + 1))) = splitL c t.data.toList := by
  rw [← h, drop_byte hb]
  simp only [splitL, if_neg hx, glue_glue, part_next hab hb]
theorem split_end {c : UInt8} {t : ByteArray} {out : List (List UInt8)} {a : Nat} (h : out ++ glue (part t a t.size) (splitL c (t.data.toList.drop t.size)) = splitL c t.data.toList) :
    out ++ [part t a t.size] = splitL c t.data.toList := by
  rw [← h, List.drop_eq_nil_of_le (by rw [Array.length_toList]; exact Nat.le_refl _)]
  simp [splitL, glue]
def strV (x : List UInt8) : Value := .string ⟨x.toArray⟩
/-- A []string of the call's own. -/
def OwnS (w : World) (base : Nat) (v : Value) (l : List (List UInt8)) : Prop := w.ownsRow base 9 1 v l.length (l.map strV)
theorem infoS : (Tryz.prog.info? 9).map (fun i => (i.zero, i.size, i.bytes)) = some (some (.string ⟨#[]⟩), 1, 16) := by kernel_rfl
theorem OwnS.alloc {w : World} {base : Nat} {v : Value} {l : List (List UInt8)} (h : OwnS w base v l) (o : Obj) : OwnS (w.alloc o) base v l := World.ownsRow.alloc h o
theorem OwnS.made (w : World) (base : Nat) (hb : base ≤ w.heap.size) : OwnS (w.alloc (.cells #[] 9)) base (.slice (some ⟨w.heap.size, 0, none⟩) 0 0) [] :=
  World.ownsRow_lit (size := 1) w #[] 0 hb (by simp) rfl
/-- A slice of texts in memory, its row in a block from A on, below B. -/
def StrsAt (w : World) (A B : Nat) (a : Option Addr) (len : Nat) (l : List (List UInt8)) : Prop :=
  l.length = len ∧ (l = [] ∨ ∃ b off, a = some ⟨b, off, none⟩ ∧ A ≤ b ∧ b < B ∧ ∀ i x, l[i]? = some x → w.cell? ⟨b, off + i, none⟩ = some (.string ⟨x.toArray⟩))
theorem StrsAt.below {w w' : World} {A B C len : Nat} {a : Option Addr} {l : List (List UInt8)} (h : StrsAt w A B a len l) (hB : B ≤ C) (g : Below C w w') : StrsAt w' A B a len l :=
  ⟨h.1, h.2.imp id fun ⟨b, off, ha, hA, hb, hl⟩ => ⟨b, off, ha, hA, hb, fun i x hx => (g.cell (p := ⟨b, off + i, none⟩) (by show b < C; omega)).trans (hl i x hx)⟩⟩
theorem StrsAt.wide {w : World} {A B A' B' len : Nat} {a : Option Addr} {l : List (List UInt8)} (h : StrsAt w A B a len l) (hA : A' ≤ A) (hB : B ≤ B') : StrsAt w A' B' a len l :=
  ⟨h.1, h.2.imp id fun ⟨b, off, ha, hb, hb', hl⟩ => ⟨b, off, ha, by omega, by omega, hl⟩⟩
theorem OwnS.strs {w : World} {base : Nat} {v : Value} {l : List (List UInt8)} (h : OwnS w base v l) : ∃ a cap, v = .slice a l.length cap ∧ StrsAt w base w.heap.size a l.length l := by
  obtain ⟨hl, ⟨rfl, hn⟩ | ⟨gb, cap, cur, rfl, hb, hg, hc, hm, hs, ht⟩⟩ := h
  · obtain rfl : l = [] := List.eq_nil_of_length_eq_zero hn
    exact ⟨none, 0, rfl, rfl, .inl rfl⟩
  · refine ⟨_, _, rfl, rfl, .inr ⟨gb, 0, rfl, hb, ?_, fun i x hx => ?_⟩⟩
    · rcases Nat.lt_or_ge gb w.heap.size with h | h
      · exact h
      · rw [Array.getElem?_eq_none h] at hg; cases hg
    · rw [Nat.zero_add]
      rw [Nat.mul_one] at ht
      have hi := (List.getElem?_eq_some_iff.1 hx).1
      have e : (cur.toList.take l.length)[i]? = some (Value.string ⟨x.toArray⟩) := by rw [ht]; simp [hx, strV]
      rw [List.getElem?_take_of_lt hi] at e
      have e2 : cur[i]? = some (Value.string ⟨x.toArray⟩) := by rw [← e]; simp
      simp [World.cell?, hg, e2]
/-- 'append(l, x)' of one text. -/
theorem app_str {w : World} {ops : Array Oper} {rest : List Oper} {o : Oper} {a : Act} {Q : Exit → Act → World → Prop} (hgd : o.guard = none) (s x : Operand)
    (ho : o.op = .call { callee := .builtin .append, args := #[s, x], argTypes := #[40, 40] })
    (base : Nat) (v : Value) (l : List (List UInt8)) (hs : a.eval s = v) (hown : OwnS w base v l)
    (ad : Addr) (c : Nat) (hx : a.eval x = .slice (some ad) 1 c) (n : List UInt8) (hc : w.cell? ad = some (.string ⟨n.toArray⟩))
    (hsize : l.length + 1 ≤ 2097152) (hbase : base ≤ w.heap.size)
    (h : ∀ v' w', OwnS w' base v' (l ++ [n]) → Below base w w' → wpList Tryz.prog ops Q rest (a.put o.dst v') w') : wpList Tryz.prog ops Q (o :: rest) a w := by
  obtain ⟨i0, hi, hz0, hz1, hz2⟩ := info_parts infoS
  refine wpList_append_own w hgd s x 40 ho base 9 i0 (.string ⟨#[]⟩) 1 16 Tryz.underlying40 hi hz0 hz1 hz2 rfl (by decide) v l.length (l.map strV) hs hown ad 1 c [strV n] hx rfl ?_ ?_ (by unfold maxLen; omega) (by omega) hbase ?_
  · intro j u hj
    match j, hj with
    | 0, hj => simp at hj; subst hj; unfold strV; simpa [Addr.add] using hc
  · intro u hu; simp at hu; subst hu; rfl
  · intro v' w' ho' hg' _
    refine h v' w' ?_ ((Below.refl base w).grown hg' hbase (fun k hk => (hown.lt k hk).1))
    unfold OwnS
    rw [List.map_append]
    simpa using ho'
end Go.Proofs.YtceabbbmgfeofaaGreatDoor.Splits
namespace Go.Proofs.YtceabbbmgfeofaaGreatDoor.Splits
open Go.RowKit Texts Bytes
set_option linter.unusedVariables false
set_option maxHeartbeats 1000000 in
theorem specSplit (t : ByteArray) (ht : t.size ≤ 1048576) (c : UInt8) (w : World) :
    Calls Tryz.prog 58 #[.string t, .int .u8 (c.toNat : Int)] w fun e w' => (∃ a cap, e = .returned (.slice a (splitL c t.data.toList).length cap) ∧ StrsAt w' w.heap.size w'.heap.size a (splitL c t.data.toList).length (splitL c t.data.toList)) ∧ Below w.heap.size w w' := by
  have hc0 : 0 ≤ (c.toNat : Int) ∧ (c.toNat : Int) ≤ 255 := by have := c.toNat_lt; omega
  go_enter Tryz.func58, Tryz.ntmps58
  go_wp2_with fail
  go_loopw [5, 6, 7] (fun v f i wr => ∃ (a b : Nat) (out : List (List UInt8)), a ≤ b ∧ b ≤ t.size ∧ f = .int .i64 a ∧ i = .int .i64 b ∧ Hid (out ++ glue (part t a b) (splitL c (t.data.toList.drop b)) = splitL c t.data.toList) ∧ out.length ≤ b ∧ OwnS wr w.heap.size v out ∧ Below w.heap.size w wr) (fun _ _ i _ => t.size - (intOf i).toNat)
  case atStart => exact ⟨0, 0, [], by omega, by omega, rfl, rfl, Lib.hid (by rw [part_self, glue_nil (splitL_ne _ _)]; rfl), by simp, OwnS.made w _ (Nat.le_refl _), (Below.refl _ _).alloc (Nat.le_refl _) _⟩
  case round =>
    obtain ⟨a, b, out, hab, hbt, rfl, rfl, hrel, hol, hown, hb⟩ := hrel
    have HB := Lib.hid hb
    have hz := hb.size
    by_cases hlt : b < t.size
    · have hli : (b : Int) < (t.size : Int) := by omega
      have hbx : (0 : Int) ≤ (t[b].toNat : Int) ∧ (t[b].toNat : Int) ≤ 255 := by have := t[b].toNat_lt; omega
      by_cases hx : t[b] = c
      · have hhit := Lib.hid (split_hit hab hlt hx hrel.out)
        have hxi : (t[b].toNat : Int) = (c.toNat : Int) := by rw [hx]
        have hpe := part_extract t hbt (a := a)
        have hai : (a : Int) ≤ (b : Int) := by omega
        have hlen : out.length ≤ 1048576 := by omega
        clear hb hrel
        go_wp2_with (at_builtin; refine app_str rfl _ _ rfl w.heap.size _ out rfl (hown.alloc _) ⟨wr.heap.size, 0, none⟩ 1 rfl (part t a b) (one_new _ _ _) (by omega) (by simp; omega) ?_; intro v' w2 hown2 hb2)
        have HB2 := Lib.hid (HB.out.trans (((Below.refl wr.heap.size wr).alloc (Nat.le_refl _) (.cells #[.string ⟨(part t a b).toArray⟩] 9)).mono HB.out.size |>.trans (hb2.mono (by simp))))
        have hol2 : (out ++ [part t a b]).length ≤ b + 1 := by rw [List.length_append]; simp; omega
        clear hb2 hown
        go_roundw
        case rel => exact ⟨b + 1, b + 1, _, by omega, by omega, by go_num, by go_num, hhit, hol2, hown2, HB2.out⟩
        case measure => simp [intOf]; omega
      · have hmiss := Lib.hid (split_miss hab hlt hx hrel.out)
        have hxn : ((t[b].toNat : Int) == (c.toNat : Int)) = false := by
          rw [beq_eq_false_iff_ne]; intro e; exact hx (UInt8.toNat_inj.1 (by omega))
        have hxm : (t[b].toNat : Int) ≠ (c.toNat : Int) := by
          intro e; exact hx (UInt8.toNat_inj.1 (by omega))
        clear hb hrel
        go_wp2_with fail
        go_roundw
        case rel => exact ⟨a, b + 1, out, by omega, by omega, rfl, by go_num, hmiss, by omega, hown, HB.out⟩
        case measure => simp [intOf]; omega
    · obtain rfl : b = t.size := by omega
      have hend := Lib.hid (split_end hrel.out)
      have hpe := part_extract t (Nat.le_refl t.size) (a := a)
      have hai : (a : Int) ≤ (t.size : Int) := by omega
      have hlen : out.length ≤ 1048576 := by omega
      clear hb hrel hlt
      go_wp2_with (at_builtin; refine app_str rfl _ _ rfl w.heap.size _ out rfl (hown.alloc _) ⟨wr.heap.size, 0, none⟩ 1 rfl (part t a t.size) (one_new _ _ _) (by omega) (by simp; omega) ?_; intro v' w2 hown2 hb2)
      have HB2 := Lib.hid (HB.out.trans (((Below.refl wr.heap.size wr).alloc (Nat.le_refl _) (.cells #[.string ⟨(part t a t.size).toArray⟩] 9)).mono HB.out.size |>.trans (hb2.mono (by simp))))
      obtain ⟨a', cap', rfl, hst⟩ := hown2.strs
      rw [hend.out] at hst ⊢
      have HST := Lib.hid hst
      clear hb2 hown hst
      go_wp2_with fail
      go_ret
      exact ⟨⟨a', cap', rfl, HST.out⟩, HB2.out⟩
end Go.Proofs.YtceabbbmgfeofaaGreatDoor.Splits
