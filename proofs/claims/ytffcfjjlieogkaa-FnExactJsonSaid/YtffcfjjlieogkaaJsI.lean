/-
  Contract: impl.writer.put writes a text by way of the buffer, which is emptied when it is full; of what was there nothing else is changed. Conditions: in memory, at most 10^12 bytes.
-/
import Derived.Test.YtffcfjjlieogkaaRows
import Derived.Test.YtffcfjjlieogkaaJsE
namespace Go.Proofs.Ytffcfjjlieogkaa.Rw
open Go.RowKit Words Texts Bytes
set_option linter.unusedVariables false
set_option maxRecDepth 100000

theorem run_copy_min {P : Program} (w : World) (dT sT ty elem : TypeId) (g o dLen dCap m : Nat) (s : ByteArray) (cur : Array Value) (t : TypeId)
    (hu : P.underlying dT = some (.slice elem)) (hs : (P.info? elem).map (·.size) = some 1) (hg : w.heap[g]? = some (.cells cur t (0, 0))) (hm : Nat.min s.size dLen = m) (hfit : o + m ≤ cur.size) :
    (Builtin.copy_ #[dT, sT] ty #[.slice (some ⟨g, o, none⟩) dLen dCap, .string s]).run P w =
      .ok (.int .i64 m) (w.setRow g (cur.toList.take o ++ Lib.byteCells (s.data.toList.take m) ++ cur.toList.drop (o + m)).toArray) := by
  have hms : m ≤ s.size := by rw [← hm]; exact Nat.min_le_left _ _
  have hlen : (Lib.byteCells (s.data.toList.take m)).length = m := by
    rw [Lib.byteCells_length, List.length_take, show s.data.toList.length = s.size from rfl]; omega
  have hst := run_storeCells_at P g o t (Lib.byteCells (s.data.toList.take m)) 0 cur w hg (by rw [hlen]; simpa using hfit) (Lib.byteCells_one _)
  have htk : List.take m (List.map (fun b : UInt8 => Value.int IntKind.u8 (b.toNat : Int)) s.data.toList) = Lib.byteCells (s.data.toList.take m) := by
    rw [← List.map_take]; rfl
  rw [hlen] at hst
  simp only [Nat.add_zero] at hst
  cases hq : P.info? elem with
  | none => simp [hq] at hs
  | some i =>
    simp [Builtin.copy_, run_underlying hu, Builtin.lenOf, Builtin.firstCells, sizeOf, typeInfo, hq, hm]
    rw [htk, hst]
    simp [Result.andThen]; rfl
/-- A writer at rest: all that was written. -/
def J (K : Wk) (w : World) (b : Nat) (out : List UInt8) : Prop := ∃ poured part fl, StW K w b poured part fl ∧ fl < 64 ∧ out = poured ++ part
structure WkOk (K : Wk) (B b : Nat) : Prop where
  base : B ≤ b
  ne : K.T ≠ 30
  same : ∀ (w w' : World) (l : List UInt8) (c : Array Value) (fr : Nat × Nat), K.S w l → w.heap[b]? = some (.cells c K.T fr) → (∀ k, k ≠ b → w'.heap[k]? = w.heap[k]?) → K.S w' l
  grow : ∀ (w w' : World) (l : List UInt8), K.S w l → Below w.heap.size w w' → K.S w' l
  empty : EmptyLaw K B b
theorem bld_grow {w w' : World} {B tb : Nat} {l : List UInt8} (h : Bld w B tb l) (hw : Below w.heap.size w w') : Bld w' B tb l := by
  have go : ∀ p, Lib.BuilderAt 44 5 B tb p (Lib.byteCells l) w → Lib.BuilderAt 44 5 B tb p (Lib.byteCells l) w' := by
    rintro p ⟨hB, u, h1, ⟨h2, h3⟩, h4⟩
    refine ⟨hB, u, by rw [hw.block _ (lt_of_get h1)]; exact h1, ⟨h2, ?_⟩, h4⟩
    rcases h3 with h3 | ⟨g, cap, cur, e, hg, hh, hr⟩
    · exact .inl h3
    · exact .inr ⟨g, cap, cur, e, hg, by rw [hw.block _ (lt_of_get hh)]; exact hh, hr⟩
  rcases h with h | h
  · exact .inl (go _ h)
  · exact .inr (go _ h)
theorem okJ (B tb b : Nat) (hB : B ≤ b) (hne : b ≠ tb) : WkOk (wkJ B tb) B b := ⟨hB, by simp [wkJ], fun w w' l c fr h1 h2 h3 => bld_same h1 hne h2 (by simp [wkJ]) h3, fun w w' l h1 h2 => bld_grow h1 h2, emptyJ B tb b hB hne⟩
theorem okM (B b : Nat) (hB : B ≤ b) : WkOk (wkM b) B b := ⟨hB, by simp [wkM], fun _ _ _ _ _ _ _ _ => trivial, fun _ _ _ _ _ => trivial, emptyM B b hB⟩
def strLen : Value → Nat
  | .string s => s.size
  | _ => 0
theorem bl_extract (t : ByteArray) (m : Nat) : bl (t.extract m t.size) = (bl t).drop m := by
  unfold bl
  rw [Lib.extract_data, List.take_of_length_le (by rw [List.length_drop]; exact Nat.le_refl _)]
theorem wrL_take {buf e : List Value} {fl : Nat} {pv x : Value} (h : buf.length = 64) {k : Nat} (hk : k ≤ 64) : (wrL buf fl pv e).take k = buf.take k := by
  unfold wrL; rw [List.take_append_of_le_length (by omega)]
theorem wrL_drop {buf e : List Value} {fl : Nat} {pv : Value} (h : buf.length = 64) {k : Nat} (hk : k ≤ 64) : (wrL buf fl pv e).drop k = buf.drop k ++ (.int .i64 fl :: pv :: e) := by
  unfold wrL; rw [List.drop_append_of_le_length (by omega)]
theorem wrL_copy {buf e news : List Value} {fl m : Nat} {pv : Value} (h : buf.length = 64) (hm : fl + m ≤ 64) : (wrL buf fl pv e).take fl ++ news ++ (wrL buf fl pv e).drop (fl + m) = wrL (buf.take fl ++ news ++ buf.drop (fl + m)) fl pv e := by
  rw [wrL_take (x := pv) h (by omega), wrL_drop h hm]
  simp [wrL]
theorem size0 {t : ByteArray} (h : t.size = 0) : (t.toList == []) = true := by
  rw [beq_iff_eq, Lib.toList_data]; exact List.eq_nil_of_length_eq_zero h
theorem size1 {t : ByteArray} (h : t.size ≠ 0) : (t.toList == []) = false := by
  rw [beq_eq_false_iff_ne, Lib.toList_data]; intro e; exact h (congrArg List.length e)

set_option maxHeartbeats 1000000 in
theorem putJ (K : Wk) (B b : Nat) (HK : WkOk K B b) (w : World) (out : List UInt8) (t : ByteArray) (hj : J K w b out) (hBw : B ≤ w.heap.size) (hsz : out.length + t.size ≤ 1000000000000) :
    Calls Try.prog 37 #[.pointer (some ⟨b, 0, none⟩), .string t] w fun e w' => e = .returned (.tuple #[]) ∧ J K w' b (out ++ bl t) ∧ Below B w w' ∧ KN w w' := by
  have HKH := Lib.hid HK
  have HJ := Lib.hid hj
  have HSZ := Lib.hid hsz
  have hB := HK.base
  clear HK hj hsz
  go_enter Try.func37, Try.ntmps37
  go_wp2_with fail
  go_loopw [1] (fun t1 wr => ∃ (t' : ByteArray) (o' : List UInt8), t1 = .string t' ∧ Hid (J K wr b o') ∧ Hid (o' ++ bl t' = out ++ bl t) ∧ Below B w wr ∧ Hid (KN w wr)) (fun t1 _ => strLen t1)
  case atStart => exact ⟨t, out, rfl, HJ, Lib.hid rfl, Below.refl _ _, Lib.hid (KN.refl _)⟩
  case round =>
    obtain ⟨t', o', rfl, HJ', HT, hb, HKN⟩ := hrel
    have HB := Lib.hid hb
    have htl : o'.length + t'.size ≤ 1000000000000 := by
      have e1 := congrArg List.length HT.out
      have e2 := HSZ.out
      simp only [List.length_append, bl_len] at e1; omega
    clear hb
    by_cases h0 : t'.size = 0
    · have h1 := size0 h0
      have hf : Hid (J K wr b (out ++ bl t)) := Lib.hid (by
        have e : bl t' = [] := List.eq_nil_of_length_eq_zero (by rw [bl_len]; exact h0)
        have := HT.out
        rw [e, List.append_nil] at this
        rw [← this]; exact HJ'.out)
      clear h0
      go_wp2_with fail
      go_end0
      exact ⟨rfl, hf.out, HB.out, HKN.out⟩
    · have h1 := size1 h0
      obtain ⟨poured, part, fl, ⟨buf, hh, hbuf, hpl, htk, hfl, hS⟩, hlt, rfl⟩ := HJ'.out
      obtain ⟨m, hm⟩ : ∃ q, Nat.min t'.size (64 - fl) = q := ⟨_, rfl⟩
      have hm1 : m ≤ t'.size := by rw [← hm]; exact Nat.min_le_left _ _
      have hm2 : m ≤ 64 - fl := by rw [← hm]; exact Nat.min_le_right _ _
      have hm3 : m = t'.size ∨ m = 64 - fl := by
        rw [← hm]; rcases Nat.le_total t'.size (64 - fl) with g | g
        · exact .inl (Nat.min_eq_left g)
        · exact .inr (Nat.min_eq_right g)
      have hm0 : 1 ≤ m := by omega
      have hcs : (wrL buf fl K.pv (K.ext poured)).length = 66 + (K.ext poured).length := by unfold wrL; simp [hbuf]; omega
      have hcp0 := run_copy_min (P := Try.prog) wr.drew 38 9 3 5 b fl (64 - fl) (64 - fl) m t' _ K.T Try.underlying38 size5 hh hm (by rw [List.size_toArray, hcs]; omega)
      have hh1 := setRow_heap wr.drew b _ ((wrL buf fl K.pv (K.ext poured)).take fl ++ Lib.byteCells ((bl t').take m) ++ (wrL buf fl K.pv (K.ext poured)).drop (fl + m)).toArray K.T (0, 0) hh
      have ho1 : ∀ Y k, k ≠ b → (wr.drew.setRow b Y).heap[k]? = wr.heap[k]? := fun Y k hk => setRow_other _ _ _ _ hk
      have hb1 : Below B wr (wr.drew.setRow b ((wrL buf fl K.pv (K.ext poured)).take fl ++ Lib.byteCells ((bl t').take m) ++ (wrL buf fl K.pv (K.ext poured)).drop (fl + m)).toArray) := ⟨rfl, rfl, rfl, by simp, fun k hk => ho1 _ k (by omega)⟩
      have ho := ho1 ((wrL buf fl K.pv (K.ext poured)).take fl ++ Lib.byteCells ((bl t').take m) ++ (wrL buf fl K.pv (K.ext poured)).drop (fl + m)).toArray
      rw [show ∀ (l : List Value), l.toArray.toList = l from fun l => rfl] at hcp0
      have hcp : (Builtin.copy_ #[38, 9] 3 #[.slice (some ⟨b, fl, none⟩) (64 - fl) (64 - fl), .string t']).run Try.prog wr.drew = .ok (.int .i64 m) (wr.drew.setRow b ((wrL buf fl K.pv (K.ext poured)).take fl ++ Lib.byteCells ((bl t').take m) ++ (wrL buf fl K.pv (K.ext poured)).drop (fl + m)).toArray) := hcp0
      clear ho1 hcp0
      generalize wr.drew.setRow b ((wrL buf fl K.pv (K.ext poured)).take fl ++ Lib.byteCells ((bl t').take m) ++ (wrL buf fl K.pv (K.ext poured)).drop (fl + m)).toArray = w1 at *
      rw [wrL_copy hbuf (by omega)] at hh1
      obtain ⟨buf2, hbuf2⟩ : ∃ q, buf.take fl ++ Lib.byteCells ((bl t').take m) ++ buf.drop (fl + m) = q := ⟨_, rfl⟩
      rw [hbuf2] at hh1
      have hbm : ((bl t').take m).length = m := by rw [List.length_take, bl_len]; omega
      have hb2l : buf2.length = 64 := by
        rw [← hbuf2]; simp only [List.length_append, List.length_take, List.length_drop, Lib.byteCells_length, hbm, hbuf]; omega
      have hb2t : buf2.take (fl + m) = Lib.byteCells (part ++ (bl t').take m) := by
        rw [← hbuf2, List.take_append_of_le_length (by simp only [List.length_append, List.length_take, Lib.byteCells_length, hbm, hbuf]; omega), List.take_of_length_le (by simp only [List.length_append, List.length_take, Lib.byteCells_length, hbm, hbuf]; omega), htk, Lib.byteCells_append]
      have h64 := (cellL hh (wrL_64 hbuf)).1
      have g64 := (cellL hh1 (wrL_64 hb2l)).1
      have f64 := (cellL hh1 (wrL_64 hb2l)).2
      have hk2 : (fl : Int) ≤ 64 := by omega
      have hk : (fl : Int) < 64 := by omega
      have hmi : (m : Int) ≤ (t'.size : Int) := by omega
      have HST : Hid (∀ v : Int, v = (fl : Int) + (m : Int) → StW K (w1.setCell ⟨b, 64, none⟩ (.int .i64 v)) b poured (part ++ (bl t').take m) (fl + m)) := Lib.hid fun v hv => by
        refine ⟨buf2, ?_, hb2l, by rw [List.length_append, hpl, hbm], hb2t, by omega, ?_⟩
        · have := setL (k := 64) hh1 (.int .i64 v)
          rw [hv, show (fl : Int) + (m : Int) = ((fl + m : Nat) : Int) by omega, wrL_set hb2l] at this
          rw [hv, show (fl : Int) + (m : Int) = ((fl + m : Nat) : Int) by omega]
          exact this
        · exact HKH.out.same wr _ _ _ _ hS hh fun k hk => (Below.heap_setCell _ _ _ _ hk).trans (ho k hk)
      have HBW : Hid (∀ v, Below B w (w1.setCell ⟨b, 64, none⟩ v)) := Lib.hid fun v => (HB.out.trans hb1).setCell (p := ⟨b, 64, none⟩) hB v
      have HKW : Hid (∀ v, KN w (w1.setCell ⟨b, 64, none⟩ v)) := Lib.hid fun v k c fr e => by
        have e1 := HKN.out k c fr e
        have hkb : k ≠ b := fun e2 => by subst e2; rw [hh] at e1; simp at e1; exact HKH.out.ne e1.2.1
        rw [Below.heap_setCell _ _ _ _ hkb, ho k hkb]; exact e1
      have HTX : Hid ((poured ++ (part ++ (bl t').take m)) ++ bl (t'.extract m t'.size) = out ++ bl t) := Lib.hid (by
        rw [← HT.out, bl_extract]
        simp [List.append_assoc, List.take_append_drop])
      have HMS : Hid ((t'.extract m t'.size).size < t'.size) := Lib.hid (by
        have := congrArg List.length (bl_extract t' m)
        rw [bl_len, List.length_drop, bl_len] at this; omega)
      have hfm : fl + m ≤ 64 := by omega
      have htp : poured.length + (fl + m) ≤ 1000000000000 := by simp only [List.length_append] at htl; omega
      have HTP := Lib.hid htp
      have HBS := Lib.hid hBw
      clear h0 hm hm1 hm2 hm3 hm0 hcs hh hh1 ho hb1 hbuf2 hbm hb2l hb2t hpl htk hS hbuf HJ' HT htl htp
      by_cases hkm : fl + m = 64
      · have hki : (fl : Int) + (m : Int) = 64 := by omega
        have HS2 := Lib.hid (HST.out 64 hki.symm)
        have HX := Lib.hid (HKH.out.empty _ poured _ (fl + m) HS2.out (Nat.le_trans hBw (HBW.out (.int .i64 64)).size) HTP.out)
        clear hkm HST
        go_wp2_with fail
        go_region
        go_wp2_with fail
        refine HX.out.mono ?_
        rintro e w3 ⟨rfl, hs3, hb3, hk3⟩
        have HJ3 : Hid (J K w3 b (poured ++ (part ++ (bl t').take m))) := Lib.hid ⟨_, _, _, hs3, by omega, by rw [List.append_nil]⟩
        have HB3 := Lib.hid ((HBW.out _).trans hb3)
        have HK3 := Lib.hid ((HKW.out _).trans hk3)
        clear hs3 hb3 hk3
        go_wp2_with fail
        go_roundw
        case rel => exact ⟨_, _, rfl, HJ3, HTX, HB3.out, HK3⟩
        case measure => exact HMS.out
      · have hki : (fl : Int) + (m : Int) < 64 := by omega
        have HJ3 : Hid (J K (w1.setCell ⟨b, 64, none⟩ (.int .i64 ((fl : Int) + (m : Int)))) b (poured ++ (part ++ (bl t').take m))) := Lib.hid ⟨_, _, _, HST.out _ rfl, by omega, rfl⟩
        clear hkm HST
        go_wp2_with fail
        go_region
        go_wp2_with fail
        go_roundw
        case rel => exact ⟨_, _, rfl, HJ3, HTX, HBW.out _, Lib.hid (HKW.out _)⟩
        case measure => exact HMS.out
end Go.Proofs.Ytffcfjjlieogkaa.Rw
