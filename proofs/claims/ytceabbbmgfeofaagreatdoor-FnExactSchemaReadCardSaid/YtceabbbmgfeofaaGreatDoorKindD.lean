/-
  Contracts: the one kind's right; impl.kindsOf, SchemaRight; of what was there nothing is changed. Conditions: in memory.
-/
import Derived.Test.YtceabbbmgfeofaaGreatDoorRows
import Derived.Test.YtceabbbmgfeofaaGreatDoorKindC
namespace Go.Proofs.YtceabbbmgfeofaaGreatDoor.Rw
open Go.RowKit Words Go.Maps
set_option linter.unusedVariables false
set_option maxRecDepth 100000

noncomputable def memberI (s : List TypeP) (l : List ByteArray) (i : Nat) (m : ByteArray) : Bool := (!freshB m s && ((typeIn m s).kind == 2)) && (findT m l 0 == (i : Int))
noncomputable def membersI (s : List TypeP) (l : List ByteArray) : List ByteArray → Nat → Bool
  | [], _ => true
  | x :: r, i => memberI s l i x && membersI s l r (i + 1)
theorem membersI_drop {s : List TypeP} {l : List ByteArray} {i : Nat} {x : ByteArray} (h : l[i]? = some x) : membersI s l (l.drop i) i = (memberI s l i x && membersI s l (l.drop (i + 1)) (i + 1)) := by
  obtain ⟨hl, rfl⟩ := List.getElem?_eq_some_iff.1 h
  rw [List.drop_eq_getElem_cons hl, membersI]
noncomputable def oneI (s : List TypeP) (t : TypeP) : Bool := (((decide (1 ≤ t.members.length) && decide (t.members.length ≤ 5)) && (t.bytes == 0)) && ((t.fields.length : Int) == 0)) && membersI s t.members t.members 0

theorem asObj (v : Value) (W : World) : (Instr.typeAssert (.iface 91 v) 94 91 true).run Tryz.prog W = .ok (.tuple #[v, .bool true]) W := by kernel_rfl
theorem asLeaf (v : Value) (W : World) : (Instr.typeAssert (.iface 234 v) 94 91 true).run Tryz.prog W = .ok (.tuple #[.agg #[.string ⟨#[]⟩, .int .i64 0, .int .i64 0, .slice none 0 0, .slice none 0 0], .bool false]) W := by kernel_rfl
theorem asOne (v : Value) (W : World) : (Instr.typeAssert (.iface 235 v) 94 91 true).run Tryz.prog W = .ok (.tuple #[.agg #[.string ⟨#[]⟩, .int .i64 0, .int .i64 0, .slice none 0 0, .slice none 0 0], .bool false]) W := by kernel_rfl
theorem asNil (W : World) : (Instr.typeAssert .nilIface 94 91 true).run Tryz.prog W = .ok (.tuple #[.agg #[.string ⟨#[]⟩, .int .i64 0, .int .i64 0, .slice none 0 0, .slice none 0 0], .bool false]) W := by kernel_rfl

set_option maxHeartbeats 4000000 in
theorem implOne (w : World) (A B : Nat) (x : TypeP) (a : Option Addr) (ca : Nat) (c : Option Addr) (cc : Nat) (hx : TypeAt w A B (.agg (x.cells a ca c cc).toArray) x) (b n : Nat) (D : DataW Value) (s : List TypeP) (hD : KD w A B s D) (ho : OwnK w b n D) (hB : B ≤ w.heap.size) :
    Calls Tryz.prog 285 #[.agg (x.cells a ca c cc).toArray, .map (some b)] w fun e w' => e = .returned (.bool (oneI s x)) ∧ Below w.heap.size w w' := by
  obtain ⟨a', ca', c', cc', hve, hk, ⟨h2, hca⟩, h3, hcc⟩ := hx
  obtain ⟨nm, kd, by_, fs, ms⟩ := x
  obtain ⟨hk, ⟨hs1, hs2⟩, hs3, hs4⟩ := hk
  simp [TypeP.cells] at hve
  obtain ⟨⟨rfl, rfl⟩, rfl, rfl⟩ := hve
  simp only [TypeP.cells] at hs1 hs2 hs3 hs4 h2 h3 hca hcc ⊢
  have HM := Lib.hid h3
  have hfl := h2.2.1
  have hml := h3.2.1
  have hbl := ho.lt
  have HD := Lib.hid hD
  have HO := Lib.hid ho
  have HA : Hid (∀ o, Below w.heap.size w (w.alloc o)) := Lib.hid fun o => (Below.refl _ _).alloc (Nat.le_refl _) o
  have CI : Hid (∀ (w' : World) (nm : ByteArray), OkS nm → Below w.heap.size w w' → Calls Tryz.prog 143 #[.slice c ms.length cc, .string nm] w' fun e w'' => e = .returned (.int .i64 (findT nm ms 0)) ∧ Below w'.heap.size w' w'') := Lib.hid fun w' nm hn g => implIndex w' A B c _ cc ms nm hn (HM.out.below textLies hB g) (Nat.le_trans hB g.size)
  obtain ⟨e1, he1⟩ : ∃ p, (by_ == 0) = p := ⟨_, rfl⟩
  obtain ⟨e3, he3⟩ : ∃ p, ((fs.length : Int) == 0) = p := ⟨_, rfl⟩
  have hf := Lib.hid (show oneI s ⟨nm, kd, by_, fs, ms⟩ = ((((decide (1 ≤ ms.length) && decide (ms.length ≤ 5)) && e1) && e3) && membersI s ms ms 0) by unfold oneI; simp only [he1, he3])
  clear hD ho h2 h3
  by_cases p1 : ms.length < 1
  · have hf2 := Lib.hid (show oneI s ⟨nm, kd, by_, fs, ms⟩ = false by rw [hf.out]; simp [show ¬ 1 ≤ ms.length by omega])
    have p1i : (ms.length : Int) < 1 := by omega
    clear p1
    go_enter Tryz.func285, Tryz.ntmps285
    go_wp2_with fail
    go_ret
    exact ⟨ret_bool hf2.out.symm, HA.out _⟩
  have p1i : ¬ (ms.length : Int) < 1 := by omega
  by_cases p2 : 5 < ms.length
  · have hf2 := Lib.hid (show oneI s ⟨nm, kd, by_, fs, ms⟩ = false by rw [hf.out]; simp [show ¬ ms.length ≤ 5 by omega])
    have p2i : (5 : Int) < (ms.length : Int) := by omega
    clear p1 p2
    go_enter Tryz.func285, Tryz.ntmps285
    go_wp2_with fail
    go_ret
    exact ⟨ret_bool hf2.out.symm, HA.out _⟩
  have p2i : ¬ (5 : Int) < (ms.length : Int) := by omega
  have hf2 := Lib.hid (show oneI s ⟨nm, kd, by_, fs, ms⟩ = ((e1 && e3) && membersI s ms ms 0) by rw [hf.out]; simp [show 1 ≤ ms.length by omega, show ms.length ≤ 5 by omega])
  clear hf p1 p2
  cases e1
  · have q1 : ¬ by_ = 0 := by simpa using he1
    go_enter Tryz.func285, Tryz.ntmps285
    go_wp2_with fail
    go_ret
    exact ⟨ret_bool hf2.out.symm, HA.out _⟩
  have q1 : (by_ != 0) = false := by simp [bne, he1]
  cases e3
  · have q3 : ¬ (fs.length : Int) = 0 := by simpa using he3
    have q3b : ((fs.length : Int) != 0) = true := by simp [bne, he3]
    go_enter Tryz.func285, Tryz.ntmps285
    go_wp2_with fail
    go_ret
    exact ⟨ret_bool hf2.out.symm, HA.out _⟩
  have q3 : ((fs.length : Int) != 0) = false := by simp [bne, he3]
  go_enter Tryz.func285, Tryz.ntmps285
  go_wp2_with fail
  have k0 := heap_alloc_new w (.cells #[.string nm, .int .i64 kd, .int .i64 by_, .slice a fs.length ca, .slice c ms.length cc] 235)
  go_loopw [33] (fun i wr => ∃ (i' : Nat), i' ≤ ms.length ∧ Hid (membersI s ms ms 0 = membersI s ms (ms.drop i') i') ∧ i = .int .i64 i' ∧ wr.heap[w.heap.size]? = some (.cells #[.string nm, .int .i64 kd, .int .i64 by_, .slice a fs.length ca, .slice c ms.length cc] 235 (0, 0)) ∧ Below w.heap.size w wr) (fun i _ => ms.length - (intOf i).toNat)
  case atStart => exact ⟨0, by omega, Lib.hid (by rw [List.drop_zero]), rfl, k0, HA.out _⟩
  case round =>
    obtain ⟨i, hi, hm, rfl, hk0, hb⟩ := hrel
    have HB := Lib.hid hb
    clear k0
    have ⟨⟨y0, y1, y2, y3, y4⟩, _⟩ := keep5 hk0
    by_cases hlt : i < ms.length
    · have hli : (i : Int) < (ms.length : Int) := by omega
      obtain ⟨m, fb, off, hd, rfl, hA, hbb, hok, hc⟩ := (HM.out.below textLies (Nat.le_refl _) (hb.mono hB)).at hlt
      rw [Nat.mul_one] at hc
      have hst := Lib.hid (membersI_drop (s := s) hd)
      obtain ⟨v, hrun, hv1, hv2⟩ := (HD.out.below hB hb).look (World.ownsMap.same HO.out (hb.block b hbl)) m hok
      obtain ⟨nF, hnF⟩ : ∃ p, findT m ms 0 = p := ⟨_, rfl⟩
      obtain ⟨r2, hr2⟩ : ∃ p, (nF == (i : Int)) = p := ⟨_, rfl⟩
      obtain ⟨r1, hr1⟩ : ∃ p, (!freshB m s && ((typeIn m s).kind == 2)) = p := ⟨_, rfl⟩
      have HFI := Lib.hid (show memberI s ms i m = (r1 && r2) by unfold memberI; rw [hr1, hnF, hr2])
      have HAA : Hid (∀ o, Below w.heap.size w (wr.alloc o)) := Lib.hid fun o => HB.out.alloc HB.out.size o
      have C2 : Hid (∀ w', Below w.heap.size w w' → Calls Tryz.prog 143 #[.slice (some ⟨fb, off, none⟩) ms.length cc, .string m] w' fun e w'' => e = .returned (.int .i64 nF) ∧ Below w'.heap.size w' w'') := Lib.hid fun w' g => by rw [← hnF]; exact CI.out w' m hok g
      have hl0 := lt_of_get hk0
      have hkf := Lib.hid (fun o => (Go.Deep.blk_alloc_lt wr o w.heap.size hl0).trans hk0)
      -- what the look-up gives: an object, or not
      have hcase : (r1 = true ∧ ∃ ka kca kc kcc, v = .iface 91 (.agg #[.string (typeIn m s).name, .int .i64 (typeIn m s).kind, .int .i64 (typeIn m s).bytes, .slice ka (typeIn m s).fields.length kca, .slice kc (typeIn m s).members.length kcc])) ∨ (r1 = false ∧ (v = .nilIface ∨ ∃ K, v = .iface 234 K ∨ v = .iface 235 K)) := by
        cases hf : freshB m s with
        | true => right; rw [hf] at hr1; exact ⟨hr1.symm, .inl (hv1 hf)⟩
        | false =>
          obtain ⟨hkk, ka, kca, kc, kcc, hve, _⟩ := hv2 hf
          rw [hf] at hr1
          rcases hkk with hkk | hkk | hkk
          · right; rw [hkk] at hr1 hve; exact ⟨hr1.symm, .inr ⟨_, .inl hve⟩⟩
          · left
            have e : kindT (typeIn m s).kind = 91 := by rw [hkk]; rfl
            rw [e] at hve
            rw [hkk] at hr1
            exact ⟨hr1.symm, ka, kca, kc, kcc, hve⟩
          · right; rw [hkk] at hr1 hve; exact ⟨hr1.symm, .inr ⟨_, .inr hve⟩⟩
      clear hv1 hv2 hr1 hnF hok hd hb hlt
      have aO := asObj
      have aL := asLeaf
      have a1 := asOne
      have aN := asNil
      rcases hcase with ⟨rfl, ka, kca, kc, kcc, rfl⟩ | ⟨rfl, hv⟩
      · generalize (typeIn m s).name = tn at *
        generalize (typeIn m s).kind = tk at *
        generalize (typeIn m s).bytes = tb at *
        generalize (typeIn m s).fields.length = tf at *
        generalize (typeIn m s).members.length = tm at *
        cases r2
        · have n2 : ¬ nF = (i : Int) := by simpa using hr2
          have n2b : (nF != (i : Int)) = true := by simp [bne, hr2]
          have ho := Lib.hid (show memberI s ms i m = false from HFI.out)
          go_wp2_with (first
            | (go_at_call 143; refine (C2.out _ (HAA.out _)).mono ?_; rintro e w2 ⟨rfl, hb2⟩))
          go_ret
          exact ⟨ret_bool (by rw [hf2.out, all_no hm.out hst.out ho.out]; rfl), (HAA.out _).trans (hb2.mono (HAA.out _).size)⟩
        · have n2b : (nF != (i : Int)) = false := by simp [bne, hr2]
          have ho := Lib.hid (show memberI s ms i m = true from HFI.out)
          go_wp2_with (first
            | (go_at_call 143; refine (C2.out _ (HAA.out _)).mono ?_; rintro e w2 ⟨rfl, hb2⟩))
          have hk2 := (hb2.block w.heap.size (by simp; omega)).trans (hkf.out _)
          have hB2 := (HAA.out _).trans (hb2.mono (HAA.out _).size)
          go_roundw
          case rel => exact ⟨i + 1, by omega, Lib.hid (all_yes hm.out hst.out ho.out), by go_num, hk2, hB2⟩
          case measure => simp [intOf]; omega
      · have ho := Lib.hid (show memberI s ms i m = false from HFI.out)
        rcases hv with rfl | ⟨K, rfl | rfl⟩
        · go_wp2_with fail
          go_ret
          exact ⟨ret_bool (by rw [hf2.out, all_no hm.out hst.out ho.out]; rfl), HAA.out _⟩
        · go_wp2_with fail
          go_ret
          exact ⟨ret_bool (by rw [hf2.out, all_no hm.out hst.out ho.out]; rfl), HAA.out _⟩
        · go_wp2_with fail
          go_ret
          exact ⟨ret_bool (by rw [hf2.out, all_no hm.out hst.out ho.out]; rfl), HAA.out _⟩
    · obtain rfl : i = ms.length := by omega
      have hf3 := Lib.hid (show oneI s ⟨nm, kd, by_, fs, ms⟩ = true by rw [hf2.out, hm.out, List.drop_length]; rfl)
      clear hlt hb
      go_wp2_with fail
      go_ret
      exact ⟨ret_bool hf3.out.symm, HB.out⟩
end Go.Proofs.YtceabbbmgfeofaaGreatDoor.Rw
