/-
  Contract: spec.l04Line answers a right type's line; of what was there nothing is changed. Conditions: in memory.
-/
import Derived.Test.YtceabbbmgfeofaaGreatDoorRows
import Derived.Test.YtceabbbmgfeofaaGreatDoorSchT
namespace Go.Proofs.YtceabbbmgfeofaaGreatDoor.Rw
open Go.RowKit Words Decs
set_option linter.unusedVariables false
set_option maxRecDepth 100000

theorem ret_s {a b : ByteArray} (h : a = b) : Ending.returned (.string a) = .returned (.string b) := by rw [h]
/-- What is like a right type, for its line. -/
structure LineOk (s : List TypeP) (x : TypeP) : Prop where
  nm : typeB x.name = true
  kind : x.kind = 1 ∨ x.kind = 2 ∨ x.kind = 3
  bytes : 0 ≤ x.bytes ∧ x.bytes ≤ 100
  few : x.fields.length ≤ 8
  each : ∀ f ∈ x.fields, FieldOk s f
  fewM : x.members.length ≤ 5
  eachM : ∀ m ∈ x.members, m.size ≤ 8

set_option maxHeartbeats 4000000 in
theorem specLine (w : World) (A B : Nat) (x : TypeP) (a : Option Addr) (ca : Nat) (c : Option Addr) (cc : Nat) (hx : TypeAt w A B (.agg (x.cells a ca c cc).toArray) x) (hB : B ≤ w.heap.size) (s : List TypeP) (hL : LineOk s x) :
    Calls Tryz.prog 110 #[.agg (x.cells a ca c cc).toArray] w fun e w' => e = .returned (.string (lineT x)) ∧ Below w.heap.size w w' := by
  obtain ⟨a', ca', c', cc', hve, hk, ⟨hf, hca⟩, hm, hcc⟩ := hx
  obtain ⟨nm, kd, by_, fs, ms⟩ := x
  simp [TypeP.cells] at hve
  obtain ⟨⟨rfl, rfl⟩, rfl, rfl⟩ := hve
  obtain ⟨h1, h2, ⟨h3, h4⟩, h5, h6, h7, h8⟩ := hL
  simp only [TypeP.cells] at hf hca hm hcc h1 h2 h3 h4 h5 h6 h7 h8 ⊢
  have hnm := (type_small h1).2
  have HF := Lib.hid hf
  have HM := Lib.hid hm
  have H6 := Lib.hid h6
  have H8 := Lib.hid h8
  have HA : Hid (∀ o, Below w.heap.size w (w.alloc o)) := Lib.hid fun o => (Below.refl _ _).alloc (Nat.le_refl _) o
  have hbn : ((by_.toNat : Nat) : Int) = by_ := Int.toNat_of_nonneg h3
  have CD : Hid (∀ w, Calls Tryz.prog 151 #[.int .i64 by_] w fun e w' => e = .returned (.string (decB by_)) ∧ Below w.heap.size w w') := Lib.hid fun w => by
    have := specDec by_.toNat (by omega) w
    rwa [hbn] at this
  have hds := dec_size h3 h4
  have HT : Hid (lineT ⟨nm, kd, by_, fs, ms⟩ = ((((kindW kd ++ nm) ++ (if kd = 1 then cB [32] ++ decB by_ else ByteArray.empty)) ++ fieldsT fs) ++ memsT ms) ++ cB [10]) := Lib.hid rfl
  generalize hLT : lineT ⟨nm, kd, by_, fs, ms⟩ = LT at *
  have hk0 := heap_alloc_new w (.cells #[.string nm, .int .i64 kd, .int .i64 by_, .slice a fs.length ca, .slice c ms.length cc] 48)
  clear hf hm hk h6 h8 hLT h1 hbn
  go_enter Tryz.func110, Tryz.ntmps110
  go_upto_region 1 with fail
  go_cut [3] from 7 to 14 (fun v wx => v = .string (kindW kd ++ nm) ∧ wx.heap[w.heap.size]? = some (.cells #[.string nm, .int .i64 kd, .int .i64 by_, .slice a fs.length ca, .slice c ms.length cc] 48 (0, 0)) ∧ Below w.heap.size w wx)
  case first =>
    rcases h2 with h2 | h2 | h2
    all_goals
      subst h2
      go_region
      go_wp2_with fail
      go_meet
      exact ⟨rfl, (Go.Deep.blk_alloc_lt _ _ _ (by simp)).trans hk0, ((HA.out _).alloc (by simp) _).drew⟩
  case rest =>
    obtain ⟨rfl, hk1, hb1⟩ := hcut
    have HB1 := Lib.hid hb1
    have hw0 : (kindW kd).size ≤ 5 := by unfold kindW; split <;> (try split) <;> simp [cB_size]
    obtain ⟨T0, hT0⟩ : ∃ T, kindW kd ++ nm = T := ⟨_, rfl⟩
    have hT0s : T0.size ≤ 13 := by rw [← hT0, ByteArray.size_append]; omega
    rw [hT0] at HT ⊢
    have ⟨⟨y0, y1, y2, y3, y4⟩, _⟩ := keep5 hk1
    clear hT0 hw0 hk0 hb1
    have hm1 : (kd = 1 ∧ ¬ (kd = 2 ∨ kd = 3)) ∨ ¬ kd = 1 := by omega
    rcases hm1 with ⟨h1, _⟩ | h1
    · have h1b : (kd == 1) = true := by rw [h1]; rfl
      rw [if_pos h1] at HT
      have H1 := Lib.hid h1
      clear h1 h2
      have s1 : ¬ 9223372036854775807 < T0.size + 1 := by omega
      have s2 : ¬ 9223372036854775807 < T0.size + 1 + (decB by_).size := by omega
      have HT1 : Hid (LT = ((((T0 ++ ⟨#[32]⟩) ++ decB by_) ++ fieldsT fs) ++ memsT ms) ++ cB [10]) := Lib.hid (by
        rw [HT.out]; simp only [ByteArray.append_assoc]; rfl)
      go_wp2_with (go_at_call 151; refine (CD.out _).mono ?_; rintro e w2 ⟨rfl, hb2⟩; have hk2 := (hb2.block w.heap.size (lt_of_get hk1)).trans hk1; have HB2 := Lib.hid (HB1.out.trans (hb2.mono HB1.out.size)))
      obtain ⟨T1, hT1⟩ : ∃ T, (T0 ++ ⟨#[32]⟩) ++ decB by_ = T := ⟨_, rfl⟩
      have hT1s : T1.size ≤ 20 := by
        rw [← hT1]; simp [ByteArray.size_append]; have e : ∀ l : Array UInt8, (⟨l⟩ : ByteArray).size = l.size := fun _ => rfl; simp only [e]; simp; omega
      rw [hT1] at HT1 ⊢
      clear hT1 hb2 hk1 y0 y1 y2 y3 y4 s1 s2
      go_loopw [3, 4] (fun v i wr => ∃ (i' : Nat) (T : ByteArray), i' ≤ fs.length ∧ v = .string T ∧ i = .int .i64 i' ∧ Hid (T ++ fieldsT (fs.drop i') = T1 ++ fieldsT fs) ∧ T.size ≤ 20 + 25 * i' ∧ wr.heap[w.heap.size]? = some (.cells #[.string nm, .int .i64 kd, .int .i64 by_, .slice a fs.length ca, .slice c ms.length cc] 48 (0, 0)) ∧ Below w.heap.size w wr) (fun _ i _ => fs.length - (intOf i).toNat)
      case atStart => exact ⟨0, T1, by omega, rfl, rfl, Lib.hid (by rw [List.drop_zero]), by omega, hk2, HB2.out⟩
      case round =>
        obtain ⟨i, T, hi, rfl, rfl, hT, hTs, hkr, hb⟩ := hrel
        clear hk2
        have HBR := Lib.hid hb
        have ⟨⟨y0, y1, y2, y3, y4⟩, _⟩ := keep5 hkr
        by_cases hlt : i < fs.length
        · have hli : (i : Int) < (fs.length : Int) := by omega
          obtain ⟨f, fb, off, hd, rfl, hAb, hbb, hok, hc⟩ := (HF.out.below fieldLies (Nat.le_refl _) (hb.mono hB)).at hlt
          obtain ⟨c0, c1, c2, c3, c4, c5⟩ := row6 hc
          have hfo := H6.out f (List.mem_iff_getElem?.2 ⟨i, hd⟩)
          have hst := Lib.hid (fieldsT_drop hd)
          have hfs := field_size hfo
          have hn1 := (word_small hfo.word).2
          have hn2 := (type_small hfo.typ).2
          have hsz := sized_cases hfo.sized
          have hlr := lt_of_get hkr
          have HAR : Hid (∀ o, Below w.heap.size w (wr.alloc o)) := Lib.hid fun o => HBR.out.alloc HBR.out.size o
          have HKR : Hid (∀ o, (wr.alloc o).heap[w.heap.size]? = some (.cells #[.string nm, .int .i64 kd, .int .i64 by_, .slice (some ⟨fb, off, none⟩) fs.length ca, .slice c ms.length cc] 48 (0, 0))) := Lib.hid fun o => (Go.Deep.blk_alloc_lt _ _ _ hlr).trans hkr
          have HNR : Hid (∀ o, (wr.alloc o).heap[wr.heap.size]? = some o) := Lib.hid fun o => heap_alloc_new wr o
          have HFT := Lib.hid (show fieldT f = (((cB [32] ++ f.name) ++ cB [58]) ++ f.typ) ++ tailT f from rfl)
          have HTT := Lib.hid (show tailT f = ((if f.list = true ∧ f.cap = 0 then (cB [91] ++ decB f.size) ++ cB [93] else ByteArray.empty) ++ (if f.list = true ∧ 0 < f.cap then (cB [91, 60] ++ decB f.cap) ++ cB [93] else ByteArray.empty)) ++ (if f.must = true then cB [33] else ByteArray.empty) from rfl)
          generalize fieldT f = fT at *
          generalize tailT f = tT at *
          obtain ⟨fn, ft, fl, fm, fz, fc⟩ := f
          simp only at c0 c1 c2 c3 c4 c5 hn1 hn2 hsz HTT HFT
          have s1 : ¬ 9223372036854775807 < T.size + 1 := by omega
          have s2 : ¬ 9223372036854775807 < T.size + 1 + fn.size := by omega
          have s3 : ¬ 9223372036854775807 < T.size + 1 + fn.size + 1 := by omega
          have s4 : ¬ 9223372036854775807 < T.size + 1 + fn.size + 1 + ft.size := by omega
          clear hd hb hok hc hfo hlt
          cases fm
          · rcases hsz with hsz | hsz | hsz
            · obtain ⟨rfl, rfl, rfl⟩ := hsz
              have hnew : Hid (((((T ++ ⟨#[32]⟩) ++ fn) ++ ⟨#[58]⟩) ++ ft) ++ fieldsT (fs.drop (i + 1)) = T1 ++ fieldsT fs) := Lib.hid (by
                rw [← hT.out, hst.out, HFT.out, HTT.out, if_neg (by simp), if_neg (by simp), if_neg (by simp)]
                simp only [ByteArray.append_assoc, ByteArray.append_empty]
                rfl)
              have hnsz : Hid (((((T ++ ⟨#[32]⟩) ++ fn) ++ ⟨#[58]⟩) ++ ft).size ≤ 20 + 25 * (i + 1)) := Lib.hid (by simp [ByteArray.size_append]; have e : ∀ l : Array UInt8, (⟨l⟩ : ByteArray).size = l.size := fun _ => rfl; simp only [e]; simp; omega)
              go_wp2_with fail
              go_roundw
              case rel => exact ⟨i + 1, _, by omega, rfl, by go_num, hnew, hnsz.out, HKR.out _, HAR.out _⟩
              case measure => simp [intOf]; omega
            · obtain ⟨rfl, rfl, z1, z2⟩ := hsz
              have hzn : ((fz.toNat : Nat) : Int) = fz := Int.toNat_of_nonneg z1
              have CZ : Hid (∀ w, Calls Tryz.prog 151 #[.int .i64 fz] w fun e w' => e = .returned (.string (decB fz)) ∧ Below w.heap.size w w') := Lib.hid fun w => by
                have := specDec fz.toNat (by omega) w
                rwa [hzn] at this
              have hdz := dec_size z1 z2
              have s5 : ¬ 9223372036854775807 < T.size + 1 + fn.size + 1 + ft.size + 1 := by omega
              have s6 : ¬ 9223372036854775807 < T.size + 1 + fn.size + 1 + ft.size + 1 + (decB fz).size := by omega
              have s7 : ¬ 9223372036854775807 < T.size + 1 + fn.size + 1 + ft.size + 1 + (decB fz).size + 1 := by omega
              clear hzn
              have hnew : Hid (((((((T ++ ⟨#[32]⟩) ++ fn) ++ ⟨#[58]⟩) ++ ft) ++ ⟨#[91]⟩ ++ decB fz) ++ ⟨#[93]⟩) ++ fieldsT (fs.drop (i + 1)) = T1 ++ fieldsT fs) := Lib.hid (by
                rw [← hT.out, hst.out, HFT.out, HTT.out, if_pos ⟨rfl, rfl⟩, if_neg (by simp), if_neg (by simp)]
                simp only [ByteArray.append_assoc, ByteArray.append_empty]
                rfl)
              have hnsz : Hid (((((((T ++ ⟨#[32]⟩) ++ fn) ++ ⟨#[58]⟩) ++ ft) ++ ⟨#[91]⟩ ++ decB fz) ++ ⟨#[93]⟩).size ≤ 20 + 25 * (i + 1)) := Lib.hid (by simp [ByteArray.size_append]; have e : ∀ l : Array UInt8, (⟨l⟩ : ByteArray).size = l.size := fun _ => rfl; simp only [e]; simp; omega)
              go_wp2_with (go_at_call 151; refine (CZ.out _).mono ?_; rintro e w3 ⟨rfl, hb3⟩; have hk3 := (hb3.block w.heap.size (by simp; omega)).trans (HKR.out _); have hn3 := (hb3.block wr.heap.size (by simp)).trans (HNR.out _); have HB3 := Lib.hid ((HAR.out _).trans (hb3.mono (HAR.out _).size)); have ⟨⟨q0, q1, q2, q3, q4, q5⟩, _⟩ := keep6 hn3; clear hb3)
              go_roundw
              case rel => exact ⟨i + 1, _, by omega, rfl, by go_num, hnew, hnsz.out, hk3, HB3.out⟩
              case measure => simp [intOf]; omega
            · obtain ⟨rfl, rfl, z1, z2⟩ := hsz
              have hzn : ((fc.toNat : Nat) : Int) = fc := Int.toNat_of_nonneg (by omega)
              have CZ : Hid (∀ w, Calls Tryz.prog 151 #[.int .i64 fc] w fun e w' => e = .returned (.string (decB fc)) ∧ Below w.heap.size w w') := Lib.hid fun w => by
                have := specDec fc.toNat (by omega) w
                rwa [hzn] at this
              have hdz := dec_size (show 0 ≤ fc by omega) z2
              have z3 : 0 < fc := by omega
              have z4 : (fc == 0) = false := by rw [beq_eq_false_iff_ne]; omega
              have z5 : decide (0 < fc) = true := decide_eq_true z3
              have hne := Lib.hid (show ¬ fc = 0 by omega)
              have s5 : ¬ 9223372036854775807 < T.size + 1 + fn.size + 1 + ft.size + 2 := by omega
              have s6 : ¬ 9223372036854775807 < T.size + 1 + fn.size + 1 + ft.size + 2 + (decB fc).size := by omega
              have s7 : ¬ 9223372036854775807 < T.size + 1 + fn.size + 1 + ft.size + 2 + (decB fc).size + 1 := by omega
              clear hzn
              have hnew : Hid (((((((T ++ ⟨#[32]⟩) ++ fn) ++ ⟨#[58]⟩) ++ ft) ++ ⟨#[91, 60]⟩ ++ decB fc) ++ ⟨#[93]⟩) ++ fieldsT (fs.drop (i + 1)) = T1 ++ fieldsT fs) := Lib.hid (by
                rw [← hT.out, hst.out, HFT.out, HTT.out, if_neg (fun h => hne.out h.2), if_pos ⟨rfl, z3⟩, if_neg (by simp)]
                simp only [ByteArray.append_assoc, ByteArray.append_empty, ByteArray.empty_append]
                rfl)
              have hnsz : Hid (((((((T ++ ⟨#[32]⟩) ++ fn) ++ ⟨#[58]⟩) ++ ft) ++ ⟨#[91, 60]⟩ ++ decB fc) ++ ⟨#[93]⟩).size ≤ 20 + 25 * (i + 1)) := Lib.hid (by simp [ByteArray.size_append]; have e : ∀ l : Array UInt8, (⟨l⟩ : ByteArray).size = l.size := fun _ => rfl; simp only [e]; simp; omega)
              go_wp2_with (go_at_call 151; refine (CZ.out _).mono ?_; rintro e w3 ⟨rfl, hb3⟩; have hk3 := (hb3.block w.heap.size (by simp; omega)).trans (HKR.out _); have hn3 := (hb3.block wr.heap.size (by simp)).trans (HNR.out _); have HB3 := Lib.hid ((HAR.out _).trans (hb3.mono (HAR.out _).size)); have ⟨⟨q0, q1, q2, q3, q4, q5⟩, _⟩ := keep6 hn3; clear hb3)
              go_roundw
              case rel => exact ⟨i + 1, _, by omega, rfl, by go_num, hnew, hnsz.out, hk3, HB3.out⟩
              case measure => simp [intOf]; omega
          · rcases hsz with hsz | hsz | hsz
            · obtain ⟨rfl, rfl, rfl⟩ := hsz
              have s8 : ¬ 9223372036854775807 < T.size + 1 + fn.size + 1 + ft.size + 1 := by omega
              have hnew : Hid ((((((T ++ ⟨#[32]⟩) ++ fn) ++ ⟨#[58]⟩) ++ ft) ++ ⟨#[33]⟩) ++ fieldsT (fs.drop (i + 1)) = T1 ++ fieldsT fs) := Lib.hid (by
                rw [← hT.out, hst.out, HFT.out, HTT.out, if_neg (by simp), if_neg (by simp), if_pos rfl]
                simp only [ByteArray.append_assoc, ByteArray.append_empty]
                rfl)
              have hnsz : Hid ((((((T ++ ⟨#[32]⟩) ++ fn) ++ ⟨#[58]⟩) ++ ft) ++ ⟨#[33]⟩).size ≤ 20 + 25 * (i + 1)) := Lib.hid (by simp [ByteArray.size_append]; have e : ∀ l : Array UInt8, (⟨l⟩ : ByteArray).size = l.size := fun _ => rfl; simp only [e]; simp; omega)
              go_wp2_with fail
              go_roundw
              case rel => exact ⟨i + 1, _, by omega, rfl, by go_num, hnew, hnsz.out, HKR.out _, HAR.out _⟩
              case measure => simp [intOf]; omega
            · obtain ⟨rfl, rfl, z1, z2⟩ := hsz
              have hzn : ((fz.toNat : Nat) : Int) = fz := Int.toNat_of_nonneg z1
              have CZ : Hid (∀ w, Calls Tryz.prog 151 #[.int .i64 fz] w fun e w' => e = .returned (.string (decB fz)) ∧ Below w.heap.size w w') := Lib.hid fun w => by
                have := specDec fz.toNat (by omega) w
                rwa [hzn] at this
              have hdz := dec_size z1 z2
              have s5 : ¬ 9223372036854775807 < T.size + 1 + fn.size + 1 + ft.size + 1 := by omega
              have s6 : ¬ 9223372036854775807 < T.size + 1 + fn.size + 1 + ft.size + 1 + (decB fz).size := by omega
              have s7 : ¬ 9223372036854775807 < T.size + 1 + fn.size + 1 + ft.size + 1 + (decB fz).size + 1 := by omega
              clear hzn
              have s8 : ¬ 9223372036854775807 < T.size + 1 + fn.size + 1 + ft.size + 1 + (decB fz).size + 1 + 1 := by omega
              have hnew : Hid ((((((((T ++ ⟨#[32]⟩) ++ fn) ++ ⟨#[58]⟩) ++ ft) ++ ⟨#[91]⟩ ++ decB fz) ++ ⟨#[93]⟩) ++ ⟨#[33]⟩) ++ fieldsT (fs.drop (i + 1)) = T1 ++ fieldsT fs) := Lib.hid (by
                rw [← hT.out, hst.out, HFT.out, HTT.out, if_pos ⟨rfl, rfl⟩, if_neg (by simp), if_pos rfl]
                simp only [ByteArray.append_assoc, ByteArray.empty_append]
                rfl)
              have hnsz : Hid ((((((((T ++ ⟨#[32]⟩) ++ fn) ++ ⟨#[58]⟩) ++ ft) ++ ⟨#[91]⟩ ++ decB fz) ++ ⟨#[93]⟩) ++ ⟨#[33]⟩).size ≤ 20 + 25 * (i + 1)) := Lib.hid (by simp [ByteArray.size_append]; have e : ∀ l : Array UInt8, (⟨l⟩ : ByteArray).size = l.size := fun _ => rfl; simp only [e]; simp; omega)
              go_wp2_with (go_at_call 151; refine (CZ.out _).mono ?_; rintro e w3 ⟨rfl, hb3⟩; have hk3 := (hb3.block w.heap.size (by simp; omega)).trans (HKR.out _); have hn3 := (hb3.block wr.heap.size (by simp)).trans (HNR.out _); have HB3 := Lib.hid ((HAR.out _).trans (hb3.mono (HAR.out _).size)); have ⟨⟨q0, q1, q2, q3, q4, q5⟩, _⟩ := keep6 hn3; clear hb3)
              go_roundw
              case rel => exact ⟨i + 1, _, by omega, rfl, by go_num, hnew, hnsz.out, hk3, HB3.out⟩
              case measure => simp [intOf]; omega
            · obtain ⟨rfl, rfl, z1, z2⟩ := hsz
              have hzn : ((fc.toNat : Nat) : Int) = fc := Int.toNat_of_nonneg (by omega)
              have CZ : Hid (∀ w, Calls Tryz.prog 151 #[.int .i64 fc] w fun e w' => e = .returned (.string (decB fc)) ∧ Below w.heap.size w w') := Lib.hid fun w => by
                have := specDec fc.toNat (by omega) w
                rwa [hzn] at this
              have hdz := dec_size (show 0 ≤ fc by omega) z2
              have z3 : 0 < fc := by omega
              have z4 : (fc == 0) = false := by rw [beq_eq_false_iff_ne]; omega
              have z5 : decide (0 < fc) = true := decide_eq_true z3
              have hne := Lib.hid (show ¬ fc = 0 by omega)
              have s5 : ¬ 9223372036854775807 < T.size + 1 + fn.size + 1 + ft.size + 2 := by omega
              have s6 : ¬ 9223372036854775807 < T.size + 1 + fn.size + 1 + ft.size + 2 + (decB fc).size := by omega
              have s7 : ¬ 9223372036854775807 < T.size + 1 + fn.size + 1 + ft.size + 2 + (decB fc).size + 1 := by omega
              clear hzn
              have s8 : ¬ 9223372036854775807 < T.size + 1 + fn.size + 1 + ft.size + 2 + (decB fc).size + 1 + 1 := by omega
              have hnew : Hid ((((((((T ++ ⟨#[32]⟩) ++ fn) ++ ⟨#[58]⟩) ++ ft) ++ ⟨#[91, 60]⟩ ++ decB fc) ++ ⟨#[93]⟩) ++ ⟨#[33]⟩) ++ fieldsT (fs.drop (i + 1)) = T1 ++ fieldsT fs) := Lib.hid (by
                rw [← hT.out, hst.out, HFT.out, HTT.out, if_neg (fun h => hne.out h.2), if_pos ⟨rfl, z3⟩, if_pos rfl]
                simp only [ByteArray.append_assoc, ByteArray.empty_append]
                rfl)
              have hnsz : Hid ((((((((T ++ ⟨#[32]⟩) ++ fn) ++ ⟨#[58]⟩) ++ ft) ++ ⟨#[91, 60]⟩ ++ decB fc) ++ ⟨#[93]⟩) ++ ⟨#[33]⟩).size ≤ 20 + 25 * (i + 1)) := Lib.hid (by simp [ByteArray.size_append]; have e : ∀ l : Array UInt8, (⟨l⟩ : ByteArray).size = l.size := fun _ => rfl; simp only [e]; simp; omega)
              go_wp2_with (go_at_call 151; refine (CZ.out _).mono ?_; rintro e w3 ⟨rfl, hb3⟩; have hk3 := (hb3.block w.heap.size (by simp; omega)).trans (HKR.out _); have hn3 := (hb3.block wr.heap.size (by simp)).trans (HNR.out _); have HB3 := Lib.hid ((HAR.out _).trans (hb3.mono (HAR.out _).size)); have ⟨⟨q0, q1, q2, q3, q4, q5⟩, _⟩ := keep6 hn3; clear hb3)
              go_roundw
              case rel => exact ⟨i + 1, _, by omega, rfl, by go_num, hnew, hnsz.out, hk3, HB3.out⟩
              case measure => simp [intOf]; omega
        · obtain rfl : i = fs.length := by omega
          have hT2 : Hid ((T ++ memsT ms) ++ cB [10] = LT) := Lib.hid (by rw [HT1.out, ← hT.out, List.drop_length]; simp [fieldsT])
          have hTs2 : T.size ≤ 220 := by omega
          clear hlt hb hT
          go_wp2_with fail
          go_loopw [3, 6] (fun v i wr => ∃ (i' : Nat) (U : ByteArray), i' ≤ ms.length ∧ v = .string U ∧ i = .int .i64 i' ∧ Hid (U ++ memsT (ms.drop i') = T ++ memsT ms) ∧ U.size ≤ 220 + 9 * i' ∧ wr.heap[w.heap.size]? = some (.cells #[.string nm, .int .i64 kd, .int .i64 by_, .slice a fs.length ca, .slice c ms.length cc] 48 (0, 0)) ∧ Below w.heap.size w wr) (fun _ i _ => ms.length - (intOf i).toNat)
          case atStart => exact ⟨0, T, by omega, rfl, rfl, Lib.hid (by rw [List.drop_zero]), by omega, hkr, HBR.out⟩
          case round =>
            obtain ⟨i, U, hi2, rfl, rfl, hU, hUs, hk4, hb4⟩ := hrel
            have HB4 := Lib.hid hb4
            clear hkr y0 y1 y2 y3 y4
            have ⟨⟨y0, y1, y2, y3, y4⟩, _⟩ := keep5 hk4
            by_cases hlt : i < ms.length
            · have hli : (i : Int) < (ms.length : Int) := by omega
              obtain ⟨m, mb, off, hd, rfl, hAb, hbb, hok, hc⟩ := (HM.out.below textLies (Nat.le_refl _) (hb4.mono hB)).at hlt
              rw [Nat.mul_one] at hc
              have hm8 := H8.out m (List.mem_iff_getElem?.2 ⟨i, hd⟩)
              have hnew : Hid (((U ++ ⟨#[32]⟩) ++ m) ++ memsT (ms.drop (i + 1)) = T ++ memsT ms) := Lib.hid (by
                rw [← hU.out, memsT_drop hd]
                simp only [ByteArray.append_assoc]
                rfl)
              have s1 : ¬ 9223372036854775807 < U.size + 1 := by omega
              have s2 : ¬ 9223372036854775807 < U.size + 1 + m.size := by omega
              have hnsz : Hid (((U ++ ⟨#[32]⟩) ++ m).size ≤ 220 + 9 * (i + 1)) := Lib.hid (by simp [ByteArray.size_append]; have e : ∀ l : Array UInt8, (⟨l⟩ : ByteArray).size = l.size := fun _ => rfl; simp only [e]; simp; omega)
              clear hd hb4 hok hlt
              go_wp2_with fail
              go_roundw
              case rel => exact ⟨i + 1, _, by omega, rfl, by go_num, hnew, hnsz.out, hk4, HB4.out⟩
              case measure => simp [intOf]; omega
            · obtain rfl : i = ms.length := by omega
              have hfin : Hid (U ++ ⟨#[10]⟩ = LT) := Lib.hid (by
                rw [← hT2.out, ← hU.out, List.drop_length]
                simp only [memsT, ByteArray.append_empty]
                rfl)
              have s1 : ¬ 9223372036854775807 < U.size + 1 := by omega
              clear hlt hb4
              go_wp2_with fail
              go_ret
              exact ⟨ret_s hfin.out, HB4.out⟩
    · have h1b : (kd == 1) = false := by rw [beq_eq_false_iff_ne]; exact h1
      rw [if_neg h1] at HT
      have HT1 : Hid (LT = ((T0 ++ fieldsT fs) ++ memsT ms) ++ cB [10]) := Lib.hid (by
        rw [HT.out]; simp only [ByteArray.append_empty])
      clear h1 h2
      go_wp2_with fail
      obtain ⟨T1, hT1⟩ : ∃ T, T0 = T := ⟨_, rfl⟩
      have hT1s : T1.size ≤ 20 := by rw [← hT1]; omega
      rw [hT1] at HT1 ⊢
      clear hT1 y0 y1 y2 y3 y4
      go_loopw [3, 4] (fun v i wr => ∃ (i' : Nat) (T : ByteArray), i' ≤ fs.length ∧ v = .string T ∧ i = .int .i64 i' ∧ Hid (T ++ fieldsT (fs.drop i') = T1 ++ fieldsT fs) ∧ T.size ≤ 20 + 25 * i' ∧ wr.heap[w.heap.size]? = some (.cells #[.string nm, .int .i64 kd, .int .i64 by_, .slice a fs.length ca, .slice c ms.length cc] 48 (0, 0)) ∧ Below w.heap.size w wr) (fun _ i _ => fs.length - (intOf i).toNat)
      case atStart => exact ⟨0, T1, by omega, rfl, rfl, Lib.hid (by rw [List.drop_zero]), by omega, hk1, HB1.out⟩
      case round =>
        obtain ⟨i, T, hi, rfl, rfl, hT, hTs, hkr, hb⟩ := hrel
        clear hk1
        have HBR := Lib.hid hb
        have ⟨⟨y0, y1, y2, y3, y4⟩, _⟩ := keep5 hkr
        by_cases hlt : i < fs.length
        · have hli : (i : Int) < (fs.length : Int) := by omega
          obtain ⟨f, fb, off, hd, rfl, hAb, hbb, hok, hc⟩ := (HF.out.below fieldLies (Nat.le_refl _) (hb.mono hB)).at hlt
          obtain ⟨c0, c1, c2, c3, c4, c5⟩ := row6 hc
          have hfo := H6.out f (List.mem_iff_getElem?.2 ⟨i, hd⟩)
          have hst := Lib.hid (fieldsT_drop hd)
          have hfs := field_size hfo
          have hn1 := (word_small hfo.word).2
          have hn2 := (type_small hfo.typ).2
          have hsz := sized_cases hfo.sized
          have hlr := lt_of_get hkr
          have HAR : Hid (∀ o, Below w.heap.size w (wr.alloc o)) := Lib.hid fun o => HBR.out.alloc HBR.out.size o
          have HKR : Hid (∀ o, (wr.alloc o).heap[w.heap.size]? = some (.cells #[.string nm, .int .i64 kd, .int .i64 by_, .slice (some ⟨fb, off, none⟩) fs.length ca, .slice c ms.length cc] 48 (0, 0))) := Lib.hid fun o => (Go.Deep.blk_alloc_lt _ _ _ hlr).trans hkr
          have HNR : Hid (∀ o, (wr.alloc o).heap[wr.heap.size]? = some o) := Lib.hid fun o => heap_alloc_new wr o
          have HFT := Lib.hid (show fieldT f = (((cB [32] ++ f.name) ++ cB [58]) ++ f.typ) ++ tailT f from rfl)
          have HTT := Lib.hid (show tailT f = ((if f.list = true ∧ f.cap = 0 then (cB [91] ++ decB f.size) ++ cB [93] else ByteArray.empty) ++ (if f.list = true ∧ 0 < f.cap then (cB [91, 60] ++ decB f.cap) ++ cB [93] else ByteArray.empty)) ++ (if f.must = true then cB [33] else ByteArray.empty) from rfl)
          generalize fieldT f = fT at *
          generalize tailT f = tT at *
          obtain ⟨fn, ft, fl, fm, fz, fc⟩ := f
          simp only at c0 c1 c2 c3 c4 c5 hn1 hn2 hsz HTT HFT
          have s1 : ¬ 9223372036854775807 < T.size + 1 := by omega
          have s2 : ¬ 9223372036854775807 < T.size + 1 + fn.size := by omega
          have s3 : ¬ 9223372036854775807 < T.size + 1 + fn.size + 1 := by omega
          have s4 : ¬ 9223372036854775807 < T.size + 1 + fn.size + 1 + ft.size := by omega
          clear hd hb hok hc hfo hlt
          cases fm
          · rcases hsz with hsz | hsz | hsz
            · obtain ⟨rfl, rfl, rfl⟩ := hsz
              have hnew : Hid (((((T ++ ⟨#[32]⟩) ++ fn) ++ ⟨#[58]⟩) ++ ft) ++ fieldsT (fs.drop (i + 1)) = T1 ++ fieldsT fs) := Lib.hid (by
                rw [← hT.out, hst.out, HFT.out, HTT.out, if_neg (by simp), if_neg (by simp), if_neg (by simp)]
                simp only [ByteArray.append_assoc, ByteArray.append_empty]
                rfl)
              have hnsz : Hid (((((T ++ ⟨#[32]⟩) ++ fn) ++ ⟨#[58]⟩) ++ ft).size ≤ 20 + 25 * (i + 1)) := Lib.hid (by simp [ByteArray.size_append]; have e : ∀ l : Array UInt8, (⟨l⟩ : ByteArray).size = l.size := fun _ => rfl; simp only [e]; simp; omega)
              go_wp2_with fail
              go_roundw
              case rel => exact ⟨i + 1, _, by omega, rfl, by go_num, hnew, hnsz.out, HKR.out _, HAR.out _⟩
              case measure => simp [intOf]; omega
            · obtain ⟨rfl, rfl, z1, z2⟩ := hsz
              have hzn : ((fz.toNat : Nat) : Int) = fz := Int.toNat_of_nonneg z1
              have CZ : Hid (∀ w, Calls Tryz.prog 151 #[.int .i64 fz] w fun e w' => e = .returned (.string (decB fz)) ∧ Below w.heap.size w w') := Lib.hid fun w => by
                have := specDec fz.toNat (by omega) w
                rwa [hzn] at this
              have hdz := dec_size z1 z2
              have s5 : ¬ 9223372036854775807 < T.size + 1 + fn.size + 1 + ft.size + 1 := by omega
              have s6 : ¬ 9223372036854775807 < T.size + 1 + fn.size + 1 + ft.size + 1 + (decB fz).size := by omega
              have s7 : ¬ 9223372036854775807 < T.size + 1 + fn.size + 1 + ft.size + 1 + (decB fz).size + 1 := by omega
              clear hzn
              have hnew : Hid (((((((T ++ ⟨#[32]⟩) ++ fn) ++ ⟨#[58]⟩) ++ ft) ++ ⟨#[91]⟩ ++ decB fz) ++ ⟨#[93]⟩) ++ fieldsT (fs.drop (i + 1)) = T1 ++ fieldsT fs) := Lib.hid (by
                rw [← hT.out, hst.out, HFT.out, HTT.out, if_pos ⟨rfl, rfl⟩, if_neg (by simp), if_neg (by simp)]
                simp only [ByteArray.append_assoc, ByteArray.append_empty]
                rfl)
              have hnsz : Hid (((((((T ++ ⟨#[32]⟩) ++ fn) ++ ⟨#[58]⟩) ++ ft) ++ ⟨#[91]⟩ ++ decB fz) ++ ⟨#[93]⟩).size ≤ 20 + 25 * (i + 1)) := Lib.hid (by simp [ByteArray.size_append]; have e : ∀ l : Array UInt8, (⟨l⟩ : ByteArray).size = l.size := fun _ => rfl; simp only [e]; simp; omega)
              go_wp2_with (go_at_call 151; refine (CZ.out _).mono ?_; rintro e w3 ⟨rfl, hb3⟩; have hk3 := (hb3.block w.heap.size (by simp; omega)).trans (HKR.out _); have hn3 := (hb3.block wr.heap.size (by simp)).trans (HNR.out _); have HB3 := Lib.hid ((HAR.out _).trans (hb3.mono (HAR.out _).size)); have ⟨⟨q0, q1, q2, q3, q4, q5⟩, _⟩ := keep6 hn3; clear hb3)
              go_roundw
              case rel => exact ⟨i + 1, _, by omega, rfl, by go_num, hnew, hnsz.out, hk3, HB3.out⟩
              case measure => simp [intOf]; omega
            · obtain ⟨rfl, rfl, z1, z2⟩ := hsz
              have hzn : ((fc.toNat : Nat) : Int) = fc := Int.toNat_of_nonneg (by omega)
              have CZ : Hid (∀ w, Calls Tryz.prog 151 #[.int .i64 fc] w fun e w' => e = .returned (.string (decB fc)) ∧ Below w.heap.size w w') := Lib.hid fun w => by
                have := specDec fc.toNat (by omega) w
                rwa [hzn] at this
              have hdz := dec_size (show 0 ≤ fc by omega) z2
              have z3 : 0 < fc := by omega
              have z4 : (fc == 0) = false := by rw [beq_eq_false_iff_ne]; omega
              have z5 : decide (0 < fc) = true := decide_eq_true z3
              have hne := Lib.hid (show ¬ fc = 0 by omega)
              have s5 : ¬ 9223372036854775807 < T.size + 1 + fn.size + 1 + ft.size + 2 := by omega
              have s6 : ¬ 9223372036854775807 < T.size + 1 + fn.size + 1 + ft.size + 2 + (decB fc).size := by omega
              have s7 : ¬ 9223372036854775807 < T.size + 1 + fn.size + 1 + ft.size + 2 + (decB fc).size + 1 := by omega
              clear hzn
              have hnew : Hid (((((((T ++ ⟨#[32]⟩) ++ fn) ++ ⟨#[58]⟩) ++ ft) ++ ⟨#[91, 60]⟩ ++ decB fc) ++ ⟨#[93]⟩) ++ fieldsT (fs.drop (i + 1)) = T1 ++ fieldsT fs) := Lib.hid (by
                rw [← hT.out, hst.out, HFT.out, HTT.out, if_neg (fun h => hne.out h.2), if_pos ⟨rfl, z3⟩, if_neg (by simp)]
                simp only [ByteArray.append_assoc, ByteArray.append_empty, ByteArray.empty_append]
                rfl)
              have hnsz : Hid (((((((T ++ ⟨#[32]⟩) ++ fn) ++ ⟨#[58]⟩) ++ ft) ++ ⟨#[91, 60]⟩ ++ decB fc) ++ ⟨#[93]⟩).size ≤ 20 + 25 * (i + 1)) := Lib.hid (by simp [ByteArray.size_append]; have e : ∀ l : Array UInt8, (⟨l⟩ : ByteArray).size = l.size := fun _ => rfl; simp only [e]; simp; omega)
              go_wp2_with (go_at_call 151; refine (CZ.out _).mono ?_; rintro e w3 ⟨rfl, hb3⟩; have hk3 := (hb3.block w.heap.size (by simp; omega)).trans (HKR.out _); have hn3 := (hb3.block wr.heap.size (by simp)).trans (HNR.out _); have HB3 := Lib.hid ((HAR.out _).trans (hb3.mono (HAR.out _).size)); have ⟨⟨q0, q1, q2, q3, q4, q5⟩, _⟩ := keep6 hn3; clear hb3)
              go_roundw
              case rel => exact ⟨i + 1, _, by omega, rfl, by go_num, hnew, hnsz.out, hk3, HB3.out⟩
              case measure => simp [intOf]; omega
          · rcases hsz with hsz | hsz | hsz
            · obtain ⟨rfl, rfl, rfl⟩ := hsz
              have s8 : ¬ 9223372036854775807 < T.size + 1 + fn.size + 1 + ft.size + 1 := by omega
              have hnew : Hid ((((((T ++ ⟨#[32]⟩) ++ fn) ++ ⟨#[58]⟩) ++ ft) ++ ⟨#[33]⟩) ++ fieldsT (fs.drop (i + 1)) = T1 ++ fieldsT fs) := Lib.hid (by
                rw [← hT.out, hst.out, HFT.out, HTT.out, if_neg (by simp), if_neg (by simp), if_pos rfl]
                simp only [ByteArray.append_assoc, ByteArray.append_empty]
                rfl)
              have hnsz : Hid ((((((T ++ ⟨#[32]⟩) ++ fn) ++ ⟨#[58]⟩) ++ ft) ++ ⟨#[33]⟩).size ≤ 20 + 25 * (i + 1)) := Lib.hid (by simp [ByteArray.size_append]; have e : ∀ l : Array UInt8, (⟨l⟩ : ByteArray).size = l.size := fun _ => rfl; simp only [e]; simp; omega)
              go_wp2_with fail
              go_roundw
              case rel => exact ⟨i + 1, _, by omega, rfl, by go_num, hnew, hnsz.out, HKR.out _, HAR.out _⟩
              case measure => simp [intOf]; omega
            · obtain ⟨rfl, rfl, z1, z2⟩ := hsz
              have hzn : ((fz.toNat : Nat) : Int) = fz := Int.toNat_of_nonneg z1
              have CZ : Hid (∀ w, Calls Tryz.prog 151 #[.int .i64 fz] w fun e w' => e = .returned (.string (decB fz)) ∧ Below w.heap.size w w') := Lib.hid fun w => by
                have := specDec fz.toNat (by omega) w
                rwa [hzn] at this
              have hdz := dec_size z1 z2
              have s5 : ¬ 9223372036854775807 < T.size + 1 + fn.size + 1 + ft.size + 1 := by omega
              have s6 : ¬ 9223372036854775807 < T.size + 1 + fn.size + 1 + ft.size + 1 + (decB fz).size := by omega
              have s7 : ¬ 9223372036854775807 < T.size + 1 + fn.size + 1 + ft.size + 1 + (decB fz).size + 1 := by omega
              clear hzn
              have s8 : ¬ 9223372036854775807 < T.size + 1 + fn.size + 1 + ft.size + 1 + (decB fz).size + 1 + 1 := by omega
              have hnew : Hid ((((((((T ++ ⟨#[32]⟩) ++ fn) ++ ⟨#[58]⟩) ++ ft) ++ ⟨#[91]⟩ ++ decB fz) ++ ⟨#[93]⟩) ++ ⟨#[33]⟩) ++ fieldsT (fs.drop (i + 1)) = T1 ++ fieldsT fs) := Lib.hid (by
                rw [← hT.out, hst.out, HFT.out, HTT.out, if_pos ⟨rfl, rfl⟩, if_neg (by simp), if_pos rfl]
                simp only [ByteArray.append_assoc, ByteArray.empty_append]
                rfl)
              have hnsz : Hid ((((((((T ++ ⟨#[32]⟩) ++ fn) ++ ⟨#[58]⟩) ++ ft) ++ ⟨#[91]⟩ ++ decB fz) ++ ⟨#[93]⟩) ++ ⟨#[33]⟩).size ≤ 20 + 25 * (i + 1)) := Lib.hid (by simp [ByteArray.size_append]; have e : ∀ l : Array UInt8, (⟨l⟩ : ByteArray).size = l.size := fun _ => rfl; simp only [e]; simp; omega)
              go_wp2_with (go_at_call 151; refine (CZ.out _).mono ?_; rintro e w3 ⟨rfl, hb3⟩; have hk3 := (hb3.block w.heap.size (by simp; omega)).trans (HKR.out _); have hn3 := (hb3.block wr.heap.size (by simp)).trans (HNR.out _); have HB3 := Lib.hid ((HAR.out _).trans (hb3.mono (HAR.out _).size)); have ⟨⟨q0, q1, q2, q3, q4, q5⟩, _⟩ := keep6 hn3; clear hb3)
              go_roundw
              case rel => exact ⟨i + 1, _, by omega, rfl, by go_num, hnew, hnsz.out, hk3, HB3.out⟩
              case measure => simp [intOf]; omega
            · obtain ⟨rfl, rfl, z1, z2⟩ := hsz
              have hzn : ((fc.toNat : Nat) : Int) = fc := Int.toNat_of_nonneg (by omega)
              have CZ : Hid (∀ w, Calls Tryz.prog 151 #[.int .i64 fc] w fun e w' => e = .returned (.string (decB fc)) ∧ Below w.heap.size w w') := Lib.hid fun w => by
                have := specDec fc.toNat (by omega) w
                rwa [hzn] at this
              have hdz := dec_size (show 0 ≤ fc by omega) z2
              have z3 : 0 < fc := by omega
              have z4 : (fc == 0) = false := by rw [beq_eq_false_iff_ne]; omega
              have z5 : decide (0 < fc) = true := decide_eq_true z3
              have hne := Lib.hid (show ¬ fc = 0 by omega)
              have s5 : ¬ 9223372036854775807 < T.size + 1 + fn.size + 1 + ft.size + 2 := by omega
              have s6 : ¬ 9223372036854775807 < T.size + 1 + fn.size + 1 + ft.size + 2 + (decB fc).size := by omega
              have s7 : ¬ 9223372036854775807 < T.size + 1 + fn.size + 1 + ft.size + 2 + (decB fc).size + 1 := by omega
              clear hzn
              have s8 : ¬ 9223372036854775807 < T.size + 1 + fn.size + 1 + ft.size + 2 + (decB fc).size + 1 + 1 := by omega
              have hnew : Hid ((((((((T ++ ⟨#[32]⟩) ++ fn) ++ ⟨#[58]⟩) ++ ft) ++ ⟨#[91, 60]⟩ ++ decB fc) ++ ⟨#[93]⟩) ++ ⟨#[33]⟩) ++ fieldsT (fs.drop (i + 1)) = T1 ++ fieldsT fs) := Lib.hid (by
                rw [← hT.out, hst.out, HFT.out, HTT.out, if_neg (fun h => hne.out h.2), if_pos ⟨rfl, z3⟩, if_pos rfl]
                simp only [ByteArray.append_assoc, ByteArray.empty_append]
                rfl)
              have hnsz : Hid ((((((((T ++ ⟨#[32]⟩) ++ fn) ++ ⟨#[58]⟩) ++ ft) ++ ⟨#[91, 60]⟩ ++ decB fc) ++ ⟨#[93]⟩) ++ ⟨#[33]⟩).size ≤ 20 + 25 * (i + 1)) := Lib.hid (by simp [ByteArray.size_append]; have e : ∀ l : Array UInt8, (⟨l⟩ : ByteArray).size = l.size := fun _ => rfl; simp only [e]; simp; omega)
              go_wp2_with (go_at_call 151; refine (CZ.out _).mono ?_; rintro e w3 ⟨rfl, hb3⟩; have hk3 := (hb3.block w.heap.size (by simp; omega)).trans (HKR.out _); have hn3 := (hb3.block wr.heap.size (by simp)).trans (HNR.out _); have HB3 := Lib.hid ((HAR.out _).trans (hb3.mono (HAR.out _).size)); have ⟨⟨q0, q1, q2, q3, q4, q5⟩, _⟩ := keep6 hn3; clear hb3)
              go_roundw
              case rel => exact ⟨i + 1, _, by omega, rfl, by go_num, hnew, hnsz.out, hk3, HB3.out⟩
              case measure => simp [intOf]; omega
        · obtain rfl : i = fs.length := by omega
          have hT2 : Hid ((T ++ memsT ms) ++ cB [10] = LT) := Lib.hid (by rw [HT1.out, ← hT.out, List.drop_length]; simp [fieldsT])
          have hTs2 : T.size ≤ 220 := by omega
          clear hlt hb hT
          go_wp2_with fail
          go_loopw [3, 6] (fun v i wr => ∃ (i' : Nat) (U : ByteArray), i' ≤ ms.length ∧ v = .string U ∧ i = .int .i64 i' ∧ Hid (U ++ memsT (ms.drop i') = T ++ memsT ms) ∧ U.size ≤ 220 + 9 * i' ∧ wr.heap[w.heap.size]? = some (.cells #[.string nm, .int .i64 kd, .int .i64 by_, .slice a fs.length ca, .slice c ms.length cc] 48 (0, 0)) ∧ Below w.heap.size w wr) (fun _ i _ => ms.length - (intOf i).toNat)
          case atStart => exact ⟨0, T, by omega, rfl, rfl, Lib.hid (by rw [List.drop_zero]), by omega, hkr, HBR.out⟩
          case round =>
            obtain ⟨i, U, hi2, rfl, rfl, hU, hUs, hk4, hb4⟩ := hrel
            have HB4 := Lib.hid hb4
            clear hkr y0 y1 y2 y3 y4
            have ⟨⟨y0, y1, y2, y3, y4⟩, _⟩ := keep5 hk4
            by_cases hlt : i < ms.length
            · have hli : (i : Int) < (ms.length : Int) := by omega
              obtain ⟨m, mb, off, hd, rfl, hAb, hbb, hok, hc⟩ := (HM.out.below textLies (Nat.le_refl _) (hb4.mono hB)).at hlt
              rw [Nat.mul_one] at hc
              have hm8 := H8.out m (List.mem_iff_getElem?.2 ⟨i, hd⟩)
              have hnew : Hid (((U ++ ⟨#[32]⟩) ++ m) ++ memsT (ms.drop (i + 1)) = T ++ memsT ms) := Lib.hid (by
                rw [← hU.out, memsT_drop hd]
                simp only [ByteArray.append_assoc]
                rfl)
              have s1 : ¬ 9223372036854775807 < U.size + 1 := by omega
              have s2 : ¬ 9223372036854775807 < U.size + 1 + m.size := by omega
              have hnsz : Hid (((U ++ ⟨#[32]⟩) ++ m).size ≤ 220 + 9 * (i + 1)) := Lib.hid (by simp [ByteArray.size_append]; have e : ∀ l : Array UInt8, (⟨l⟩ : ByteArray).size = l.size := fun _ => rfl; simp only [e]; simp; omega)
              clear hd hb4 hok hlt
              go_wp2_with fail
              go_roundw
              case rel => exact ⟨i + 1, _, by omega, rfl, by go_num, hnew, hnsz.out, hk4, HB4.out⟩
              case measure => simp [intOf]; omega
            · obtain rfl : i = ms.length := by omega
              have hfin : Hid (U ++ ⟨#[10]⟩ = LT) := Lib.hid (by
                rw [← hT2.out, ← hU.out, List.drop_length]
                simp only [memsT, ByteArray.append_empty]
                rfl)
              have s1 : ¬ 9223372036854775807 < U.size + 1 := by omega
              clear hlt hb4
              go_wp2_with fail
              go_ret
              exact ⟨ret_s hfin.out, HB4.out⟩
end Go.Proofs.YtceabbbmgfeofaaGreatDoor.Rw
