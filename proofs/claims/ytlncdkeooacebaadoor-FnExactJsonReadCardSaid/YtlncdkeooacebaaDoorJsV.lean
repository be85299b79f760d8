/-
  Contract: the model's reader of nodes: quoted; of what was there its own place alone is changed. Conditions: in memory, a text of at most 8000 bytes.
-/
import Derived.Test.YtlncdkeooacebaaDoorRows
import Derived.Test.YtlncdkeooacebaaDoorJsU
import Derived.Deep.LoopGhost
namespace Go.Proofs.YtlncdkeooacebaaDoor.Rw
open Go.RowKit Words
set_option linter.unusedVariables false
set_option linter.unusedSimpArgs false
set_option maxRecDepth 100000

theorem span_at : ∀ (l : Bs) (j : Nat), (∀ i (h : i < j) (hl : i < l.length), l[i] ≠ 34) → j ≤ l.length → (j = l.length ∨ ∃ h : j < l.length, l[j] = 34) → l.takeWhile (· != 34) = l.take j ∧ l.dropWhile (· != 34) = l.drop j
  | [], j, _, hj, _ => by
    obtain rfl : j = 0 := by simpa using hj
    simp
  | c :: l, 0, _, _, h => by
    rcases h with h | ⟨_, h⟩
    · simp at h
    · simp only [List.getElem_cons_zero] at h; subst h; simp
  | c :: l, j + 1, ha, hj, h => by
    have hc : c ≠ 34 := ha 0 (by omega) (by simp)
    have hcb : (c != 34) = true := by rw [bne_iff_ne]; exact hc
    have ih := span_at l j (fun i h1 h2 => by have := ha (i + 1) (by omega) (by simpa using h2); simpa using this) (by simpa using hj) (by
      rcases h with h | ⟨h1, h2⟩
      · left; simpa using h
      · right; exact ⟨by simpa using h1, by simpa using h2⟩)
    simp [List.takeWhile_cons, List.dropWhile_cons, hcb, ih.1, ih.2]
theorem RdS.cells {w : World} {p : Nat} {t : ByteArray} {k : Nat} (hh : w.heap[p]? = some (.cells #[.string t, .int .i64 k] 90 (0, 0))) : (w.cell? ⟨p, 0, none⟩ = some (.string t) ∧ w.cell? ⟨p, 1, none⟩ = some (.int .i64 k)) ∧ w.frozen? ⟨p, 0, none⟩ = false ∧ w.frozen? ⟨p, 1, none⟩ = false := by simp [World.cell?, World.frozen?, hh]
theorem byte_ne {t : ByteArray} {k : Nat} (hk : k < t.size) (h : (bl t)[k]'hk ≠ 34) : ((t[k].toNat : Int) == 34) = false := by
  rw [beq_eq_false_iff_ne]; intro e
  have e2 : t[k].toNat = 34 := by omega
  exact h (UInt8.toNat_inj.1 (by rw [show (bl t)[k]'hk = t[k] from rfl, e2]; rfl))
theorem byte_eq {t : ByteArray} {k : Nat} (hk : k < t.size) (h : (bl t)[k]'hk = 34) : ((t[k].toNat : Int) == 34) = true := by
  rw [beq_iff_eq]
  have e : t[k] = (34 : UInt8) := h
  rw [e]; rfl
set_option maxHeartbeats 1000000 in
theorem specQuoted (w : World) (p : Nat) (t : ByteArray) (s : Bs) (h : RdS w p t s) (ht : t.size ≤ 8000) :
    Calls Tryd.prog 77 #[.pointer (some ⟨p, 0, none⟩)] w fun e w' => e = .returned (.tuple #[.string (tB (quoQ s).1), .bool (quoQ s).2.1]) ∧ RdS w' p t (quoQ s).2.2 ∧ Onl p w w' := by
  have HH1 := Lib.hid (specHas w p t s ⟨#[34]⟩ h ht (by decide))
  rw [show bl ⟨#[34]⟩ = [34] from rfl] at HH1
  cases htk : tookQ [34] s with
  | none =>
    have hf : Hid (quoQ s = ([], false, s)) := Lib.hid (by unfold quoQ; rw [htk])
    rw [htk] at HH1
    simp only [Option.isSome_none, Option.getD_none] at HH1
    clear htk h
    go_enter Tryd.func77, Tryd.ntmps77
    go_wp2_with (go_at_call 76; refine HH1.out.mono ?_)
    rintro e w1 ⟨rfl, h1, h2⟩
    have H1 := Lib.hid h1
    have H2 := Lib.hid h2
    clear h1 h2
    go_wp2_with fail
    rw [hf.out]
    exact bodyPost_ret (v := .tuple #[.string ⟨#[]⟩, .bool false]) (by simp [results, Tryd.results77, go_sem]) rfl ⟨rfl, H1.out, H2.out⟩
  | some r =>
    rw [htk] at HH1
    simp only [Option.isSome_some, Option.getD_some] at HH1
    have HTK := Lib.hid htk
    clear htk h
    go_enter Tryd.func77, Tryd.ntmps77
    go_wp2_with (go_at_call 76; refine HH1.out.mono ?_)
    rintro e w1 ⟨rfl, ⟨k, hk, hr, hh1⟩, h2⟩
    have HO := Lib.hid h2
    have HR := Lib.hid hr
    have HHP := Lib.hid hh1
    have ⟨⟨c0, c1⟩, f0, f1⟩ := RdS.cells hh1
    have hki : (k : Int) ≤ (t.size : Int) := by omega
    clear h2 hr hh1
    go_wp2_with fail
    go_loopg [] (t.size - k) (fun g wr => ∃ (j : Nat), k ≤ j ∧ j ≤ t.size ∧ g = t.size - j ∧ Hid (wr.heap[p]? = some (.cells #[.string t, .int .i64 j] 90 (0, 0))) ∧ Hid (∀ i (h1 : k ≤ i) (h2 : i < j) (h : i < t.size), (bl t)[i]'h ≠ 34) ∧ Hid (Onl p w wr))
    case atStart => exact ⟨k, by omega, hk, rfl, HHP, Lib.hid (by omega), HO⟩
    case round =>
      obtain ⟨j, hkj, hj, hg, HJ, HA, HOJ⟩ := hrel
      have ⟨⟨d0, d1⟩, g0, g1⟩ := RdS.cells HJ.out
      clear c0 c1 f0 f1
      have hji : (j : Int) ≤ (t.size : Int) := by omega
      have hkj2 : (k : Int) ≤ (j : Int) := by omega
      have HFIN : Hid ((j = t.size ∨ ∃ h : j < t.size, (bl t)[j]'h = 34) → r.takeWhile (· != 34) = r.take (j - k) ∧ r.dropWhile (· != 34) = (bl t).drop j) := Lib.hid fun hor => by
        have := span_at r (j - k) (fun i h1 h2 => by
          rw [HR.out] at h2
          rw [List.length_drop, bl_len] at h2
          have := HA.out (k + i) (by omega) (by omega) (by omega)
          simp only [HR.out, List.getElem_drop]; exact this) (by rw [HR.out, List.length_drop, bl_len]; omega) (by
          rcases hor with e | ⟨h1, h2⟩
          · left; rw [HR.out, List.length_drop, bl_len]; omega
          · right
            refine ⟨by rw [HR.out, List.length_drop, bl_len]; omega, ?_⟩
            simp only [HR.out, List.getElem_drop]
            have e : k + (j - k) = j := by omega
            simp only [e]; exact h2)
        refine ⟨this.1, ?_⟩
        rw [this.2, HR.out, List.drop_drop, show k + (j - k) = j by omega]
      have HTX : Hid ((t.extract k j) = tB (r.take (j - k))) := Lib.hid (by
        apply ByteArray.ext
        apply Array.toList_inj.1
        rw [Lib.extract_data, HR.out]; rfl)
      have HQO : Hid ((r.takeWhile (· != 34) = r.take (j - k) ∧ r.dropWhile (· != 34) = (bl t).drop j) → quoQ s = (r.take (j - k), (tookQ (bl ⟨#[34]⟩) ((bl t).drop j)).isSome, (tookQ (bl ⟨#[34]⟩) ((bl t).drop j)).getD ((bl t).drop j))) := Lib.hid fun h => by
        unfold quoQ
        rw [HTK.out]
        simp only [h.1, h.2, show bl ⟨#[34]⟩ = [34] from rfl]
        cases tookQ [34] ((bl t).drop j) <;> rfl
      have CH : Hid (∀ n, Calls Tryd.prog 76 #[.pointer (some ⟨p, 0, none⟩), .string ⟨#[34]⟩] (wr.drewN n) fun e w' => e = .returned (.bool (tookQ (bl ⟨#[34]⟩) ((bl t).drop j)).isSome) ∧ RdS w' p t ((tookQ (bl ⟨#[34]⟩) ((bl t).drop j)).getD ((bl t).drop j)) ∧ Onl p (wr.drewN n) w') := Lib.hid fun n => specHas (wr.drewN n) p t ((bl t).drop j) ⟨#[34]⟩ ⟨j, hj, rfl, HJ.out⟩ ht (by decide)
      by_cases hlt : j < t.size
      · have hli : (j : Int) < (t.size : Int) := by omega
        by_cases hc : (bl t)[j]'hlt = 34
        · have hb := byte_eq hlt hc
          have HQ := HQO.out (HFIN.out (.inr ⟨hlt, hc⟩))
          clear hc
          go_wp2_with fail
          go_quiet (fail)
          go_wp2_with fail
          go_quiet (fail)
          go_wp2_with fail
          refine (CH.out _).mono ?_
          rintro e w2 ⟨rfl, hs2, ho2⟩
          have HS2 := Lib.hid hs2
          have HO3 := Lib.hid ((HOJ.out.drewN _).trans ho2)
          clear hs2 ho2
          generalize (tookQ (bl ⟨#[34]⟩) ((bl t).drop j)).isSome = z at *
          go_wp2_with fail
          rw [HQ]
          exact bodyPost_ret (v := .tuple #[.string (t.extract k j), .bool z]) (by simp [results, Tryd.results77, go_sem]) rfl ⟨by rw [HTX.out], HS2.out, HO3.out⟩
        · have hb := byte_ne hlt hc
          have HA2 : Hid (∀ i (h1 : k ≤ i) (h2 : i < j + 1) (h : i < t.size), (bl t)[i]'h ≠ 34) := Lib.hid fun i h1 h2 h => by
            by_cases e : i = j
            · subst e; exact hc
            · exact HA.out i h1 (by omega) h
          have HJ2 : Hid (∀ n v, v = (j : Int) + 1 → ((wr.drewN n).setCell ⟨p, 1, none⟩ (.int .i64 v)).heap[p]? = some (.cells #[.string t, .int .i64 ((j + 1 : Nat) : Int)] 90 (0, 0))) := Lib.hid fun n v hv => by
            have := heap_setCell_same (wr.drewN n) p 1 _ _ (.int .i64 v) HJ.out
            rw [this, hv]; simp
          clear hc
          go_wp2_with fail
          go_quiet (fail)
          go_wp2_with fail
          go_roundg (t.size - (j + 1))
          case rel => exact ⟨j + 1, by omega, by omega, rfl, Lib.hid (HJ2.out _ _ rfl), HA2, Lib.hid ((HOJ.out.drewN _).set _)⟩
          case measure => omega
      · have hje : j = t.size := by omega
        have HQ := HQO.out (HFIN.out (.inl hje))
        have HJI := Lib.hid hji
        have HNL : Hid ((t.size : Int) ≤ (j : Int)) := Lib.hid (by omega)
        have hcd : decide (j < t.size) = false := decide_eq_false (by omega)
        clear hlt hje hji hg hkj hj
        have hnl : (t.size : Int) ≤ (j : Int) := HNL.out
        go_wp2_with fail
        go_quiet (fail)
        have hji := HJI.out
        go_wp2_with fail
        go_quiet (fail)
        go_wp2_with fail
        refine (CH.out _).mono ?_
        rintro e w2 ⟨rfl, hs2, ho2⟩
        have HS2 := Lib.hid hs2
        have HO3 := Lib.hid ((HOJ.out.drewN _).trans ho2)
        clear hs2 ho2
        generalize (tookQ (bl ⟨#[34]⟩) ((bl t).drop j)).isSome = z at *
        go_wp2_with fail
        rw [HQ]
        exact bodyPost_ret (v := .tuple #[.string (t.extract k j), .bool z]) (by simp [results, Tryd.results77, go_sem]) rfl ⟨by rw [HTX.out], HS2.out, HO3.out⟩
end Go.Proofs.YtlncdkeooacebaaDoor.Rw
