/-
  What the program's plain reader of nodes reads is written so; of a right node's text both plain readers read that node; no program. Conditions: as each theorem says.
-/
import Derived.Test.YtlncdkeooacebaaDoorRows
import Derived.Test.YtlncdkeooacebaaDoorJsQ
namespace Go.Proofs.YtlncdkeooacebaaDoor.Rw
open Go.RowKit Words
set_option linter.unusedVariables false
set_option linter.unusedSimpArgs false
set_option maxRecDepth 100000

theorem key_sound {s r : Bs} {k : ByteArray} (h : keyQ s = some (k, r)) : s = keyB true k ++ r := by
  unfold keyQ at h
  rw [Option.bind_eq_some_iff] at h
  obtain ⟨q, h1, h2⟩ := h
  rw [Option.map_eq_some_iff] at h2
  obtain ⟨⟨a, b⟩, h3, h4⟩ := h2
  simp only [Prod.mk.injEq] at h4
  obtain ⟨rfl, rfl⟩ := h4
  rw [took_some h1, cut_some h3]
  simp [keyB, bl_tB]
theorem getD_at {α : Type} {l m : List α} {i : Nat} {d : α} (h : l.length = i) (x : α) : (l ++ x :: m).getD i d = x := by
  subst h; simp [List.getD_eq_getElem?_getD]
theorem rdL_sound {R : Bs → Option (NodeP × Bs)} {n : Nat} {kd : Int} {e : UInt8} (hR : ∀ s x r, R s = some (x, r) → s = jsB n x ++ r ∧ Fits n x) :
    ∀ g ks ns s x r, rdL R kd e g ks ns s = some (x, r) → (kd = 4 → ks.length = ns.length) →
      ∃ ks2 ns2, x = ⟨kd, tB [], ks ++ ks2, ns ++ ns2⟩ ∧ ns2 ≠ [] ∧ (kd = 4 → ks2.length = ns2.length) ∧ (kd ≠ 4 → ks2 = []) ∧ (∀ k ∈ ns2, Fits n k) ∧ s = tlB (jsB n) (decide (kd = 4)) (ks ++ ks2) (ns ++ ns2) ns2.length ns.length ++ (e :: r)
  | 0, _, _, _, _, _, h, _ => by cases h
  | g + 1, ks, ns, s, x, r, h, hl => by
    unfold rdL at h
    split at h
    · cases h
    · rename_i k s2 hk
      split at h
      · cases h
      · rename_i y s3 hy
        obtain ⟨e1, f1⟩ := hR _ _ _ hy
        have hs : s = keyB (decide (kd = 4)) k ++ s2 := by
          split at hk
          · rename_i g4; rw [key_sound hk]; simp [g4]
          · rename_i g4
            simp only [Option.some.injEq, Prod.mk.injEq] at hk
            simp [keyB, g4, hk.2]
        split at h
        · rename_i q hq
          simp only [Option.some.injEq, Prod.mk.injEq] at h
          obtain ⟨rfl, rfl⟩ := h
          refine ⟨if kd = 4 then [k] else [], [y], ?_, by simp, fun g4 => by simp [g4], fun g4 => by simp [g4], by simpa using f1, ?_⟩
          · by_cases g4 : kd = 4 <;> simp [g4]
          · rw [hs, e1, took_some hq]
            by_cases g4 : kd = 4
            · simp only [List.length_singleton, tlB, if_pos g4]
              rw [getD_at (hl g4) k, getD_at rfl y]; simp
            · simp only [List.length_singleton, tlB]
              rw [getD_at rfl y]; simp [keyB, g4]
        · rename_i hq
          split at h
          · rename_i q hq2
            obtain ⟨ks2, ns2, rfl, h2, h3, h4, h5, h6⟩ := rdL_sound hR g _ _ _ _ _ h (fun g4 => by simp [g4, hl g4])
            refine ⟨if kd = 4 then k :: ks2 else ks2, y :: ns2, ?_, by simp, fun g4 => by simp [g4, h3 g4], fun g4 => by simp [g4, h4 g4], ?_, ?_⟩
            · by_cases g4 : kd = 4 <;> simp [g4]
            · intro z hz
              rcases List.mem_cons.1 hz with rfl | hz
              · exact f1
              · exact h5 z hz
            · have hj : ns2.length ≠ 0 := fun e => h2 (List.eq_nil_of_length_eq_zero e)
              rw [hs, e1, took_some hq2, h6]
              by_cases g4 : kd = 4
              · simp only [List.length_cons, tlB, if_pos g4, if_neg hj]
                rw [getD_at (hl g4) k, getD_at rfl y]
                simp [List.append_assoc]
              · simp only [List.length_cons, tlB, if_neg g4, if_neg hj]
                rw [getD_at rfl y]
                simp [keyB, g4, List.append_assoc]
          · cases h
theorem rdK_sound {R : Bs → Option (NodeP × Bs)} {n f : Nat} {kd : Int} {e : UInt8} (hR : ∀ s x r, R s = some (x, r) → s = jsB n x ++ r ∧ Fits n x) {s : Bs} {x : NodeP} {r : Bs} (h : rdK R f kd e s = some (x, r)) :
    x.kind = kd ∧ s = itB (jsB n) (decide (kd = 4)) x.keys x.kids x.kids.length ++ (e :: r) ∧ Fits (n + 1) x := by
  unfold rdK at h
  split at h
  · rename_i q hq
    simp only [Option.some.injEq, Prod.mk.injEq] at h
    obtain ⟨rfl, rfl⟩ := h
    exact ⟨rfl, by rw [took_some hq]; rfl, fun k hk => by cases hk⟩
  · obtain ⟨ks2, ns2, rfl, h2, h3, h4, h5, h6⟩ := rdL_sound hR _ _ _ _ _ _ h (fun _ => rfl)
    refine ⟨rfl, ?_, fun k hk => h5 k (by simpa using hk)⟩
    rw [h6]
    have hj : ([] ++ ns2 : List NodeP).length ≠ 0 := fun e => h2 (List.eq_nil_of_length_eq_zero (by simpa using e))
    simp only [it_all hj]
    simp
theorem rdN_sound : ∀ f s x r, rdN f s = some (x, r) → s = jsB f x ++ r ∧ Fits f x
  | 0, _, _, _, h => by cases h
  | f + 1, s, x, r, h => by
    have IH := rdN_sound f
    unfold rdN at h
    split at h
    · rename_i q hq
      simp only [Option.some.injEq, Prod.mk.injEq] at h
      obtain ⟨rfl, rfl⟩ := h
      exact ⟨took_some hq, fun k hk => by cases hk⟩
    · split at h
      · rename_i q hq
        rw [Option.map_eq_some_iff] at h
        obtain ⟨⟨a, b⟩, h3, h4⟩ := h
        simp only [Prod.mk.injEq] at h4
        obtain ⟨rfl, rfl⟩ := h4
        refine ⟨?_, fun k hk => by cases hk⟩
        rw [took_some hq, cut_some h3]; simp [jsB, bl_tB]
      · split at h
        · rename_i q hq
          obtain ⟨h1, h2, h3⟩ := rdK_sound IH h
          refine ⟨?_, h3⟩
          rw [took_some hq, h2]; simp [jsB, h1]
        · split at h
          · rename_i q hq
            obtain ⟨h1, h2, h3⟩ := rdK_sound IH h
            refine ⟨?_, h3⟩
            rw [took_some hq, h2]; simp [jsB, h1]
          · cases h

/-! ### What is written is read back -/
theorem ix_sep {c : UInt8} {p b : Bs} : ∀ {a : Bs}, c ∉ a → Lib.index (a ++ (c :: p ++ b)) (c :: p) = a.length
  | [], _ => by
    have g : (c :: p).isPrefixOf (c :: (p ++ b)) = true := List.isPrefixOf_iff_prefix.2 ⟨b, by simp⟩
    simp only [List.nil_append, List.cons_append, Lib.index, g, if_true]; rfl
  | x :: a, h => by
    have hx : c ≠ x := fun e => h (by simp [e])
    have ih := ix_sep (p := p) (b := b) (a := a) (fun e => h (List.mem_cons_of_mem _ e))
    have hb : (c == x) = false := by rw [beq_eq_false_iff_ne]; exact hx
    rw [List.cons_append, Lib.index, if_neg (by simp [List.isPrefixOf, hb]), ih]
    rw [if_neg (by rw [beq_iff_eq]; omega), List.length_cons]; omega
theorem cut_app {c : UInt8} {p a b : Bs} (h : c ∉ a) : cutQ (c :: p) (a ++ (c :: p ++ b)) = some (a, b) := by
  have hc : Lib.cut (a ++ (c :: p ++ b)) (c :: p) = (a, b, true) := by
    unfold Lib.cut
    rw [ix_sep h, if_pos (by omega)]
    simp
  unfold cutQ
  rw [hc]; rfl
theorem key_app {k : ByteArray} {r : Bs} (h : (34 : UInt8) ∉ bl k) : keyQ (keyB true k ++ r) = some (k, r) := by
  have e : keyB true k ++ r = [34] ++ (bl k ++ ([34, 58] ++ r)) := by simp [keyB]
  unfold keyQ
  rw [e, took_app]
  show ((cutQ [34, 58] (bl k ++ ([34, 58] ++ r))).map _) = _
  rw [cut_app h]
  simp [tB_bl]
theorem plain_no34 {t : ByteArray} (h : plainB t = true) : (34 : UInt8) ∉ bl t := by
  by_cases c : PlainOk t
  · intro hm
    obtain ⟨i, hi, e⟩ := List.getElem_of_mem hm
    have hi2 : i < t.size := hi
    have e2 : t[i] = (34 : UInt8) := e
    have := (c.each i hi2).2.2.1
    rw [← bt_at hi2] at this
    exact this (by rw [e2]; rfl)
  · rw [plainB_no c] at h; cases h
theorem word_no34 {t : ByteArray} (h : wordB t = true) : (34 : UInt8) ∉ bl t := by
  unfold wordB at h
  have h1 : ofB t 97 122 = true := by cases e : ofB t 97 122 <;> simp [e] at h ⊢
  by_cases c : OfOk t 97 122
  · intro hm
    obtain ⟨i, hi, e⟩ := List.getElem_of_mem hm
    have hi2 : i < t.size := hi
    have e2 : t[i] = (34 : UInt8) := e
    have := (c.each i hi2).1
    rw [← bt_at hi2, e2] at this
    exact absurd this (by decide)
  · rw [ofB_no c] at h1; cases h1
theorem rdL_app {R : Bs → Option (NodeP × Bs)} {n : Nat} {kd : Int} {e : UInt8} {ks : List ByteArray} {ns : List NodeP} (he : e ≠ 44) (hR : ∀ k ∈ ns, ∀ r, R (jsB n k ++ r) = some (k, r)) (hk4 : kd = 4 → ks.length = ns.length) (hk3 : kd ≠ 4 → ks = []) (hno : ∀ k ∈ ks, (34 : UInt8) ∉ bl k) (r : Bs) :
    ∀ j i g, i + (j + 1) = ns.length → j + 1 ≤ g → rdL R kd e g (ks.take i) (ns.take i) (tlB (jsB n) (decide (kd = 4)) ks ns (j + 1) i ++ (e :: r)) = some (⟨kd, tB [], ks, ns⟩, r) := by
  intro j
  induction j with
  | zero =>
    intro i g hi hg
    obtain ⟨g, rfl⟩ : ∃ q, g = q + 1 := ⟨g - 1, by omega⟩
    have hx : ns[i]? = some ns[i] := List.getElem?_eq_getElem (by omega)
    have hgd : ns.getD i node0 = ns[i] := by rw [List.getD_eq_getElem?_getD, hx]; rfl
    have hns : ns.take i ++ [ns[i]] = ns := by
      rw [← List.take_succ_eq_append_getElem (by omega), List.take_of_length_le (by omega)]
    have e0 : tookQ [e] (e :: r) = some r := took_app [e] r
    unfold rdL
    simp only [tlB, hgd, if_true, List.append_nil]
    by_cases g4 : kd = 4
    · have hkl := hk4 g4
      have hkx : ks[i]? = some ks[i] := List.getElem?_eq_getElem (by omega)
      have hkd : ks.getD i ⟨#[]⟩ = ks[i] := by rw [List.getD_eq_getElem?_getD, hkx]; rfl
      have hks : ks.take i ++ [ks[i]] = ks := by
        rw [← List.take_succ_eq_append_getElem (by omega), List.take_of_length_le (by omega)]
      have hka := key_app (r := jsB n ns[i] ++ (e :: r)) (hno ks[i] (List.getElem_mem _))
      simp only [if_pos g4, hkd, decide_eq_true g4, List.append_assoc, hka, hR _ (List.getElem_mem _), e0, hks, hns]
    · have hks := hk3 g4
      simp only [if_neg g4, decide_eq_false g4, keyB, Bool.false_eq_true, if_false, List.nil_append, List.append_assoc, hR _ (List.getElem_mem _), e0, hns, hks, List.take_nil]
  | succ j ih =>
    intro i g hi hg
    obtain ⟨g, rfl⟩ : ∃ q, g = q + 1 := ⟨g - 1, by omega⟩
    have hx : ns[i]? = some ns[i] := List.getElem?_eq_getElem (by omega)
    have hgd : ns.getD i node0 = ns[i] := by rw [List.getD_eq_getElem?_getD, hx]; rfl
    have hns : ns.take i ++ [ns[i]] = ns.take (i + 1) := (List.take_succ_eq_append_getElem (by omega)).symm
    have e0 : tookQ [e] (44 :: (tlB (jsB n) (decide (kd = 4)) ks ns (j + 1) (i + 1) ++ (e :: r))) = none := took_no he
    have e1 : tookQ [44] (44 :: (tlB (jsB n) (decide (kd = 4)) ks ns (j + 1) (i + 1) ++ (e :: r))) = some _ := took_app [44] _
    have IH := ih (i + 1) g (by omega) (by omega)
    unfold rdL
    rw [show tlB (jsB n) (decide (kd = 4)) ks ns (j + 1 + 1) i = keyB (decide (kd = 4)) (ks.getD i ⟨#[]⟩) ++ (jsB n (ns.getD i node0) ++ (44 :: tlB (jsB n) (decide (kd = 4)) ks ns (j + 1) (i + 1))) from rfl]
    by_cases g4 : kd = 4
    · have hkl := hk4 g4
      have hkx : ks[i]? = some ks[i] := List.getElem?_eq_getElem (by omega)
      have hkd : ks.getD i ⟨#[]⟩ = ks[i] := by rw [List.getD_eq_getElem?_getD, hkx]; rfl
      have hks : ks.take i ++ [ks[i]] = ks.take (i + 1) := (List.take_succ_eq_append_getElem (by omega)).symm
      have hka := key_app (r := jsB n ns[i] ++ (44 :: (tlB (jsB n) (decide (kd = 4)) ks ns (j + 1) (i + 1) ++ (e :: r)))) (hno ks[i] (List.getElem_mem _))
      rw [hkd, hgd, decide_eq_true g4] at *
      simp only [if_pos g4, List.append_assoc, List.cons_append, hka, hR _ (List.getElem_mem _), e0, e1, hks, hns]
      exact IH
    · have hks := hk3 g4
      subst hks
      rw [hgd, decide_eq_false g4] at *
      simp only [if_neg g4, keyB, Bool.false_eq_true, if_false, List.nil_append, List.append_assoc, List.cons_append, hR _ (List.getElem_mem _), e0, e1, hns, List.take_nil] at IH ⊢
      exact IH
end Go.Proofs.YtlncdkeooacebaaDoor.Rw
