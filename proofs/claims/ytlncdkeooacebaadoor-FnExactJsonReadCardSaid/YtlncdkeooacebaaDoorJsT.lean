/-
  The model's plain reader of nodes; of a right node's text both plain readers read that node, so both tell the same of each text; no program. Conditions: as each theorem says.
-/
import Derived.Test.YtlncdkeooacebaaDoorRows
import Derived.Test.YtlncdkeooacebaaDoorJsR
namespace Go.Proofs.YtlncdkeooacebaaDoor.Rw
open Go.RowKit Words
set_option linter.unusedVariables false
set_option linter.unusedSimpArgs false
set_option maxRecDepth 100000

def quoQ (s : Bs) : Bs × Bool × Bs :=
  match tookQ [34] s with
  | none => ([], false, s)
  | some r =>
    match tookQ [34] (r.dropWhile (· != 34)) with
    | some q => (r.takeWhile (· != 34), true, q)
    | none => (r.takeWhile (· != 34), false, r.dropWhile (· != 34))
def keyS (s : Bs) : Option ByteArray × Bs :=
  if (quoQ s).2.1 then
    match tookQ [58] (quoQ s).2.2 with
    | some q => (some (tB (quoQ s).1), q)
    | none => (none, (quoQ s).2.2)
  else (none, (quoQ s).2.2)
def spL (R : Bs → NodeP × Bs) (kd : Int) (e : UInt8) : Nat → List ByteArray → List NodeP → Bs → NodeP × Bs
  | 0, _, _, s => (node0, s)
  | g + 1, ks, ns, s =>
    match (if kd = 4 then keyS s else (some (tB []), s)) with
    | (none, r) => (node0, r)
    | (some k, s2) =>
      match tookQ [e] (R s2).2 with
      | some q => (⟨kd, tB [], if kd = 4 then ks ++ [k] else ks, ns ++ [(R s2).1]⟩, q)
      | none =>
        if (R s2).1.kind = 0 then (node0, (R s2).2)
        else
          match tookQ [44] (R s2).2 with
          | some q => spL R kd e g (if kd = 4 then ks ++ [k] else ks) (ns ++ [(R s2).1]) q
          | none => (node0, (R s2).2)
def spK (R : Bs → NodeP × Bs) (kd : Int) (e : UInt8) (s : Bs) : NodeP × Bs :=
  match tookQ [e] s with
  | some q => (⟨kd, tB [], [], []⟩, q)
  | none => spL R kd e 2001 [] [] s
def spN : Nat → Bs → NodeP × Bs
  | 0, s => (node0, s)
  | d + 1, s =>
    match tookQ [110, 117, 108, 108] s with
    | some r => (⟨1, tB [], [], []⟩, r)
    | none =>
      match tookQ [91] s with
      | some r => spK (spN d) 3 93 r
      | none =>
        match tookQ [123] s with
        | some r => spK (spN d) 4 125 r
        | none => if (quoQ s).2.1 then (⟨2, tB (quoQ s).1, [], []⟩, (quoQ s).2.2) else (node0, (quoQ s).2.2)

theorem span_app {a r : Bs} (h : (34 : UInt8) ∉ a) : (a ++ 34 :: r).takeWhile (· != 34) = a ∧ (a ++ 34 :: r).dropWhile (· != 34) = 34 :: r := by
  induction a with
  | nil => simp
  | cons c a ih =>
    have hc : (c != 34) = true := by rw [bne_iff_ne]; exact fun e => h (by simp [e])
    have := ih fun e => h (List.mem_cons_of_mem _ e)
    simp [List.takeWhile_cons, List.dropWhile_cons, hc, this.1, this.2]
theorem quo_app {a r : Bs} (h : (34 : UInt8) ∉ a) : quoQ (34 :: (a ++ 34 :: r)) = (a, true, r) := by
  unfold quoQ
  rw [show (34 :: (a ++ 34 :: r) : Bs) = [34] ++ (a ++ 34 :: r) from rfl, took_app]
  simp only [(span_app (r := r) h).1, (span_app (r := r) h).2]
  rw [show (34 :: r : Bs) = [34] ++ r from rfl, took_app]
theorem keyS_app {k : ByteArray} {r : Bs} (h : (34 : UInt8) ∉ bl k) : keyS (keyB true k ++ r) = (some k, r) := by
  have e : keyB true k ++ r = 34 :: (bl k ++ 34 :: (58 :: r)) := by simp [keyB]
  unfold keyS
  rw [e, quo_app h]
  simp only [if_true]
  rw [show (58 :: r : Bs) = [58] ++ r from rfl, took_app]
  simp [tB_bl]
theorem spL_app {R : Bs → NodeP × Bs} {n : Nat} {kd : Int} {e : UInt8} {ks : List ByteArray} {ns : List NodeP} (he : e ≠ 44) (hR : ∀ k ∈ ns, ∀ r, R (jsB n k ++ r) = (k, r)) (h0 : ∀ k ∈ ns, k.kind ≠ 0) (hk4 : kd = 4 → ks.length = ns.length) (hk3 : kd ≠ 4 → ks = []) (hno : ∀ k ∈ ks, (34 : UInt8) ∉ bl k) (r : Bs) :
    ∀ j i g, i + (j + 1) = ns.length → j + 1 ≤ g → spL R kd e g (ks.take i) (ns.take i) (tlB (jsB n) (decide (kd = 4)) ks ns (j + 1) i ++ (e :: r)) = (⟨kd, tB [], ks, ns⟩, r) := by
  intro j
  induction j with
  | zero =>
    intro i g hi hg
    obtain ⟨g, rfl⟩ : ∃ q, g = q + 1 := ⟨g - 1, by omega⟩
    have hx : ns[i]? = some ns[i] := List.getElem?_eq_getElem (by omega)
    have hgd : ns.getD i node0 = ns[i] := by rw [List.getD_eq_getElem?_getD, hx]; rfl
    have hns : ns.take i ++ [ns[i]] = ns := by
      rw [← List.take_succ_eq_append_getElem (by omega), List.take_of_length_le (by omega)]
    have e0 : tookQ [e] (e :: r) = some r := took_app [e] r
    unfold spL
    simp only [tlB, hgd, if_true, List.append_nil]
    by_cases g4 : kd = 4
    · have hkl := hk4 g4
      have hkx : ks[i]? = some ks[i] := List.getElem?_eq_getElem (by omega)
      have hkd : ks.getD i ⟨#[]⟩ = ks[i] := by rw [List.getD_eq_getElem?_getD, hkx]; rfl
      have hks : ks.take i ++ [ks[i]] = ks := by
        rw [← List.take_succ_eq_append_getElem (by omega), List.take_of_length_le (by omega)]
      have hka := keyS_app (r := jsB n ns[i] ++ (e :: r)) (hno ks[i] (List.getElem_mem _))
      simp only [if_pos g4, hkd, decide_eq_true g4, List.append_assoc, hka, hR _ (List.getElem_mem _), e0, hks, hns]
    · have hks := hk3 g4
      simp only [if_neg g4, decide_eq_false g4, keyB, Bool.false_eq_true, if_false, List.nil_append, List.append_assoc, hR _ (List.getElem_mem _), e0, hns, hks, List.take_nil]
  | succ j ih =>
    intro i g hi hg
    obtain ⟨g, rfl⟩ : ∃ q, g = q + 1 := ⟨g - 1, by omega⟩
    have hx : ns[i]? = some ns[i] := List.getElem?_eq_getElem (by omega)
    have hgd : ns.getD i node0 = ns[i] := by rw [List.getD_eq_getElem?_getD, hx]; rfl
    have hns : ns.take i ++ [ns[i]] = ns.take (i + 1) := (List.take_succ_eq_append_getElem (by omega)).symm
    have hz := h0 ns[i] (List.getElem_mem _)
    have e0 : tookQ [e] (44 :: (tlB (jsB n) (decide (kd = 4)) ks ns (j + 1) (i + 1) ++ (e :: r))) = none := took_no he
    have e1 : tookQ [44] (44 :: (tlB (jsB n) (decide (kd = 4)) ks ns (j + 1) (i + 1) ++ (e :: r))) = some _ := took_app [44] _
    have IH := ih (i + 1) g (by omega) (by omega)
    unfold spL
    rw [show tlB (jsB n) (decide (kd = 4)) ks ns (j + 1 + 1) i = keyB (decide (kd = 4)) (ks.getD i ⟨#[]⟩) ++ (jsB n (ns.getD i node0) ++ (44 :: tlB (jsB n) (decide (kd = 4)) ks ns (j + 1) (i + 1))) from rfl]
    by_cases g4 : kd = 4
    · have hkl := hk4 g4
      have hkx : ks[i]? = some ks[i] := List.getElem?_eq_getElem (by omega)
      have hkd : ks.getD i ⟨#[]⟩ = ks[i] := by rw [List.getD_eq_getElem?_getD, hkx]; rfl
      have hks : ks.take i ++ [ks[i]] = ks.take (i + 1) := (List.take_succ_eq_append_getElem (by omega)).symm
      have hka := keyS_app (r := jsB n ns[i] ++ (44 :: (tlB (jsB n) (decide (kd = 4)) ks ns (j + 1) (i + 1) ++ (e :: r)))) (hno ks[i] (List.getElem_mem _))
      rw [hkd, hgd, decide_eq_true g4] at *
      simp only [if_pos g4, List.append_assoc, List.cons_append, hka, hR _ (List.getElem_mem _), e0, e1, hks, hns, if_neg hz]
      exact IH
    · have hks := hk3 g4
      subst hks
      rw [hgd, decide_eq_false g4] at *
      simp only [if_neg g4, keyB, Bool.false_eq_true, if_false, List.nil_append, List.append_assoc, List.cons_append, hR _ (List.getElem_mem _), e0, e1, hns, if_neg hz, List.take_nil] at IH ⊢
      exact IH

theorem js_head : ∀ {n d : Nat} {x : NodeP}, Fits n x → PartOk d x → ∃ c l, jsB n x = c :: l ∧ c ≠ 93 ∧ c ≠ 125
  | 0, _, _, h, _ => h.elim
  | n + 1, d, x, _, h => by
    simp only [jsB]
    split
    · exact ⟨_, _, rfl, by decide, by decide⟩
    · split
      · exact ⟨_, _, rfl, by decide, by decide⟩
      · split
        · exact ⟨_, _, rfl, by decide, by decide⟩
        · exact ⟨_, _, rfl, by decide, by decide⟩
theorem tl_head {n d : Nat} {x : NodeP} (hf : Fits (n + 1) x) (h : PartOk (d + 1) x) (h0 : x.kids.length ≠ 0) (obj : Bool) (r : Bs) : ∃ c l, tlB (jsB n) obj x.keys x.kids x.kids.length 0 ++ r = c :: l ∧ c ≠ 93 ∧ c ≠ 125 := by
  obtain ⟨j, hj⟩ : ∃ j, x.kids.length = j + 1 := ⟨x.kids.length - 1, by omega⟩
  have hx : x.kids[0]? = some x.kids[0] := List.getElem?_eq_getElem (by omega)
  have hgd : x.kids.getD 0 node0 = x.kids[0] := by rw [List.getD_eq_getElem?_getD, hx]; rfl
  obtain ⟨c, l, e, h1, h2⟩ := js_head (hf _ (List.getElem_mem (show 0 < x.kids.length by omega))) (h.2 _ (List.getElem_mem (show 0 < x.kids.length by omega)))
  rw [hj]
  simp only [tlB, hgd]
  cases obj
  · exact ⟨c, _, by simp only [keyB, Bool.false_eq_true, if_false, List.nil_append, e, List.cons_append]; rfl, h1, h2⟩
  · exact ⟨34, _, by simp only [keyB, if_true, List.cons_append]; rfl, by decide, by decide⟩
/-- What a right node is, by its kind. -/
theorem part_eq {d : Nat} {x : NodeP} (h : PartOk d x) : (x.kind = 1 ∧ x = ⟨1, tB [], [], []⟩) ∨ (x.kind = 2 ∧ x = ⟨2, x.text, [], []⟩ ∧ (34 : UInt8) ∉ bl x.text) ∨ (x.kind = 3 ∧ x = ⟨3, tB [], [], x.kids⟩) ∨ (x.kind = 4 ∧ x = ⟨4, tB [], x.keys, x.kids⟩ ∧ x.keys.length = x.kids.length ∧ ∀ k ∈ x.keys, (34 : UInt8) ∉ bl k) := by
  obtain ⟨e, _, ⟨hb, hk⟩, _⟩ := part_pos h
  obtain ⟨kd, tx, ks, ns⟩ := x
  rcases hb with ⟨g1, g2, g3, g4⟩ | ⟨g1, g2, g3, g4⟩ | ⟨g1, g2, g3⟩ | ⟨g1, g2, g3⟩
  · simp only at g1 g2 g3 g4
    exact .inl ⟨g1, by rw [g1, tB_nil_of g2, List.eq_nil_of_length_eq_zero g3, List.eq_nil_of_length_eq_zero g4]⟩
  · simp only at g1 g2 g3 g4
    exact .inr (.inl ⟨g1, by rw [g1, List.eq_nil_of_length_eq_zero g3, List.eq_nil_of_length_eq_zero g4], plain_no34 g2⟩)
  · simp only at g1 g2 g3
    exact .inr (.inr (.inl ⟨g1, by rw [g1, tB_nil_of g2, List.eq_nil_of_length_eq_zero g3]⟩))
  · simp only at g1 g2 g3
    refine .inr (.inr (.inr ⟨g1, by rw [g1, tB_nil_of g2], g3, fun k hk2 => ?_⟩))
    obtain ⟨i, hi, rfl⟩ := List.getElem_of_mem hk2
    exact word_no34 (hk i _ (List.getElem?_eq_getElem hi)).1
theorem rdN_app : ∀ f d x r, PartOk d x → Fits f x → szN f x ≤ f → rdN f (jsB f x ++ r) = some (x, r)
  | 0, _, _, _, _, h, _ => h.elim
  | f + 1, d, x, r, hp, hf, hz => by
    obtain ⟨e, rfl, _, hpk⟩ := part_pos hp
    have hR : ∀ k ∈ x.kids, ∀ q, rdN f (jsB f k ++ q) = some (k, q) := fun k hk q => rdN_app f e k q (hpk k hk) (hf k hk) (by
      obtain ⟨i, hi, rfl⟩ := List.getElem_of_mem hk
      have := sumOf_mem (f := szN f) (List.getElem?_eq_getElem hi)
      simp only [szN] at hz; omega)
    have hlen : x.kids.length ≤ f := by
      have := sum_len (n := f) x.kids
      simp only [szN] at hz; omega
    have hloop : ∀ (kd : Int) (ed : UInt8) (ks : List ByteArray) (obj : Bool), decide (kd = 4) = obj → ed ≠ 44 → (ed = 93 ∨ ed = 125) → x.keys = ks → (kd = 4 → ks.length = x.kids.length) → (kd ≠ 4 → ks = []) → (∀ k ∈ ks, (34 : UInt8) ∉ bl k) → rdK (rdN f) f kd ed (itB (jsB f) obj ks x.kids x.kids.length ++ (ed :: r)) = some (⟨kd, tB [], ks, x.kids⟩, r) := by
      intro kd ed ks obj hob h1 h2 hks h3 h4 h5
      subst hks hob
      unfold rdK
      by_cases h0 : x.kids.length = 0
      · have hn := List.eq_nil_of_length_eq_zero h0
        have hkn : x.keys = [] := by
          by_cases g4 : kd = 4
          · exact List.eq_nil_of_length_eq_zero ((h3 g4).trans h0)
          · exact h4 g4
        rw [h0, show itB (jsB f) (decide (kd = 4)) x.keys x.kids 0 ++ (ed :: r) = [ed] ++ r from rfl, took_app, hn, hkn]
      · obtain ⟨c, l, e1, n1, n2⟩ := tl_head hf hp h0 (decide (kd = 4)) (ed :: r)
        have htk : tookQ [ed] (c :: l) = none := took_no (by rcases h2 with rfl | rfl; exact fun e => n1 e.symm; exact fun e => n2 e.symm)
        obtain ⟨j, hj⟩ : ∃ j, x.kids.length = j + 1 := ⟨x.kids.length - 1, by omega⟩
        rw [it_all h0, e1, htk, ← e1]
        have := rdL_app (n := f) h1 hR h3 h4 h5 r j 0 f (by omega) (by omega)
        rw [← hj] at this
        simpa using this
    unfold rdN
    rcases part_eq hp with ⟨hk, hx⟩ | ⟨hk, hx, hno⟩ | ⟨hk, hx⟩ | ⟨hk, hx, hkl, hno⟩
    · rw [show jsB (f + 1) x ++ r = [110, 117, 108, 108] ++ r by simp [jsB, hk], took_app, hx]
    · rw [show jsB (f + 1) x ++ r = [34] ++ (bl x.text ++ ([34] ++ r)) by simp [jsB, hk], took_app]
      rw [show tookQ [110, 117, 108, 108] ([34] ++ (bl x.text ++ ([34] ++ r))) = none from took_no (by decide)]
      simp only
      rw [cut_app hno]
      simp only [Option.map_some, tB_bl]
      rw [← hx]
    · rw [show jsB (f + 1) x ++ r = [91] ++ (itB (jsB f) false [] x.kids x.kids.length ++ (93 :: r)) by rw [hx]; simp [jsB], took_app]
      rw [show ∀ q, tookQ [110, 117, 108, 108] ([91] ++ q) = none from fun q => took_no (by decide), show ∀ q, tookQ [34] ([91] ++ q) = none from fun q => took_no (by decide)]
      simp only
      rw [hloop 3 93 [] false rfl (by decide) (.inl rfl) (by rw [hx]) (fun h => absurd h (by decide)) (fun _ => rfl) (fun k hk => by cases hk), ← hx]
    · rw [show jsB (f + 1) x ++ r = [123] ++ (itB (jsB f) true x.keys x.kids x.kids.length ++ (125 :: r)) by simp [jsB, hk], took_app]
      rw [show ∀ q, tookQ [110, 117, 108, 108] ([123] ++ q) = none from fun q => took_no (by decide), show ∀ q, tookQ [34] ([123] ++ q) = none from fun q => took_no (by decide), show ∀ q, tookQ [91] ([123] ++ q) = none from fun q => took_no (by decide)]
      simp only
      rw [hloop 4 125 x.keys true rfl (by decide) (.inr rfl) rfl (fun _ => hkl) (fun h => absurd rfl h) hno, ← hx]
theorem spN_app : ∀ f d x r, PartOk d x → Fits f x → szN f x ≤ 2000 → spN f (jsB f x ++ r) = (x, r)
  | 0, _, _, _, _, h, _ => h.elim
  | f + 1, d, x, r, hp, hf, hz => by
    obtain ⟨e, rfl, _, hpk⟩ := part_pos hp
    have hR : ∀ k ∈ x.kids, ∀ q, spN f (jsB f k ++ q) = (k, q) := fun k hk q => spN_app f e k q (hpk k hk) (hf k hk) (by
      obtain ⟨i, hi, rfl⟩ := List.getElem_of_mem hk
      have := sumOf_mem (f := szN f) (List.getElem?_eq_getElem hi)
      simp only [szN] at hz; omega)
    have h0k : ∀ k ∈ x.kids, k.kind ≠ 0 := fun k hk => by have := part_kind (hpk k hk); omega
    have hlen : x.kids.length ≤ 2000 := by
      have := sum_len (n := f) x.kids
      simp only [szN] at hz; omega
    have hloop : ∀ (kd : Int) (ed : UInt8) (ks : List ByteArray) (obj : Bool), decide (kd = 4) = obj → ed ≠ 44 → (ed = 93 ∨ ed = 125) → x.keys = ks → (kd = 4 → ks.length = x.kids.length) → (kd ≠ 4 → ks = []) → (∀ k ∈ ks, (34 : UInt8) ∉ bl k) → spK (spN f) kd ed (itB (jsB f) obj ks x.kids x.kids.length ++ (ed :: r)) = (⟨kd, tB [], ks, x.kids⟩, r) := by
      intro kd ed ks obj hob h1 h2 hks h3 h4 h5
      subst hks hob
      unfold spK
      by_cases h0 : x.kids.length = 0
      · have hn := List.eq_nil_of_length_eq_zero h0
        have hkn : x.keys = [] := by
          by_cases g4 : kd = 4
          · exact List.eq_nil_of_length_eq_zero ((h3 g4).trans h0)
          · exact h4 g4
        rw [h0, show itB (jsB f) (decide (kd = 4)) x.keys x.kids 0 ++ (ed :: r) = [ed] ++ r from rfl, took_app, hn, hkn]
      · obtain ⟨c, l, e1, n1, n2⟩ := tl_head hf hp h0 (decide (kd = 4)) (ed :: r)
        have htk : tookQ [ed] (c :: l) = none := took_no (by rcases h2 with rfl | rfl; exact fun e => n1 e.symm; exact fun e => n2 e.symm)
        obtain ⟨j, hj⟩ : ∃ j, x.kids.length = j + 1 := ⟨x.kids.length - 1, by omega⟩
        rw [it_all h0, e1, htk, ← e1]
        have := spL_app (n := f) h1 hR h0k h3 h4 h5 r j 0 2001 (by omega) (by omega)
        rw [← hj] at this
        simpa using this
    unfold spN
    rcases part_eq hp with ⟨hk, hx⟩ | ⟨hk, hx, hno⟩ | ⟨hk, hx⟩ | ⟨hk, hx, hkl, hno⟩
    · rw [show jsB (f + 1) x ++ r = [110, 117, 108, 108] ++ r by simp [jsB, hk], took_app, hx]
    · rw [show jsB (f + 1) x ++ r = 34 :: (bl x.text ++ 34 :: r) by simp [jsB, hk]]
      rw [show ∀ q, tookQ [110, 117, 108, 108] (34 :: q) = none from fun q => took_no (by decide), show ∀ q, tookQ [91] (34 :: q) = none from fun q => took_no (by decide), show ∀ q, tookQ [123] (34 :: q) = none from fun q => took_no (by decide)]
      simp only
      rw [quo_app hno]
      simp only [if_true, tB_bl]
      rw [← hx]
    · rw [show jsB (f + 1) x ++ r = [91] ++ (itB (jsB f) false [] x.kids x.kids.length ++ (93 :: r)) by rw [hx]; simp [jsB], took_app]
      rw [show ∀ q, tookQ [110, 117, 108, 108] ([91] ++ q) = none from fun q => took_no (by decide)]
      simp only
      rw [hloop 3 93 [] false rfl (by decide) (.inl rfl) (by rw [hx]) (fun h => absurd h (by decide)) (fun _ => rfl) (fun k hk => by cases hk), ← hx]
    · rw [show jsB (f + 1) x ++ r = [123] ++ (itB (jsB f) true x.keys x.kids x.kids.length ++ (125 :: r)) by simp [jsB, hk], took_app]
      rw [show ∀ q, tookQ [110, 117, 108, 108] ([123] ++ q) = none from fun q => took_no (by decide), show ∀ q, tookQ [91] ([123] ++ q) = none from fun q => took_no (by decide)]
      simp only
      rw [hloop 4 125 x.keys true rfl (by decide) (.inr rfl) rfl (fun _ => hkl) (fun h => absurd rfl h) hno, ← hx]
theorem fits_mono : ∀ {n m : Nat} {x : NodeP}, n ≤ m → Fits n x → Fits m x
  | 0, _, _, _, h => h.elim
  | n + 1, 0, _, h, _ => absurd h (by omega)
  | n + 1, m + 1, x, h, g => fun k hk => fits_mono (by omega) (g k hk)
/-- The one node that is told of a text, if any. -/
def ToldN (s : Bs) (x : NodeP) : Prop := Fits 101 x ∧ RightN 101 x ∧ jsB 101 x = s
theorem told_impl {s : Bs} {x : NodeP} {f : Nat} (hf : 2000 ≤ f) : ToldN s x ↔ rdN f s = some (x, []) ∧ RightN f x := by
  constructor
  · rintro ⟨h1, h2, h3⟩
    have hf2 : Fits f x := by
      have := part_fits _ _ h2.2
      exact fits_mono (by omega) this
    have hs := js_same f 101 x hf2 h1
    refine ⟨?_, (right_same hf2 h1).2 h2⟩
    have := rdN_app f 100 x [] h2.2 hf2 (by rw [hs.2]; have := h2.1; omega)
    rwa [List.append_nil, hs.1, h3] at this
  · rintro ⟨h1, h2⟩
    obtain ⟨h3, h4⟩ := rdN_sound f s x [] h1
    have hf2 : Fits 101 x := fits_mono (by omega) (part_fits _ _ h2.2)
    exact ⟨hf2, (right_same hf2 h4).2 h2, by rw [(js_same 101 f x hf2 h4).1, h3, List.append_nil]⟩
theorem told_spec {s : Bs} {x : NodeP} {m : Nat} (hm : Fits m (spN 101 s).1) : ToldN s x ↔ x = (spN 101 s).1 ∧ s ≠ [] ∧ RightN m x ∧ jsB m x = s := by
  constructor
  · rintro ⟨h1, h2, h3⟩
    have := spN_app 101 100 x [] h2.2 h1 h2.1
    rw [List.append_nil, h3] at this
    rw [this] at hm ⊢
    have hs := js_same m 101 x hm h1
    refine ⟨rfl, ?_, (right_same hm h1).2 h2, by rw [hs.1, h3]⟩
    obtain ⟨c, l, e, _, _⟩ := js_head h1 h2.2
    rw [← h3, e]; simp
  · rintro ⟨rfl, h0, h2, h3⟩
    have h1 : Fits 101 (spN 101 s).1 := fits_mono (by omega) (part_fits _ _ h2.2)
    exact ⟨h1, (right_same h1 hm).2 h2, by rw [(js_same 101 m _ h1 hm).1, h3]⟩
end Go.Proofs.YtlncdkeooacebaaDoor.Rw
