/-
  A schema read off a text as the program reads it, plainly; what is printed is read back; no program. Conditions: as each theorem says.
-/
import Derived.Test.YtceabbbmgfeofaaGreatDoorRows
import Derived.Test.YtceabbbmgfeofaaGreatDoorPrintS
import Derived.Lib.IndexMore
import Derived.Lib.ParseIntBTie
import Derived.Lib.Join
import Derived.Lib.SplitLaws
import Derived.Lib.CountLaws
namespace Go.Proofs.YtceabbbmgfeofaaGreatDoor.Rw
open Go.RowKit Words Decs Splits
set_option linter.unusedVariables false
set_option maxRecDepth 100000

abbrev Tk := List UInt8
theorem ix_word {c : UInt8} {b : Tk} : ∀ {a : Tk}, c ∉ a → Lib.index (a ++ c :: b) [c] = a.length
  | [], _ => by simp [Lib.index]
  | x :: a, h => by
    have hx : c ≠ x := fun e => h (by simp [e])
    have ih := ix_word (b := b) (a := a) (fun e => h (List.mem_cons_of_mem _ e))
    rw [List.cons_append, Lib.index, if_neg (by simp [hx]), ih]
    rw [if_neg (by rw [beq_iff_eq]; omega), List.length_cons]; omega
theorem ix_none {c : UInt8} : ∀ {a : Tk}, c ∉ a → Lib.index a [c] = -1
  | [], _ => by simp [Lib.index]
  | x :: a, h => by
    have hx : c ≠ x := fun e => h (by simp [e])
    have ih := ix_none (a := a) (fun e => h (List.mem_cons_of_mem _ e))
    rw [Lib.index, if_neg (by simp [hx]), ih]; rfl
theorem cutR_word {c : UInt8} {a b : Tk} (h : c ∉ a) : Lib.cut (a ++ c :: b) [c] = (a, b, true) := by
  unfold Lib.cut
  rw [ix_word h, if_pos (by omega)]
  simp
theorem cutR_none {c : UInt8} {a : Tk} (h : c ∉ a) : Lib.cut a [c] = (a, [], false) := by
  unfold Lib.cut
  rw [ix_none h, if_neg (by omega)]
theorem cutR_len (s sep : Tk) : (Lib.cut s sep).1.length ≤ s.length ∧ (Lib.cut s sep).2.1.length ≤ s.length := by
  unfold Lib.cut
  split
  · simp only [List.length_take, List.length_drop]; omega
  · simp
theorem trimR_last (a : Tk) (c : UInt8) : Lib.trimSuffix (a ++ [c]) [c] = a ∧ Lib.hasSuffix (a ++ [c]) [c] = true := by
  have h : Lib.hasSuffix (a ++ [c]) [c] = true := by unfold Lib.hasSuffix; rw [List.isSuffixOf_iff_suffix]; exact List.suffix_append a [c]
  refine ⟨?_, h⟩
  unfold Lib.trimSuffix
  rw [if_pos h]
  simp
theorem trimR_none {a : Tk} {c : UInt8} (h : c ∉ a) : Lib.trimSuffix a [c] = a ∧ Lib.hasSuffix a [c] = false := by
  have h : Lib.hasSuffix a [c] = false := by
    cases hs : Lib.hasSuffix a [c] with
    | false => rfl
    | true =>
      unfold Lib.hasSuffix at hs
      rw [List.isSuffixOf_iff_suffix] at hs
      obtain ⟨p, rfl⟩ := hs
      exact absurd (by simp) h
  refine ⟨?_, h⟩
  unfold Lib.trimSuffix
  rw [if_neg (by rw [h]; simp)]
theorem trimR_len (s p : Tk) : (Lib.trimSuffix s p).length ≤ s.length := by
  unfold Lib.trimSuffix
  split
  · rw [List.length_take]; omega
  · exact Nat.le_refl _
theorem preR_hit (a : Tk) (c : UInt8) : Lib.trimPrefix (c :: a) [c] = a ∧ Lib.hasPrefix (c :: a) [c] = true := by
  have h : Lib.hasPrefix (c :: a) [c] = true := by unfold Lib.hasPrefix; simp
  refine ⟨?_, h⟩
  unfold Lib.trimPrefix
  rw [if_pos h]; rfl
theorem preR_none {a : Tk} {c : UInt8} (h : c ∉ a) : Lib.trimPrefix a [c] = a ∧ Lib.hasPrefix a [c] = false := by
  have h : Lib.hasPrefix a [c] = false := by
    cases a with
    | nil => rfl
    | cons x a =>
      have hcx : c ≠ x := fun e => h (by simp [e])
      simp [Lib.hasPrefix, List.isPrefixOf, hcx]
  refine ⟨?_, h⟩
  unfold Lib.trimPrefix
  rw [if_neg (by rw [h]; simp)]
theorem preR_len (s p : Tk) : (Lib.trimPrefix s p).length ≤ s.length := by
  unfold Lib.trimPrefix
  split
  · rw [List.length_drop]; omega
  · exact Nat.le_refl _
theorem splitK_R (c : UInt8) : ∀ (n : Nat) (s : Tk), s.length < n → Lib.splitK [c] 0 (Lib.count s [c]) s = splitL c s := by
  intro n
  induction n with
  | zero => intro s h; omega
  | succ n ih =>
    intro s hs
    by_cases hm : c ∈ s
    · obtain ⟨a, b, rfl, ha⟩ := List.eq_append_cons_of_mem hm
      have hi : Lib.index (a ++ c :: b) [c] = (a.length : Int) := ix_word ha
      have hd : (a ++ c :: b).drop (a.length + [c].length) = b := by simp
      rw [Lib.count_hit (by simp) hi, hd, Nat.add_comm, splitR_word ha]
      unfold Lib.splitK
      rw [hi, if_neg (by simp), show ((a.length : Int)).toNat = a.length from rfl, hd, ih b (by simp at hs; omega)]
      simp
    · have hi := ix_none hm
      rw [Lib.count_miss hi, splitR_last hm]; rfl
theorem splitB_R (c : UInt8) (t : ByteArray) : (Lib.splitB ⟨#[c]⟩ 0 (Lib.countB t ⟨#[c]⟩) t).map bL = splitL c (bL t) := by
  have h := Lib.splitB_data ⟨#[c]⟩ 0 (Lib.countB t ⟨#[c]⟩) t
  exact h.trans (splitK_R c _ _ (Nat.lt_succ_self _))
theorem splitL_snoc (c : UInt8) : ∀ u : Tk, splitL c (u ++ [c]) = splitL c u ++ [[]]
  | [] => by simp [splitL]
  | x :: u => by
    have ih := splitL_snoc c u
    rw [List.cons_append, splitL, splitL]
    split
    · rw [ih]; rfl
    · rw [ih]
      obtain ⟨a, r, h⟩ := consR (splitL_ne c u)
      rw [h]; rfl

/-- The number that ParseInt answers, whatever it says beside. -/
def pintR (l : Tk) : Int := match Lib.parseIntB 64 l with
  | .ok v => v
  | Lib.NumEnd.syntax => 0
  | .range => Lib.intSat 64 l
theorem pintR_ok (l : Tk) : OkI (pintR l) := by
  unfold OkI pintR
  rcases h : Lib.parseIntB 64 l with v | _ | _
  · have := Lib.parseIntB_bounds h
    have e : ((2 ^ (64 - 1) : Nat) : Int) = 9223372036854775808 := by decide
    rw [e] at this
    simp only; omega
  · simp only; omega
  · have e : (2 ^ (64 - 1) : Nat) = 9223372036854775808 := by decide
    simp only [Lib.intSat]
    split <;> rw [e] <;> omega
theorem pintR_one : ∀ n : Fin 10, pintR [UInt8.ofNat (48 + n.val)] = (n.val : Int) := by decide +kernel
theorem pintR_two : ∀ p : Fin 100, pintR [UInt8.ofNat (48 + p.val / 10), UInt8.ofNat (48 + p.val % 10)] = (p.val : Int) := by decide +kernel
theorem pintR_100 : pintR [49, 48, 48] = 100 := by decide +kernel
theorem pintR_nil : pintR [] = 0 := by decide +kernel
theorem pintR_dec {f : Int} (h0 : 0 ≤ f) (h1 : f ≤ 100) : pintR (bL (decB f)) = f := by
  rw [bL_dec h0]
  obtain ⟨n, rfl⟩ := Int.eq_ofNat_of_zero_le h0
  rw [Int.toNat_natCast]
  have hn : n ≤ 100 := by omega
  by_cases h2 : n < 10
  · rw [decL_small h2]; exact pintR_one ⟨n, h2⟩
  · by_cases h3 : n < 100
    · rw [decL_big (by omega), decL_small (by omega)]; exact pintR_two ⟨n, h3⟩
    · obtain rfl : n = 100 := by omega
      rw [decL_big (by omega), decL_big (by omega), decL_small (by omega)]
      exact pintR_100

/-- What a field's word is read as. -/
def numQ (x : Tk) : Tk := Lib.trimSuffix x [93]
def fieldQ (w : Tk) : FieldP :=
  ⟨ubR (Lib.cut (Lib.cut (Lib.trimSuffix w [33]) [91]).1 [58]).1, ubR (Lib.cut (Lib.cut (Lib.trimSuffix w [33]) [91]).1 [58]).2.1, (Lib.cut (Lib.trimSuffix w [33]) [91]).2.2, Lib.hasSuffix w [33],
    if Lib.hasPrefix (numQ (Lib.cut (Lib.trimSuffix w [33]) [91]).2.1) [60] = true then 0 else pintR (Lib.trimPrefix (numQ (Lib.cut (Lib.trimSuffix w [33]) [91]).2.1) [60]),
    if Lib.hasPrefix (numQ (Lib.cut (Lib.trimSuffix w [33]) [91]).2.1) [60] = true then pintR (Lib.trimPrefix (numQ (Lib.cut (Lib.trimSuffix w [33]) [91]).2.1) [60]) else 0⟩
def nameQ (l : Tk) : ByteArray := ubR (Lib.cut (Lib.cut l [32]).2.1 [32]).1
def hadQ (l : Tk) : Tk := (Lib.cut (Lib.cut l [32]).2.1 [32]).2.1
/-- What a line is read as. -/
def typeQ (l : Tk) : TypeP :=
  if (Lib.cut l [32]).1 = leafW then ⟨nameQ l, 1, pintR (hadQ l), [], []⟩
  else if (Lib.cut l [32]).1 = objW then ⟨nameQ l, 2, 0, (splitL 32 (hadQ l)).map fieldQ, []⟩
  else if (Lib.cut l [32]).1 = oneW then ⟨nameQ l, 3, 0, [], (splitL 32 (hadQ l)).map ubR⟩
  else zeroType
def schemaQ (t : Tk) : List TypeP := (splitL 10 (Lib.trimSuffix t [10])).map typeQ

theorem read_fieldQ {s : List TypeP} {f : FieldP} (h : FieldOk s f) : fieldQ (wordT f) = f := by
  have hnb := word_bytes h.word
  have htb := type_bytes h.typ
  have hsz := h.sized
  have hw : wordT f = (bL f.name ++ 58 :: (bL f.typ ++ coreT f)) ++ (if f.must = true then [33] else []) := by
    unfold wordT; rw [tail_core hsz]; simp
  have hno : ∀ c : UInt8, c ∉ bL f.name ++ 58 :: (bL f.typ ++ coreT f) ↔ (c ∉ bL f.name ∧ c ≠ 58 ∧ c ∉ bL f.typ ∧ c ∉ coreT f) := fun c => by simp [not_or]
  have h33 : (33 : UInt8) ∉ bL f.name ++ 58 :: (bL f.typ ++ coreT f) := (hno 33).2 ⟨not_in hnb (.inl (by decide)), by decide, not_in htb (.inl (by decide)), core_no hsz (by decide) (by decide) (by decide) (.inl (by decide))⟩
  have hcut : Lib.trimSuffix (wordT f) [33] = bL f.name ++ 58 :: (bL f.typ ++ coreT f) ∧ Lib.hasSuffix (wordT f) [33] = f.must := by
    rw [hw]
    cases hm : f.must with
    | true => rw [if_pos rfl]; exact trimR_last _ _
    | false => rw [if_neg (by simp), List.append_nil]; exact trimR_none h33
  have n58 : (58 : UInt8) ∉ bL f.name := not_in hnb (.inl (by decide))
  have n91 : (91 : UInt8) ∉ bL f.name ++ 58 :: bL f.typ := by
    intro e
    rcases List.mem_append.1 e with e | e
    · exact not_in hnb (c := 91) (.inl (by decide)) e
    · rcases List.mem_cons.1 e with e | e
      · exact absurd e (by decide)
      · exact not_in htb (c := 91) (.inr (by decide)) e
  have hhead : Lib.cut (bL f.name ++ 58 :: bL f.typ) [58] = (bL f.name, bL f.typ, true) := cutR_word n58
  have key : ∀ (num : Tk) (ls : Bool), Lib.cut (bL f.name ++ 58 :: (bL f.typ ++ coreT f)) [91] = (bL f.name ++ 58 :: bL f.typ, num, ls) → ls = f.list →
      (if Lib.hasPrefix (numQ num) [60] = true then 0 else pintR (Lib.trimPrefix (numQ num) [60])) = f.size → (if Lib.hasPrefix (numQ num) [60] = true then pintR (Lib.trimPrefix (numQ num) [60]) else 0) = f.cap → fieldQ (wordT f) = f := by
    intro num ls h1 h2 h3 h4
    unfold fieldQ
    rw [hcut.1, hcut.2, h1]
    simp only
    rw [hhead, h3, h4, h2]
    simp only [ubR_bL]
  have dn : ∀ {n : Int}, 0 ≤ n → n ≤ 100 → ∀ c : UInt8, (c.toNat < 48 ∨ 57 < c.toNat) → c ∉ bL (decB n) := fun a b c hc => not_in (dec_bytes a b) hc
  unfold coreT at key
  rcases sized_cases hsz with ⟨h1, h2, h3⟩ | ⟨h1, h2, h3, h4⟩ | ⟨h1, h2, h3, h4⟩
  · refine key [] false ?_ h1.symm ?_ ?_
    · rw [if_neg (by rw [h1]; simp), List.append_nil]; exact cutR_none n91
    · rw [h2]; decide +kernel
    · rw [h3]; decide +kernel
  · have e : numQ (bL (decB f.size) ++ [93]) = bL (decB f.size) := (trimR_last _ _).1
    have e2 := preR_none (dn h3 h4 60 (.inr (by decide)))
    refine key (bL (decB f.size) ++ [93]) true ?_ h1.symm ?_ ?_
    · rw [if_pos h1, if_pos h2]
      have := cutR_word (b := bL (decB f.size) ++ [93]) n91
      simpa using this
    · rw [e, e2.1, e2.2, if_neg (by simp)]; exact pintR_dec h3 h4
    · rw [e, e2.1, e2.2, if_neg (by simp)]; exact h2.symm
  · have e : numQ (60 :: (bL (decB f.cap) ++ [93])) = 60 :: bL (decB f.cap) := by
      have := (trimR_last (60 :: bL (decB f.cap)) 93).1
      rw [List.cons_append] at this; exact this
    have e2 := preR_hit (bL (decB f.cap)) 60
    refine key (60 :: (bL (decB f.cap) ++ [93])) true ?_ h1.symm ?_ ?_
    · rw [if_pos h1, if_neg (by omega)]
      have := cutR_word (b := 60 :: (bL (decB f.cap) ++ [93])) n91
      simpa using this
    · rw [e, e2.1, e2.2, if_pos rfl]; exact h2.symm
    · rw [e, e2.1, e2.2, if_pos rfl]; exact pintR_dec (by omega) h4
theorem blanks_cons (w : Tk) (ws : List Tk) : blanks (w :: ws) = 32 :: (w ++ blanks ws) := by unfold blanks; rw [List.flatMap_cons, List.cons_append]
theorem part_fields_some {s : List TypeP} {x : TypeP} (h : partB s x = true) (hk : x.kind = 2) : x.fields ≠ [] := by
  intro e
  unfold partB objB fieldsB at h
  rw [if_neg (by omega), if_pos hk, e] at h
  simp at h
theorem part_members_some {s : List TypeP} {x : TypeP} (h : partB s x = true) (hk : x.kind = 3) : x.members ≠ [] := by
  intro e
  unfold partB oneTB at h
  rw [if_neg (by omega), if_neg (by omega), if_pos hk, e] at h
  simp at h
theorem read_lineQ {s : List TypeP} (hs : schemaB s = true) {x : TypeP} (hL : LineOk s x) (hx : partB s x = true) : typeQ (kw x.kind ++ blanks (restT x)) = x := by
  have hc := rest_clean hs hL hx (c := 32) (.inl rfl)
  have hkw := kw_clean x.kind (c := 32) (.inl rfl)
  obtain ⟨W, hW⟩ : ∃ W, (if x.kind = 1 then [bL (decB x.bytes)] else []) ++ (x.fields.map wordT ++ x.members.map bL) = W := ⟨_, rfl⟩
  have hR : restT x = bL x.name :: W := by unfold restT; rw [hW]
  rw [hR] at hc ⊢
  have h1 : Lib.cut (kw x.kind ++ blanks (bL x.name :: W)) [32] = (kw x.kind, bL x.name ++ blanks W, true) := by rw [blanks_cons]; exact cutR_word hkw
  have hnm := hc (bL x.name) (by simp)
  have h2 : ∀ (w : Tk) (ws : List Tk), W = w :: ws → nameQ (kw x.kind ++ blanks (bL x.name :: W)) = x.name ∧ hadQ (kw x.kind ++ blanks (bL x.name :: W)) = w ++ blanks ws := by
    intro w ws e
    unfold nameQ hadQ
    rw [h1]
    simp only
    rw [e, blanks_cons, cutR_word hnm]
    exact ⟨ubR_bL _, rfl⟩
  have hrd : ∀ f ∈ x.fields, fieldQ (wordT f) = f := fun f hf => read_fieldQ (hL.each f hf)
  have pf := fun h => part_fields hx h
  have pm := fun h => part_members hx h
  have pb := fun h => part_bytes hx h
  have sf := fun h => part_fields_some hx h
  have sm := fun h => part_members_some hx h
  obtain ⟨_, hk, ⟨hb0, hb1⟩, _⟩ := hL
  unfold typeQ
  rw [h1]
  simp only
  obtain ⟨nm, kd, by_, fs, ms⟩ := x
  simp only at h1 h2 hrd pf pm pb sf sm hk hb0 hb1 hc hnm hW hkw ⊢
  rcases hk with rfl | rfl | rfl
  · obtain rfl := pf (by decide)
    obtain rfl := pm (by decide)
    obtain ⟨e1, e2⟩ := h2 _ [] (by rw [← hW]; rfl)
    rw [if_pos (show kw 1 = leafW from rfl), e1, e2, show blanks [] = [] from rfl, List.append_nil, pintR_dec hb0 hb1]
  · obtain rfl := pm (by decide)
    obtain rfl := pb (by decide)
    cases fs with
    | nil => exact absurd rfl (sf rfl)
    | cons f fs =>
      have hWW : W = wordT f :: fs.map wordT := by rw [← hW]; simp
      obtain ⟨e1, e2⟩ := h2 _ _ hWW
      rw [if_neg (show ¬ kw 2 = leafW by decide), if_pos (show kw 2 = objW from rfl), e1, e2, split_blanks (hc _ (by rw [hWW]; simp)) (fun v hv => hc v (by rw [hWW]; simp only [List.mem_cons]; exact .inr (.inr hv)))]
      have : ∀ l : List FieldP, (∀ f ∈ l, fieldQ (wordT f) = f) → (l.map wordT).map fieldQ = l := by
        intro l
        induction l with
        | nil => intro _; rfl
        | cons y l ih => intro hl; rw [List.map_cons, List.map_cons, hl y (by simp), ih fun z hz => hl z (by simp [hz])]
      rw [← List.map_cons, this _ hrd]
  · obtain rfl := pf (by decide)
    obtain rfl := pb (by decide)
    cases ms with
    | nil => exact absurd rfl (sm rfl)
    | cons m ms =>
      have hWW : W = bL m :: ms.map bL := by rw [← hW]; simp
      obtain ⟨e1, e2⟩ := h2 _ _ hWW
      rw [if_neg (show ¬ kw 3 = leafW by decide), if_neg (show ¬ kw 3 = objW by decide), if_pos (show kw 3 = oneW from rfl), e1, e2, split_blanks (hc _ (by rw [hWW]; simp)) (fun v hv => hc v (by rw [hWW]; simp only [List.mem_cons]; exact .inr (.inr hv)))]
      have : ∀ l : List ByteArray, (l.map bL).map ubR = l := by
        intro l
        induction l with
        | nil => rfl
        | cons y l ih => rw [List.map_cons, List.map_cons, ubR_bL, ih]
      rw [← List.map_cons, this]
/-- What a right schema's text is read as. -/
theorem read_schemaQ {s : List TypeP} (h : schemaB s = true) : schemaQ (bL (schT s)) = s := by
  have hok : ∀ x ∈ s, LineOk s x ∧ partB s x = true := fun x hx => by
    obtain ⟨i, hi⟩ := List.mem_iff_getElem?.1 hx
    exact ⟨line_ok h hi, ((schemaB_parts h).2.2 i x hi).1.2⟩
  have hlen := (schemaB_parts h).1.1
  have hsp := split_lines (l := s) fun x hx e => by
    obtain ⟨h1, h2⟩ := hok x hx
    rcases List.mem_append.1 e with e | e
    · exact kw_clean _ (.inr rfl) e
    · exact blanks_clean (rest_clean h h1 h2 (.inr rfl)) e
  have hlast : ∀ l : List TypeP, l ≠ [] → ∃ u, bL (linesT l) = u ++ [10] := by
    intro l
    induction l with
    | nil => intro e; exact absurd rfl e
    | cons x l ih =>
      intro _
      rw [linesT, bL_append, line_blanks]
      cases l with
      | nil => exact ⟨kw x.kind ++ blanks (restT x), by rw [linesT, bL_empty, List.append_nil]⟩
      | cons y l =>
        obtain ⟨u, hu⟩ := ih (by simp)
        exact ⟨((kw x.kind ++ blanks (restT x)) ++ [10]) ++ u, by rw [hu]; simp⟩
  obtain ⟨u, hu⟩ := hlast s (by intro e; rw [e] at hlen; simp at hlen)
  have hS : schT s = linesT s := by unfold schT; rw [if_pos h]
  rw [hu, splitL_snoc] at hsp
  have hsp2 := List.append_cancel_right hsp
  unfold schemaQ
  rw [hS, hu, (trimR_last u 10).1, hsp2, List.map_map]
  have : ∀ l : List TypeP, (∀ x ∈ l, x ∈ s) → l.map (typeQ ∘ fun x => kw x.kind ++ blanks (restT x)) = l := by
    intro l
    induction l with
    | nil => intro _; rfl
    | cons x l ih =>
      intro hl
      obtain ⟨h1, h2⟩ := hok x (hl x (by simp))
      rw [List.map_cons, ih fun y hy => hl y (by simp [hy])]
      show typeQ (kw x.kind ++ blanks (restT x)) :: l = x :: l
      rw [read_lineQ h h1 h2]
  exact this s fun _ hx => hx
end Go.Proofs.YtceabbbmgfeofaaGreatDoor.Rw
