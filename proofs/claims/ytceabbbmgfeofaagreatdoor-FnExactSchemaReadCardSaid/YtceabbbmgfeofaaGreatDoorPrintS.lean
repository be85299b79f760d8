/-
  What is printed is read back, plainly: a line, a schema; no program. Conditions: a right schema.
-/
import Derived.Test.YtceabbbmgfeofaaGreatDoorRows
import Derived.Test.YtceabbbmgfeofaaGreatDoorPrintP
import Derived.Test.YtceabbbmgfeofaaGreatDoorSchTC
namespace Go.Proofs.YtceabbbmgfeofaaGreatDoor.Rw
open Go.RowKit Words Decs Splits
set_option linter.unusedVariables false
set_option maxRecDepth 100000

/-- Words behind blanks. -/
def blanks (ws : List (List UInt8)) : List UInt8 := ws.flatMap (fun w => 32 :: w)
theorem split_blanks : ∀ {ws : List (List UInt8)} {w : List UInt8}, (32 : UInt8) ∉ w → (∀ v ∈ ws, (32 : UInt8) ∉ v) → splitL 32 (w ++ blanks ws) = w :: ws
  | [], w, h, _ => by unfold blanks; rw [List.flatMap_nil, List.append_nil]; exact splitR_last h
  | v :: ws, w, h, hs => by
    have ih := split_blanks (ws := ws) (w := v) (hs v (by simp)) fun u hu => hs u (by simp [hu])
    have e : w ++ blanks (v :: ws) = w ++ 32 :: (v ++ blanks ws) := by unfold blanks; rw [List.flatMap_cons, List.cons_append]
    rw [e, splitR_word h, ih]
theorem fields_blanks : ∀ l : List FieldP, bL (fieldsT l) = blanks (l.map wordT)
  | [] => rfl
  | f :: l => by
    have ih := fields_blanks l
    unfold blanks at ih ⊢
    rw [fieldsT, bL_append, ih, List.map_cons, List.flatMap_cons]
    congr 1
    unfold fieldT wordT
    simp [bL_append, bL_cB]
theorem mems_blanks : ∀ l : List ByteArray, bL (memsT l) = blanks (l.map bL)
  | [] => rfl
  | m :: l => by
    have ih := mems_blanks l
    unfold blanks at ih ⊢
    rw [memsT, bL_append, ih, List.map_cons, List.flatMap_cons]
    congr 1
def kw (k : Int) : List UInt8 := if k = 1 then leafW else if k = 2 then objW else oneW
/-- A line's words behind its first one. -/
def restT (x : TypeP) : List (List UInt8) := bL x.name :: ((if x.kind = 1 then [bL (decB x.bytes)] else []) ++ (x.fields.map wordT ++ x.members.map bL))
theorem blanks_append (a b : List (List UInt8)) : blanks (a ++ b) = blanks a ++ blanks b := by unfold blanks; rw [List.flatMap_append]
theorem line_blanks (x : TypeP) : bL (lineT x) = (kw x.kind ++ blanks (restT x)) ++ [10] := by
  have h1 : bL (kindW x.kind) = kw x.kind ++ [32] := by
    unfold kindW kw leafW objW oneW
    split
    · rw [bL_cB]; rfl
    · split <;> (rw [bL_cB]; rfl)
  have h2 : bL (if x.kind = 1 then cB [32] ++ decB x.bytes else ByteArray.empty) = blanks (if x.kind = 1 then [bL (decB x.bytes)] else []) := by
    split <;> simp [bL_append, bL_cB, bL_empty, blanks]
  have h3 : blanks (restT x) = 32 :: (bL x.name ++ (blanks (if x.kind = 1 then [bL (decB x.bytes)] else []) ++ (blanks (x.fields.map wordT) ++ blanks (x.members.map bL)))) := by
    unfold restT
    rw [← blanks_append, ← blanks_append]
    unfold blanks; rw [List.flatMap_cons, List.cons_append]
  unfold lineT headT
  rw [bL_append, bL_append, bL_append, bL_append, bL_append, h1, h2, h3, fields_blanks, mems_blanks, bL_cB]
  simp [List.append_assoc]
theorem fold_obj (nm : ByteArray) : ∀ (l : List FieldP) (L : List FieldP), (∀ f ∈ l, partP2 (wordT f) = f) → (l.map wordT).foldl (stepP objW) ⟨nm, 0, 0, L, []⟩ = ⟨nm, 0, 0, L ++ l, []⟩
  | [], L, _ => by simp
  | f :: l, L, h => by
    rw [List.map_cons, List.foldl_cons]
    have e : stepP objW ⟨nm, 0, 0, L, []⟩ (wordT f) = ⟨nm, 0, 0, L ++ [f], []⟩ := by
      unfold stepP
      rw [if_neg (by decide), if_pos rfl, h f (by simp)]
    rw [e, fold_obj nm l (L ++ [f]) fun g hg => h g (by simp [hg])]
    simp
theorem fold_one (nm : ByteArray) : ∀ (l L : List ByteArray), (l.map bL).foldl (stepP oneW) ⟨nm, 0, 0, [], L⟩ = ⟨nm, 0, 0, [], L ++ l⟩
  | [], L => by simp
  | m :: l, L => by
    rw [List.map_cons, List.foldl_cons]
    have e : stepP oneW ⟨nm, 0, 0, [], L⟩ (bL m) = ⟨nm, 0, 0, [], L ++ [m]⟩ := by
      unfold stepP
      rw [if_neg (by decide), if_neg (by decide), if_pos rfl, ubR_bL]
    rw [e, fold_one nm l (L ++ [m])]
    simp
/-- What the words behind a line's first one are like. -/
theorem rest_clean {s : List TypeP} (hs : schemaB s = true) {x : TypeP} (hL : LineOk s x) (hx : partB s x = true) {c : UInt8} (hc : c = 32 ∨ c = 10) : ∀ v ∈ restT x, c ∉ v := by
  have h33 : c.toNat = 32 ∨ c.toNat = 10 := by rcases hc with rfl | rfl <;> decide
  intro v hv
  unfold restT at hv
  rcases List.mem_cons.1 hv with e | hv
  · rw [e]; exact not_in (type_bytes hL.nm) (.inl (by omega))
  rcases List.mem_append.1 hv with hv | hv
  · split at hv
    · rw [List.mem_singleton] at hv
      rw [hv]; exact not_in (dec_bytes hL.bytes.1 hL.bytes.2) (.inl (by omega))
    · cases hv
  rcases List.mem_append.1 hv with hv | hv
  · obtain ⟨f, hf, rfl⟩ := List.mem_map.1 hv
    exact word_clean (hL.each f hf) hc
  · obtain ⟨m, hm, rfl⟩ := List.mem_map.1 hv
    exact not_in (type_bytes (member_type hs hx hm)) (.inl (by omega))
theorem kw_clean (k : Int) {c : UInt8} (hc : c = 32 ∨ c = 10) : c ∉ kw k := by
  unfold kw leafW objW oneW
  rcases hc with rfl | rfl <;> (split <;> (try split) <;> decide)
theorem blanks_clean {ws : List (List UInt8)} (h : ∀ v ∈ ws, (10 : UInt8) ∉ v) : (10 : UInt8) ∉ blanks ws := fun e => by
  unfold blanks at e
  obtain ⟨v, hv, he⟩ := List.mem_flatMap.1 e
  rcases List.mem_cons.1 he with g | g
  · exact absurd g (by decide)
  · exact h v hv g
/-- A line is read back. -/
theorem read_line {s : List TypeP} (hs : schemaB s = true) {x : TypeP} (hL : LineOk s x) (hx : partB s x = true) : lineP (splitL 32 (kw x.kind ++ blanks (restT x))) = x := by
  rw [split_blanks (kw_clean _ (.inl rfl)) (rest_clean hs hL hx (.inl rfl))]
  have hnm : nameP (kw x.kind :: restT x) = x.name := by
    unfold nameP restT
    rw [if_pos (by simp)]
    show ubR (bL x.name) = x.name
    exact ubR_bL _
  have hargs : argsP (kw x.kind :: restT x) = ((if x.kind = 1 then [bL (decB x.bytes)] else []) ++ (x.fields.map wordT ++ x.members.map bL)).take 10 := rfl
  unfold lineP
  rw [hnm, hargs, List.headD_cons]
  have hrd : ∀ f ∈ x.fields, partP2 (wordT f) = f := fun f hf => read_field (hL.each f hf)
  obtain ⟨h1, h2, ⟨h3, h4⟩, h5, h6, h7, h8⟩ := hL
  have pf := fun h => part_fields hx h
  have pm := fun h => part_members hx h
  have pb := fun h => part_bytes hx h
  obtain ⟨nm, kd, by_, fs, ms⟩ := x
  simp only at h1 h2 h3 h4 h5 h6 h7 h8 hrd pf pm pb ⊢
  rcases h2 with rfl | rfl | rfl
  · rw [pf (by decide), pm (by decide), if_pos rfl]
    show ({ bodyP leafW nm [bL (decB by_)] with kind := kindP leafW } : TypeP) = _
    have e : bodyP leafW nm [bL (decB by_)] = ⟨nm, 0, numR (bL (decB by_)), [], []⟩ := by
      unfold bodyP stepP; simp
    rw [e, num_dec h3 h4]; rfl
  · rw [pm (by decide), pb (by decide), if_neg (by decide), List.nil_append, List.map_nil, List.append_nil, List.take_of_length_le (by rw [List.length_map]; omega)]
    show ({ bodyP objW nm (fs.map wordT) with kind := kindP objW } : TypeP) = _
    unfold bodyP
    rw [fold_obj nm fs [] hrd]; rfl
  · rw [pf (by decide), pb (by decide), if_neg (by decide), List.nil_append, List.map_nil, List.nil_append, List.take_of_length_le (by rw [List.length_map]; omega)]
    show ({ bodyP oneW nm (ms.map bL) with kind := kindP oneW } : TypeP) = _
    unfold bodyP
    rw [fold_one nm ms []]; rfl
theorem split_lines : ∀ {l : List TypeP}, (∀ x ∈ l, (10 : UInt8) ∉ kw x.kind ++ blanks (restT x)) → splitL 10 (bL (linesT l)) = (l.map fun x => kw x.kind ++ blanks (restT x)) ++ [[]]
  | [], _ => rfl
  | x :: l, h => by
    have ih := split_lines (l := l) fun y hy => h y (by simp [hy])
    rw [linesT, bL_append, line_blanks, List.append_assoc, List.singleton_append, splitR_word (h x (by simp)), ih]; rfl
/-- What a right schema's text is read as. -/
theorem read_schema {s : List TypeP} (h : schemaB s = true) : schemaP (bL (schT s)) = s := by
  have hok : ∀ x ∈ s, LineOk s x ∧ partB s x = true := fun x hx => by
    obtain ⟨i, hi⟩ := List.mem_iff_getElem?.1 hx
    exact ⟨line_ok h hi, ((schemaB_parts h).2.2 i x hi).1.2⟩
  have hlen := (schemaB_parts h).1.2
  unfold schT schemaP
  rw [if_pos h, split_lines fun x hx e => ?_, List.dropLast_concat, List.take_of_length_le (by rw [List.length_map]; omega), List.map_map]
  · have : ∀ l : List TypeP, (∀ x ∈ l, x ∈ s) → l.map ((fun l => lineP (splitL 32 l)) ∘ fun x => kw x.kind ++ blanks (restT x)) = l := by
      intro l
      induction l with
      | nil => intro _; rfl
      | cons x l ih =>
        intro hl
        obtain ⟨h1, h2⟩ := hok x (hl x (by simp))
        rw [List.map_cons, ih fun y hy => hl y (by simp [hy])]
        show lineP (splitL 32 (kw x.kind ++ blanks (restT x))) :: l = x :: l
        rw [read_line h h1 h2]
    exact this s fun _ hx => hx
  · obtain ⟨h1, h2⟩ := hok x hx
    rcases List.mem_append.1 e with e | e
    · exact kw_clean _ (.inr rfl) e
    · exact blanks_clean (rest_clean h h1 h2 (.inr rfl)) e
end Go.Proofs.YtceabbbmgfeofaaGreatDoor.Rw
