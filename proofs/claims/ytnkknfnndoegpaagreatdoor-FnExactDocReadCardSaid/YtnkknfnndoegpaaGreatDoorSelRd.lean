/-
  Contracts: the program's reader of one selection, if its reader of braces reads; of what was there its own place alone is changed. Conditions: as each theorem says.
-/
import Derived.Test.YtnkknfnndoegpaaGreatDoorRows
import Derived.Test.YtnkknfnndoegpaaGreatDoorSelOf
import Derived.Test.YtnkknfnndoegpaaGreatDoorRdr
import Derived.Test.YtnkknfnndoegpaaGreatDoorImplCount
namespace Go.Proofs.YtnkknfnndoegpaaGreatDoor.Selss
open Go.RowKit Words Decs Splits
set_option linter.unusedVariables false
set_option maxRecDepth 100000
/-- What selOf answers. -/
noncomputable def selOfP (t : Tok) : Int × ByteArray × ByteArray × Int :=
  if t.take 3 = [46, 46, 46] then (if t.drop 3 = [111, 110] then (2, ByteArray.empty, ByteArray.empty, -1) else (3, ByteArray.empty, ub (t.drop 3), -1)) else fSel t
theorem prefix3 (t : Tok) : Lib.hasPrefix t [46, 46, 46] = decide (t.take 3 = [46, 46, 46]) := by
  unfold Lib.hasPrefix
  by_cases h : t.take 3 = [46, 46, 46]
  · rw [decide_eq_true h, List.isPrefixOf_iff_prefix, ← h]; exact List.take_prefix 3 t
  · rw [decide_eq_false h]
    cases hp : List.isPrefixOf [46, 46, 46] t with
    | false => rfl
    | true =>
      exfalso
      obtain ⟨r, rfl⟩ := List.isPrefixOf_iff_prefix.1 hp
      exact h (by simp)
set_option maxHeartbeats 2000000 in
theorem implSelOf (t : ByteArray) (ht : t.size ≤ 8000) (w : World) (B : Nat) (hv : Vars B w) (hB : B ≤ w.heap.size) :
    Calls Tryz.prog 71 #[.string t] w fun e w' => e = .returned (selV (selOfP (bl t))) ∧ Below w.heap.size w w' := by
  have CP : Hid (∀ w' : World, Calls Tryz.prog 81 #[.string t, .string ⟨#[46, 46, 46]⟩] w' fun e w'' => e = .returned (.tuple #[.string (ub (Lib.trimPrefix (bl t) [46, 46, 46])), .bool (decide ((bl t).take 3 = [46, 46, 46]))]) ∧ w' = w'') := Lib.hid fun w' => by
    refine (Tryz.strings_CutPrefix t ⟨#[46, 46, 46]⟩ w').mono ?_
    rintro e w'' ⟨rfl, rfl⟩
    exact ⟨by rw [← prefix3]; rfl, rfl⟩
  have CF : Hid (∀ w' : World, Below w.heap.size w w' → Calls Tryz.prog 82 #[.string t] w' fun e w'' => e = .returned (selV (fSel (bl t))) ∧ Below w'.heap.size w' w'') := Lib.hid fun w' h => implFieldSel t ht w' B (hv.over hB h) (Nat.le_trans hB h.size)
  have HA : Hid (∀ o, Below w.heap.size w (w.alloc o)) := Lib.hid fun o => (Below.refl _ _).alloc (Nat.le_refl _) o
  have hk0 : Hid ((w.alloc (.cells #[.int .i64 0, .string ⟨#[]⟩, .string ⟨#[]⟩, .int .i64 0, .slice none 0 0] 50)).heap[w.heap.size]? = some (.cells #[.int .i64 0, .string ⟨#[]⟩, .string ⟨#[]⟩, .int .i64 0, .slice none 0 0] 50 (0, 0))) := Lib.hid (heap_alloc_new w _)
  clear hv hB
  by_cases h3 : (bl t).take 3 = [46, 46, 46]
  · rw [decide_eq_true h3] at CP
    have htp : Lib.trimPrefix (bl t) [46, 46, 46] = (bl t).drop 3 := by unfold Lib.trimPrefix; rw [prefix3, decide_eq_true h3]; rfl
    rw [htp] at CP
    by_cases hon : (bl t).drop 3 = [111, 110]
    · have hres : Hid (selOfP (bl t) = (2, ByteArray.empty, ByteArray.empty, -1)) := Lib.hid (by unfold selOfP; rw [if_pos h3, if_pos hon])
      rw [hon] at CP
      have e1 : (ub [111, 110]).toList = [111, 110] := by rw [Lib.toList_data]; rfl
      clear h3 htp hon
      go_enter Tryz.func71, Tryz.ntmps71
      go_wp2_with (go_at_call 81; refine (CP.out _).mono ?_; rintro e w' ⟨rfl, rfl⟩)
      exact bodyPost_ret (v := .agg #[.int .i64 2, .string ⟨#[]⟩, .string ⟨#[]⟩, .int .i64 (-1), .slice none 0 0]) (by simp [results, Tryz.results71, go_sem]) rfl ⟨ret_v (by rw [hres.out]; rfl), HA.out _⟩
    · have hres : Hid (selOfP (bl t) = (3, ByteArray.empty, ub ((bl t).drop 3), -1)) := Lib.hid (by unfold selOfP; rw [if_pos h3, if_neg hon])
      have e1 : (ub ((bl t).drop 3)).toList ≠ [111, 110] := by rw [Lib.toList_data]; intro e; exact hon (by rw [← bl_ub ((bl t).drop 3)]; exact e)
      have e2 : ((ub ((bl t).drop 3)).toList == [111, 110]) = false := beq_eq_false_iff_ne.2 e1
      generalize ub ((bl t).drop 3) = nm at *
      clear h3 htp hon
      go_enter Tryz.func71, Tryz.ntmps71
      go_wp2_with (go_at_call 81; refine (CP.out _).mono ?_; rintro e w' ⟨rfl, rfl⟩)
      exact bodyPost_ret (v := .agg #[.int .i64 3, .string ⟨#[]⟩, .string nm, .int .i64 (-1), .slice none 0 0]) (by simp [results, Tryz.results71, go_sem]) rfl ⟨ret_v (by rw [hres.out]; rfl), HA.out _⟩
  · rw [decide_eq_false h3] at CP
    have hres : Hid (selOfP (bl t) = fSel (bl t)) := Lib.hid (by unfold selOfP; rw [if_neg h3])
    generalize fSel (bl t) = r at *
    obtain ⟨k, key, nm, f⟩ := r
    simp only [selV] at CF
    clear h3
    go_enter Tryz.func71, Tryz.ntmps71
    go_wp2_with (go_at_call 81; refine (CP.out _).mono ?_; rintro e w' ⟨rfl, rfl⟩)
    refine (CF.out _ (HA.out _)).mono ?_
    rintro e w1 ⟨rfl, hb1⟩
    have hk1 := (hb1.block w.heap.size (by simp)).trans hk0.out
    have HB1 := Lib.hid ((HA.out _).trans (hb1.mono (HA.out _).size))
    have ⟨⟨e0, e1, e2, e3, e4⟩, p0, p1, p2, p3, p4⟩ := keep5 hk1
    have HFX := Lib.hid (set5_block hk1 (.int .i64 k) (.string key) (.string nm) (.int .i64 f) (.slice none 0 0))
    have HBF := Lib.hid (set5_below HB1.out (g := w.heap.size) (Nat.le_refl _) (.int .i64 k) (.string key) (.string nm) (.int .i64 f) (.slice none 0 0))
    clear hb1 hk1
    go_wp2_with fail
    change bodyPost _ _ _ _ _ (set5 w1 w.heap.size (.int .i64 k) (.string key) (.string nm) (.int .i64 f) (.slice none 0 0))
    generalize set5 w1 w.heap.size (.int .i64 k) (.string key) (.string nm) (.int .i64 f) (.slice none 0 0) = WF at *
    have ⟨⟨f0, f1, f2, f3, f4⟩, _⟩ := keep5 HFX.out
    exact bodyPost_ret (v := .agg #[.int .i64 k, .string key, .string nm, .int .i64 f, .slice none 0 0]) (by simp [results, Tryz.results71, go_sem, f0, f1, f2, f3, f4]) rfl ⟨ret_v (by rw [hres.out]; rfl), HBF.out⟩
/-- The program's reader of braces, where less than n words are ahead. -/
def BlockOk (n : Nat) : Prop := ∀ (w : World) (p cap k : Nat) (a : Option Addr) (W : List Tok), W.length - k < n → RdI w p a cap W k → k ≤ W.length → Vars p w →
  Calls Tryz.prog 42 #[.pointer (some ⟨p, 0, none⟩)] w fun e w' => ∃ v err k', e = .returned (.tuple #[v, err]) ∧ OnlyP p w w' ∧ k ≤ k' ∧ k' ≤ W.length ∧ RdI w' p a cap W k' ∧
    ((err = .nilIface ∧ ∃ s a' cap', v = .slice a' s.len cap' ∧ SelsX w' w.heap.size w'.heap.size a' s.len s ∧ word (W.drop k) = [123] ∧ Reads s ((W.drop k).drop 1) (W.drop k') ∧ k < k') ∨
     (err = (.iface 60 (.agg #[.int .i64 3])) ∧ v = .slice none 0 0 ∧ ¬ ∃ s W', word (W.drop k) = [123] ∧ Reads s ((W.drop k).drop 1) W'))
/-- Its reader of one selection. -/
def SelOk (n : Nat) : Prop := ∀ (w : World) (p cap k : Nat) (a : Option Addr) (W : List Tok), W.length - k < n → RdI w p a cap W k → k ≤ W.length → Vars p w →
  Calls Tryz.prog 59 #[.pointer (some ⟨p, 0, none⟩)] w fun e w' => ∃ kd key nm f a' cap' u err k', e = .returned (.tuple #[.agg #[.int .i64 kd, .string key, .string nm, .int .i64 f, .slice a' u.len cap'], err]) ∧ OnlyP p w w' ∧ k ≤ k' ∧ k' ≤ W.length ∧ RdI w' p a cap W k' ∧
    ((err = .nilIface ∧ SelsX w' w.heap.size w'.heap.size a' u.len u ∧ (OkI kd ∧ OkS key ∧ OkS nm ∧ OkI f) ∧ ReadsOne kd key nm f u (W.drop k) (W.drop k') ∧ k < k') ∨
     (err = (.iface 60 (.agg #[.int .i64 3])) ∧ ¬ ∃ kd key nm f u W1, ReadsOne kd key nm f u (W.drop k) W1))
theorem noOne_head {X : List Tok} (h : headF X = none) : ¬ ∃ kd key nm f u W1, ReadsOne kd key nm f u X W1 := by
  rintro ⟨kd, key, nm, f, u, W1, W0, h1, _⟩
  rw [h] at h1; cases h1
theorem noOne_block {X W0 : List Tok} {kd : Int} {key nm : ByteArray} {f : Int} (h : headF X = some (kd, key, nm, f, W0)) (hk : kd ≠ 3) (hw : word W0 = [123]) (hn : ¬ ∃ s W', word W0 = [123] ∧ Reads s (W0.drop 1) W') : ¬ ∃ kd key nm f u W1, ReadsOne kd key nm f u X W1 := by
  rintro ⟨kd', key', nm', f', u, W1, V0, h1, h2⟩
  rw [h] at h1; cases h1
  rcases h2 with ⟨_, _, g2, g3⟩ | ⟨_, g2, g3⟩
  · rcases headF_kind h with e | e | e
    · exact g3 e hw
    · exact g2 e
    · exact hk e
  · exact hn ⟨u, W1, g2, g3⟩
theorem noOne_on {X W0 : List Tok} {key nm : ByteArray} {f : Int} (h : headF X = some (2, key, nm, f, W0)) (hw : word W0 ≠ [123]) : ¬ ∃ kd key nm f u W1, ReadsOne kd key nm f u X W1 := by
  rintro ⟨kd', key', nm', f', u, W1, V0, h1, h2⟩
  rw [h] at h1; cases h1
  rcases h2 with ⟨_, _, g2, _⟩ | ⟨_, g2, _⟩
  · exact g2 rfl
  · exact hw g2
theorem Rd.set5 {T : TypeId} {w : World} {p cap k g : Nat} {a : Option Addr} {W : List Tok} (h : Rd T w p a cap W k) (hg : p < g) (v0 v1 v2 v3 v4 : Value) : Rd T (set5 w g v0 v1 v2 v3 v4) p a cap W k :=
  h.below (B := p + 1) (Nat.lt_succ_self _) (set5_below (Below.refl _ _) hg v0 v1 v2 v3 v4)
theorem OnlyP.set5 {p g : Nat} {w w' : World} (h : OnlyP p w w') (hg : w.heap.size ≤ g) (v0 v1 v2 v3 v4 : Value) : OnlyP p w (set5 w' g v0 v1 v2 v3 v4) :=
  h.below (Nat.le_refl _) (set5_below (Below.refl _ _) hg v0 v1 v2 v3 v4)
theorem OnlyP.put {p g j : Nat} {w w' : World} (h : OnlyP p w w') (hg : w.heap.size ≤ g) (v : Value) : OnlyP p w (w'.setCell ⟨g, j, none⟩ v) :=
  h.below (Nat.le_refl _) ((Below.refl _ _).setCell (p := ⟨g, j, none⟩) hg v)
theorem Rd.put {T : TypeId} {w : World} {p cap k g j : Nat} {a : Option Addr} {W : List Tok} (h : Rd T w p a cap W k) (hg : p < g) (v : Value) : Rd T (w.setCell ⟨g, j, none⟩ v) p a cap W k :=
  h.below (B := p + 1) (Nat.lt_succ_self _) ((Below.refl _ _).setCell (p := ⟨g, j, none⟩) hg v)
theorem SelsX.set5 {w : World} {A B len g : Nat} {a : Option Addr} {s : Sels} (h : SelsX w A B a len s) (hg : g < A) (v0 v1 v2 v3 v4 : Value) : SelsX (set5 w g v0 v1 v2 v3 v4) A B a len s :=
  h.block fun c c1 _ => by
    have := (set5_below (Below.refl g w) (Nat.le_refl g) v0 v1 v2 v3 v4)
    unfold Selss.set5
    repeat rw [Go.Deep.blk_setCell_other _ ⟨g, _, none⟩ _ c (by show c ≠ g; omega)]
/-- The words at hand, by what the first of them begins. -/
theorem sel_cases (X : List Tok) :
    (∃ Y, X = [46, 46, 46, 111, 110] :: Y ∧ selOfP (word X) = (2, ByteArray.empty, ByteArray.empty, -1)) ∨
    (∃ nm, selOfP (word X) = (3, ByteArray.empty, nm, -1) ∧ X ≠ [] ∧ headF X = if wordB nm = true then some (3, ByteArray.empty, nm, -1, X.drop 1) else none) ∨
    (∃ key nm f, selOfP (word X) = (1, key, nm, f) ∧ OkI f ∧ key.size ≤ 8000 + (word X).length ∧ nm.size ≤ 8000 + (word X).length ∧ (oneB 1 key nm f 0 = true → X ≠ [] ∧ headF X = some (1, key, nm, f, X.drop 1)) ∧ (oneB 1 key nm f 0 = false → headF X = none)) ∨
    (selOfP (word X) = (0, ByteArray.empty, ByteArray.empty, 0) ∧ headF X = none) := by
  by_cases h3 : (word X).take 3 = [46, 46, 46]
  · have hne : X ≠ [] := fun e => by rw [e] at h3; cases h3
    obtain ⟨t, Y, rfl⟩ : ∃ t Y, X = t :: Y := by cases X with
      | nil => exact absurd rfl hne
      | cons t Y => exact ⟨t, Y, rfl⟩
    have h3' : t.take 3 = [46, 46, 46] := h3
    by_cases hon : t.drop 3 = [111, 110]
    · refine .inl ⟨Y, ?_, by unfold selOfP; rw [if_pos h3, if_pos (show (word (t :: Y)).drop 3 = [111, 110] from hon)]⟩
      have := List.take_append_drop 3 t
      rw [h3', hon] at this
      rw [← this]; rfl
    · refine .inr (.inl ⟨ub (t.drop 3), by unfold selOfP; rw [if_pos h3, if_neg (show ¬ (word (t :: Y)).drop 3 = [111, 110] from hon)]; rfl, hne, ?_⟩)
      rw [headF_cons, if_neg (fun e => hon (by rw [e]; rfl)), if_pos h3']; rfl
  · have hs : selOfP (word X) = fSel (word X) := by unfold selOfP; rw [if_neg h3]
    rw [hs]
    unfold fSel
    by_cases hf : bl (fieldT (ub (fCand (word X)).1) (ub (fCand (word X)).2.1) (fCand (word X)).2.2) = word X
    · rw [if_pos hf]
      have hl := fCand_len (word X)
      refine .inr (.inr (.inl ⟨_, _, _, rfl, fCand_int _, by rw [ub_size']; omega, by rw [ub_size']; omega, fun h1 => ?_, fun h1 => ?_⟩))
      · cases X with
        | nil =>
          exfalso
          have : wordB (ub (fCand (word [])).1) = true := by rw [oneB_1] at h1; simp only [Bool.and_eq_true] at h1; exact h1.1
          have := ofB_pos (wordB_of this).1
          rw [ub_size'] at this
          simp only [word, List.headD_nil, List.length_nil] at hl this; omega
        | cons t Y =>
          refine ⟨by simp, ?_⟩
          rw [headF_cons, if_neg (fun e => h3 (by show t.take 3 = _; rw [e]; rfl)), if_neg (show ¬ t.take 3 = [46, 46, 46] from h3), if_pos ⟨hf, h1⟩]; rfl
      · cases X with
        | nil => rfl
        | cons t Y => rw [headF_cons, if_neg (fun e => h3 (by show t.take 3 = _; rw [e]; rfl)), if_neg (show ¬ t.take 3 = [46, 46, 46] from h3), if_neg (fun e => by rw [show fCand (word (t :: Y)) = fCand t from rfl] at h1; rw [h1] at e; cases e.2)]
    · rw [if_neg hf]
      refine .inr (.inr (.inr ⟨rfl, ?_⟩))
      cases X with
      | nil => rfl
      | cons t Y => rw [headF_cons, if_neg (fun e => h3 (by show t.take 3 = _; rw [e]; rfl)), if_neg (show ¬ t.take 3 = [46, 46, 46] from h3), if_neg (fun e => hf e.1)]
theorem oneB_len1 (key nm : ByteArray) (f : Int) (n : Nat) : oneB 1 key nm f n = oneB 1 key nm f 0 := by rw [oneB_1, oneB_1]
end Go.Proofs.YtnkknfnndoegpaaGreatDoor.Selss
