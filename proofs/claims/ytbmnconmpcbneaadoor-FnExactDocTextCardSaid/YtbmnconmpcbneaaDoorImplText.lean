/-
  Contracts: impl.addSel, impl.addBlock: the words of selections that may be, put behind others; of what was there the words' own block alone may change. Conditions: in memory, a number of words.
-/
import Derived.Test.YtbmnconmpcbneaaDoorRows
import Derived.Test.YtbmnconmpcbneaaDoorToks
import Derived.Test.YtbmnconmpcbneaaDoorOwnStr
import Derived.Test.YtbmnconmpcbneaaDoorFieldWord
namespace Go.Proofs.YtbmnconmpcbneaaDoor.Selss
open Go.RowKit Words Decs Splits
set_option linter.unusedVariables false
set_option maxRecDepth 100000

theorem strV_bl (s : ByteArray) : strV (bl s) = .string s := by simp [strV, bl]
/-- Texts in a new block. -/
theorem new_cells (w : World) (cs : Array Value) (T : TypeId) (ns : List Tok) (e : ns.map strV = cs.toList) (g : Nat) (hg : g = w.heap.size) : ∀ j y, ns[j]? = some y → (w.alloc (.cells cs T)).cell? ⟨g, j, none⟩ = some (strV y) := fun j y hy => by
  subst hg
  have h1 : cs.toList[j]? = some (strV y) := by rw [← e, List.getElem?_map, hy]; rfl
  have h2 : cs[j]? = some (strV y) := by rw [← h1]; simp
  unfold World.cell?
  rw [heap_alloc_new]
  exact h2

/-- The words of one selection. -/
def selToks (k : Int) (key nm : ByteArray) (f : Int) (u : Sels) : List Tok :=
  if k = 3 then [[46, 46, 46] ++ bl nm] else (if k = 2 then [[46, 46, 46, 111, 110], bl nm] else [bl (fieldT key nm f)]) ++ (if u.len = 0 then [] else [123] :: (u.toks ++ [[125]]))
theorem toks_step {i : Nat} {s : Sels} {k : Int} {key nm : ByteArray} {f : Int} {u r : Sels} (h : s.drop i = .cons k key nm f u r) : (s.drop i).toks = selToks k key nm f u ++ (s.drop (i + 1)).toks := by
  rw [Sels.drop_succ i s h, h]; rfl
theorem selToks_len' (k : Int) (key nm : ByteArray) (f : Int) (u : Sels) (h : u.toks.length ≤ 4 * u.all) : (selToks k key nm f u).length ≤ 4 * u.all + 4 := by
  unfold selToks
  split
  · simp
  · split <;> split <;> simp <;> omega
theorem toks_len : ∀ s : Sels, s.toks.length ≤ 4 * s.all
  | .nil => Nat.zero_le _
  | .cons k key nm f u r => by
    have hu := toks_len u
    have hr := toks_len r
    simp only [Sels.toks, Sels.all, List.length_append]
    split
    · simp; omega
    · split <;> split <;> simp <;> omega
/-- What addBlock answers. -/
def BlockIs (base A B : Nat) (a : Option Addr) (cap : Nat) (u : Sels) : Prop :=
  ∀ (w : World) (v : Value) (ws : List Tok), SelsAt w A B a u.len u → base ≤ w.heap.size → Pow base w → OwnS w base v ws → ws.length + 4 * u.all + 2 ≤ 1000000 →
    Calls Tryd.prog 22 #[v, .slice a u.len cap] w fun e w' => (∃ v', e = .returned v' ∧ OwnS w' base v' (ws ++ [123] :: (u.toks ++ [[125]])) ∧ Made v v' w w')

set_option maxHeartbeats 4000000 in
theorem implAddSel (w : World) (base A B : Nat) (hBb : B ≤ base) (hb : base ≤ w.heap.size) (hp : Pow base w) (v : Value) (ws : List Tok) (hown : OwnS w base v ws)
    (k : Int) (key nm : ByteArray) (f : Int) (a : Option Addr) (cap : Nat) (u : Sels) (hs : SelsAt w A B a u.len u) (hok : OkI k ∧ OkS key ∧ OkS nm ∧ OkI f) (hone : oneB k key nm f u.len = true) (hws : ws.length + 4 * u.all + 4 ≤ 1000000) (ih : BlockIs base A B a cap u) :
    Calls Tryd.prog 42 #[v, .agg #[.int .i64 k, .string key, .string nm, .int .i64 f, .slice a u.len cap]] w fun e w' => (∃ v', e = .returned v' ∧ OwnS w' base v' (ws ++ selToks k key nm f u) ∧ Made v v' w w') := by
  have hul := hs.2.1
  have HA : Hid (∀ o, Below w.heap.size w (w.alloc o)) := Lib.hid fun o => (Below.refl _ _).alloc (Nat.le_refl _) o
  have IH := Lib.hid ih
  have HS := Lib.hid hs
  have HP := Lib.hid hp
  have HO := Lib.hid hown
  have hbase := Lib.hid hown.base
  have hf := hok.2.2.2
  clear ih hs hp hown hok
  rcases oneB_cases hone with ⟨rfl, h1, h2, h3, h4⟩ | ⟨rfl, h2, h3⟩ | ⟨rfl, h2, h3⟩
  · clear hone
    have CF : Hid (∀ w' : World, Below w.heap.size w w' → Calls Tryd.prog 62 #[.agg #[.int .i64 1, .string key, .string nm, .int .i64 f, .slice a u.len cap]] w' fun e w'' => e = .returned (.string (fieldT key nm f)) ∧ Below w'.heap.size w' w'') :=
      Lib.hid fun w' h => implFieldWord w' 1 key nm f a u.len cap (by omega) (by omega) hf base (HP.out.over hb h) (Nat.le_trans hb h.size)
    have hsel : Hid (selToks 1 key nm f u = [bl (fieldT key nm f)] ++ (if u.len = 0 then [] else [123] :: (u.toks ++ [[125]]))) := Lib.hid rfl
    generalize fieldT key nm f = ft at *
    go_enter Tryd.func42, Tryd.ntmps42
    go_wp2_with fail
    refine (CF.out _ (HA.out _)).mono ?_
    rintro e w1 ⟨rfl, hb1⟩
    have HB1 := Lib.hid ((HA.out _).trans (hb1.mono (HA.out _).size))
    have k4 := hb1.cell (p := ⟨w.heap.size, 4, none⟩) (by simp)
    simp at k4
    have z1 : w.heap.size < w1.heap.size := by have := hb1.size; simp at this; omega
    have HO1 := Lib.hid (HO.out.below HB1.out)
    clear hb1 CF
    have HK : Hid (∀ (o : Obj) (v' : Value) (w' : World), Made v v' (w1.alloc o) w' → w'.cell? ⟨w.heap.size, 4, none⟩ = some (.slice a u.len cap)) := Lib.hid fun o v' w' h =>
      (h.cell (p := ⟨w.heap.size, 4, none⟩) (by simp; omega) (fun g hg => by have := (hbase.out g hg).2; show g ≠ w.heap.size; omega)).trans ((((Below.refl _ w1).alloc (Nat.le_refl _) o).cell (p := ⟨w.heap.size, 4, none⟩) z1).trans k4)
    have HM : Hid (∀ (o : Obj) (v' : Value) (w' : World), Made v v' (w1.alloc o) w' → Made v v' w w') := Lib.hid fun o v' w' h =>
      ((Made.of_below HB1.out).trans (Made.of_below ((Below.refl _ w1).alloc (Nat.le_refl _) o))).trans h
    by_cases hz : u.len = 0
    · have hzi : (u.len : Int) = 0 := by omega
      have hzb : ((u.len : Int) == 0) = true := by rw [hzi]; rfl
      have hf2 := Lib.hid (show ws ++ [bl ft] = ws ++ selToks 1 key nm f u by rw [hsel.out, if_pos hz]; simp)
      clear hz
      go_wp2_with (at_builtin; refine app_strs rfl _ _ rfl base v ws rfl (HO1.out.alloc _) w1.heap.size 1 [bl ft] rfl (new_cells _ _ _ _ (by simp [strV_bl]) _ rfl) (by simp) (by simp; omega) (by simp; omega) ?_; intro v2 w2 hown2 hm2; have k42 := HK.out _ _ _ hm2)
      go_ret
      exact ⟨v2, rfl, by rw [← hf2.out]; exact hown2, HM.out _ _ _ hm2⟩
    · have hzi : 0 < (u.len : Int) := by omega
      have hzb : ((u.len : Int) == 0) = false := by rw [beq_eq_false_iff_ne]; omega
      have hf2 := Lib.hid (show (ws ++ [bl ft]) ++ [123] :: (u.toks ++ [[125]]) = ws ++ selToks 1 key nm f u by rw [hsel.out, if_neg hz]; simp)
      clear hz
      go_wp2_with (at_builtin; refine app_strs rfl _ _ rfl base v ws rfl (HO1.out.alloc _) w1.heap.size 1 [bl ft] rfl (new_cells _ _ _ _ (by simp [strV_bl]) _ rfl) (by simp) (by simp; omega) (by simp; omega) ?_; intro v2 w2 hown2 hm2; have k42 := HK.out _ _ _ hm2)
      have hm := HM.out _ _ _ hm2
      have hB2 := hm.toBelow (base := base) (fun g hg => (hbase.out g hg).1) hb
      refine (IH.out w2 v2 _ (HS.out.below hBb hB2) (Nat.le_trans hb hB2.size) (HP.out.on hB2) hown2 (by simp; omega)).mono ?_
      rintro e w3 ⟨v3, rfl, hown3, hm3⟩
      have HM3 := Lib.hid (hm.trans hm3)
      have HO3 := Lib.hid hown3
      clear hown3 hm3 hm hm2 hown2 hB2 k42 k4
      go_wp2_with fail
      go_ret
      exact ⟨v3, rfl, by rw [← hf2.out]; exact HO3.out, HM3.out⟩
  · clear hone
    have hsel : Hid (selToks 2 key nm f u = [[46, 46, 46, 111, 110], bl nm] ++ (if u.len = 0 then [] else [123] :: (u.toks ++ [[125]]))) := Lib.hid rfl
    have HM : Hid (∀ (o o2 : Obj) (v' : Value) (w' : World), Made v v' ((w.alloc o).alloc o2) w' → Made v v' w w') := Lib.hid fun o o2 v' w' h =>
      (Made.of_below (((Below.refl _ w).alloc (Nat.le_refl _) o).alloc (by simp) o2)).trans h
    have HK : Hid (∀ (cs : Array Value) (T : TypeId) (o2 : Obj) (v' : Value) (w' : World), cs[4]? = some (.slice a u.len cap) → Made v v' ((w.alloc (.cells cs T)).alloc o2) w' → w'.cell? ⟨w.heap.size, 4, none⟩ = some (.slice a u.len cap)) := Lib.hid fun cs T o2 v' w' hc h =>
      (h.cell (p := ⟨w.heap.size, 4, none⟩) (by simp; omega) (fun g hg => by have := (hbase.out g hg).2; show g ≠ w.heap.size; omega)).trans ((((Below.refl _ (w.alloc (.cells cs T))).alloc (Nat.le_refl _) o2).cell (p := ⟨w.heap.size, 4, none⟩) (by simp)).trans (by unfold World.cell?; rw [heap_alloc_new]; exact hc))
    have hzi : 0 < (u.len : Int) := by omega
    have hzb : ((u.len : Int) == 0) = false := by rw [beq_eq_false_iff_ne]; omega
    have hf2 := Lib.hid (show (ws ++ [[46, 46, 46, 111, 110], bl nm]) ++ [123] :: (u.toks ++ [[125]]) = ws ++ selToks 2 key nm f u by rw [hsel.out, if_neg (by omega)]; simp)
    go_enter Tryd.func42, Tryd.ntmps42
    go_wp2_with (at_builtin; refine app_strs rfl _ _ rfl base v ws rfl ((HO.out.alloc _).alloc _) (w.heap.size + 1) 2 [[46, 46, 46, 111, 110], bl nm] rfl (new_cells _ _ _ _ (by rw [List.map_cons, List.map_cons, strV_bl]; rfl) _ (by simp)) (by simp) (by simp; omega) (by simp; omega) ?_; intro v2 w2 hown2 hm2; have k42 := HK.out _ _ _ _ _ rfl hm2)
    have hm := HM.out _ _ _ _ hm2
    have hB2 := hm.toBelow (base := base) (fun g hg => (hbase.out g hg).1) hb
    refine (IH.out w2 v2 _ (HS.out.below hBb hB2) (Nat.le_trans hb hB2.size) (HP.out.on hB2) hown2 (by simp; omega)).mono ?_
    rintro e w3 ⟨v3, rfl, hown3, hm3⟩
    have HM3 := Lib.hid (hm.trans hm3)
    have HO3 := Lib.hid hown3
    clear hown3 hm3 hm hm2 hown2 hB2 k42
    go_wp2_with fail
    go_ret
    exact ⟨v3, rfl, by rw [← hf2.out]; exact HO3.out, HM3.out⟩
  · clear hone
    have hsel : Hid (selToks 3 key nm f u = [[46, 46, 46] ++ bl nm]) := Lib.hid rfl
    have HM : Hid (∀ (o o2 : Obj) (v' : Value) (w' : World), Made v v' ((w.alloc o).alloc o2) w' → Made v v' w w') := Lib.hid fun o o2 v' w' h =>
      (Made.of_below (((Below.refl _ w).alloc (Nat.le_refl _) o).alloc (by simp) o2)).trans h
    have hst : strV ([46, 46, 46] ++ bl nm) = .string ((⟨#[46, 46, 46]⟩ : ByteArray) ++ nm) := by
      rw [← strV_bl, bl_append]; rfl
    go_enter Tryd.func42, Tryd.ntmps42
    go_wp2_with (at_builtin; refine app_strs rfl _ _ rfl base v ws rfl ((HO.out.alloc _).alloc _) (w.heap.size + 1) 1 [[46, 46, 46] ++ bl nm] rfl (new_cells _ _ _ _ (by rw [List.map_cons, hst]; rfl) _ (by simp)) (by simp) (by simp; omega) (by simp; omega) ?_; intro v2 w2 hown2 hm2)
    go_ret
    exact ⟨v2, rfl, by rw [hsel.out]; exact hown2, HM.out _ _ _ _ hm2⟩

set_option maxHeartbeats 4000000 in
theorem implAddBlock : ∀ (n : Nat) (u : Sels), u.all < n → ∀ (deep : Int), selsB u deep = true → ∀ (base A B : Nat), B ≤ base → ∀ (a : Option Addr) (cap : Nat), BlockIs base A B a cap u := by
  intro n
  induction n with
  | zero => intro s h; omega
  | succ n ih =>
    intro s hall deep hsel base A B hBb a cap w v ws hs hb hp hown hws
    have hlen := hs.2.1
    have IH := Lib.hid ih
    have HS := Lib.hid hs
    have HSEL := Lib.hid hsel
    have HP := Lib.hid hp
    have HO := Lib.hid hown
    have hbase := Lib.hid hown.base
    have hsa := Lib.hid (Sels.len_le_all s)
    clear ih hs hsel hp hown
    have HM : Hid (∀ (o : Obj) (v' : Value) (w' : World), Made v v' (w.alloc o) w' → Made v v' w w') := Lib.hid fun o v' w' h =>
      (Made.of_below ((Below.refl _ w).alloc (Nat.le_refl _) o)).trans h
    go_enter Tryd.func22, Tryd.ntmps22
    go_wp2_with (at_builtin; refine app_strs rfl _ _ rfl base v ws rfl (HO.out.alloc _) w.heap.size 1 [[123]] rfl (new_cells _ _ _ _ (by simp [strV]) _ rfl) (by simp) (by simp; omega) (by simp; omega) ?_; intro v2 w2 hown2 hm2)
    have HM2 := Lib.hid (HM.out _ _ _ hm2)
    have HO2 := Lib.hid hown2
    clear hm2 hown2
    go_loopw [0, 12] (fun x i wr => ∃ (i' : Nat) (pre : List Tok), i' ≤ s.len ∧ i = .int .i64 i' ∧ Hid (pre ++ (s.drop i').toks = ws ++ [123] :: s.toks) ∧ Hid (pre.length + 4 * (s.drop i').all ≤ ws.length + 1 + 4 * s.all) ∧ OwnS wr base x pre ∧ Made v x w wr) (fun _ i _ => s.len - (intOf i).toNat)
    case atStart => exact ⟨0, ws ++ [[123]], by omega, rfl, Lib.hid (by rw [Sels.drop_zero]; simp), Lib.hid (by rw [Sels.drop_zero]; simp), HO2.out, HM2.out⟩
    case round =>
      obtain ⟨i, pre, hi, rfl, hpre, hlp, hown, hmade⟩ := hrel
      have HMR := Lib.hid hmade
      have HOR := Lib.hid hown
      have HBR := Lib.hid (hmade.toBelow (base := base) (fun g hg => (hbase.out g hg).1) hb)
      clear hmade hown
      by_cases hlt : i < s.len
      · have hli : (i : Int) < (s.len : Int) := by omega
        obtain ⟨k, key, nm, f, u, r, b, off, a', cap', hd, rfl, hbb, hok, ⟨hc0, hc1, hc2, hc3, hc4⟩, hu⟩ := (HS.out.below hBb HBR.out).at hlt
        have hua : u.all < n := by have := Sels.all_drop hd; omega
        have hst := Lib.hid (Sels.all_step hd)
        have hts := Lib.hid (toks_step hd)
        have hsd := selsB_drop HSEL.out i
        rw [hd] at hsd
        unfold selsB at hsd
        simp only [Bool.and_eq_true] at hsd
        have HU := Lib.hid hu
        have ihu := Lib.hid (IH.out u hua _ hsd.1.2 base A B hBb a' cap')
        have CA : Hid (∀ w' : World, Below wr.heap.size wr w' → Calls Tryd.prog 42 #[u0, .agg #[.int .i64 k, .string key, .string nm, .int .i64 f, .slice a' u.len cap']] w' fun e w'' => (∃ v', e = .returned v' ∧ OwnS w'' base v' (pre ++ selToks k key nm f u) ∧ Made u0 v' w' w'')) :=
          Lib.hid fun w' h => implAddSel w' base A B hBb (Nat.le_trans (Nat.le_trans hb HBR.out.size) h.size) ((HP.out.on HBR.out).over (Nat.le_trans hb HBR.out.size) h) u0 pre (HOR.out.below h) k key nm f a' cap' u (HU.out.below (Nat.le_trans hBb (Nat.le_trans hb HBR.out.size)) h) hok hsd.1.1.1 (by have e1 := hlp.out; have e2 := hst.out; omega) ihu.out
        have HMX : Hid (∀ (o : Obj) (v' : Value) (w' : World), Made u0 v' (wr.alloc o) w' → Made v v' w w') := Lib.hid fun o v' w' h =>
          HMR.out.trans ((Made.of_below ((Below.refl _ wr).alloc (Nat.le_refl _) o)).trans h)
        have HAX : Hid (∀ o, Below wr.heap.size wr (wr.alloc o)) := Lib.hid fun o => (Below.refl _ _).alloc (Nat.le_refl _) o
        have hslen := Lib.hid (selToks_len' k key nm f u (toks_len u))
        have hrel1 : Hid ((pre ++ selToks k key nm f u) ++ (s.drop (i + 1)).toks = ws ++ [123] :: s.toks) := Lib.hid (by rw [← hpre.out, hts.out]; simp)
        have hrel2 : Hid ((pre ++ selToks k key nm f u).length + 4 * (s.drop (i + 1)).all ≤ ws.length + 1 + 4 * s.all) := Lib.hid (by
          have e1 := hlp.out; have e2 := hst.out; have e3 := hslen.out; rw [List.length_append]; omega)
        clear hlt hd hu hok hsd
        go_wp2_with fail
        refine (CA.out _ (HAX.out _)).mono ?_
        rintro e w3 ⟨v3, rfl, hown3, hm3⟩
        have HM3 := Lib.hid (HMX.out _ _ _ hm3)
        have HO3 := Lib.hid hown3
        clear hown3 hm3
        go_wp2_with fail
        go_roundw
        case rel => exact ⟨i + 1, _, by omega, by go_num, hrel1, hrel2, HO3.out, HM3.out⟩
        case measure => simp [intOf]; omega
      · obtain rfl : i = s.len := by omega
        have hfin : Hid (pre = ws ++ [123] :: s.toks) := Lib.hid (by
          have e1 := hpre.out; rw [Sels.drop_end (Nat.le_refl _)] at e1; simpa [Sels.toks] using e1)
        have hplen : pre.length ≤ 1000000 := by have e1 := hlp.out; omega
        have HMX : Hid (∀ (o : Obj) (v' : Value) (w' : World), Made u0 v' (wr.alloc o) w' → Made v v' w w') := Lib.hid fun o v' w' h =>
          HMR.out.trans ((Made.of_below ((Below.refl _ wr).alloc (Nat.le_refl _) o)).trans h)
        have hbr := Nat.le_trans hb HBR.out.size
        clear hlt
        go_wp2_with (at_builtin; refine app_strs rfl _ _ rfl base u0 pre rfl (HOR.out.alloc _) wr.heap.size 1 [[125]] rfl (new_cells _ _ _ _ (by simp [strV]) _ rfl) (by simp) (by simp; omega) (by simp; omega) ?_; intro v4 w4 hown4 hm4)
        go_ret
        exact ⟨v4, rfl, by rw [show ws ++ [123] :: (s.toks ++ [[125]]) = pre ++ [[125]] by rw [hfin.out]; simp]; exact hown4, HMX.out _ _ _ hm4⟩
end Go.Proofs.YtbmnconmpcbneaaDoor.Selss
