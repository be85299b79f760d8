/-
  Contract: impl.wrongOf tells what is wrong first of what a Doc asks of a Schema; of what was there nothing is changed. Conditions: in memory.
-/
import Derived.Test.YtceabbbmgfeofaaGreatDoorRows
import Derived.Test.YtceabbbmgfeofaaGreatDoorClashI
import Derived.Test.YtceabbbmgfeofaaGreatDoorValR
import Derived.Test.YtceabbbmgfeofaaGreatDoorValK
import Derived.Test.YtceabbbmgfeofaaGreatDoorValH
import Derived.Deep.RegionWith
import Derived.Deep.CutRange
namespace Go.Proofs.YtceabbbmgfeofaaGreatDoor.Selss
open Go.RowKit Words
set_option linter.unusedVariables false
set_option maxRecDepth 100000
theorem good_of_sels : ∀ {s : Sels} {n : Int}, selsB s n = true → GoodS s
  | .nil, _, _ => trivial
  | .cons k key nm f u r, n, h => by
    simp only [selsB, Bool.and_eq_true] at h
    refine ⟨fun hk => ?_, good_of_sels h.1.2, good_of_sels h.2⟩
    subst hk
    have h1 := h.1.1.1
    rw [oneB_1, Bool.and_eq_true] at h1
    exact ⟨word_ne h1.1, wordB_size h1.1⟩
theorem fragsB_good {l : List FragP} : ∀ {m : List FragP} {i : Nat}, fragsB l m i = true → ∀ x, x ∈ m → GoodS x.sels
  | [], _, _, x, hx => by simp at hx
  | y :: m, i, h, x, hx => by
    unfold fragsB at h
    rw [Bool.and_eq_true] at h
    rcases List.mem_cons.1 hx with rfl | hx
    · have h1 := h.1
      unfold fragB at h1
      rw [Bool.and_eq_true] at h1
      exact good_of_sels h1.2
    · exact fragsB_good h.2 x hx
theorem docB_good {d : DocP} (h : docB d = true) : GoodS d.sels ∧ ∀ x, x ∈ d.frags → GoodS x.sels := by
  unfold docB at h
  rw [Bool.and_eq_true, Bool.and_eq_true] at h
  exact ⟨good_of_sels h.1.2, fragsB_good h.2⟩
theorem implClashM {fr : List FragP} (hn : NoLoop fr) (hgf : ∀ x, x ∈ fr → GoodS x.sels) : ∀ (m : Nat) (s : Sels), DeepL fr m (opens fr s) → full fr s ≤ 100000000000 → GoodS s → ClashIOk fr s (clashM fr m (opens fr s))
  | 0, s, hd, hf, hg => by
    have h0 : opens fr s = [] := hd
    have := implClashStep hn s hf (good_opens hgf hg) (fun _ => ⟨#[]⟩) (fun key L _ _ hk => by rw [h0] at hk; simp at hk)
    rw [h0] at this ⊢
    exact this
  | m + 1, s, hd, hf, hg => by
    rw [clashM_succ]
    refine implClashStep hn s hf (good_opens hgf hg) _ fun key L hsame hsum hk => ?_
    have hd' : DeepL fr (m + 1) L := DeepL.of_mem (fun x hx => hsame.mem.1 hx) hd
    have h1 := implClashM hn hgf m (subK key L) (deep_sub hd' key) (Nat.le_trans (sumF_sub hn key L) hsum) (good_subK fun x hx => good_opens hgf hg x (hsame.mem.1 hx))
    rw [clash_same fr m (same_sub hsame key)] at h1
    exact h1
end Go.Proofs.YtceabbbmgfeofaaGreatDoor.Selss
namespace Go.Proofs.YtceabbbmgfeofaaGreatDoor.Selss
open Go.RowKit Words Go.Maps
set_option linter.unusedVariables false
set_option maxRecDepth 100000
/-- What wrongOf tells: a fault of form, of what isn't right; else what is wrong first. -/
def WOut (s : List Rw.TypeP) (d : DocP) (v : Value) : Prop := ((Rw.schemaB s && docB d) = false ∧ v = .iface 147 (.agg #[.int .i64 1])) ∨ ((Rw.schemaB s && docB d) = true ∧ VOut (rightW s d) v ∧ ∀ y, rightW s d = some y → v = .nilIface ∨ y.1.size ≤ 8)
theorem fragsAt_at {w : World} {A B : Nat} {a : Option Addr} {l : List FragP} (h : FragsAt w A B a l.length l) {i : Nat} (hi : i < l.length) : ∃ x, l[i]? = some x := ⟨l[i], List.getElem?_eq_getElem hi⟩
set_option maxHeartbeats 8000000 in
theorem implWrongOf (w : World) (B : Nat) (v dv : Value) (s : List Rw.TypeP) (d : DocP) (hv : Rw.SchemaAt w 0 B v s) (hd : DocAt w 0 B dv d) (hB : B ≤ w.heap.size) :
    Calls Tryz.prog 36 #[v, dv] w fun e w' => (∃ x, e = .returned x ∧ WOut s d x) ∧ Below w.heap.size w w' := by
  have HA : Hid (∀ o1 o2, Below w.heap.size w ((w.alloc o1).alloc o2)) := Lib.hid fun o1 o2 => ((Below.refl _ _).alloc (Nat.le_refl _) o1).alloc (by simp) o2
  have CK : Hid (∀ w', Below w.heap.size w w' → Calls Tryz.prog 41 #[v] w' fun e w'' => Rw.KindsOut 0 B s e w'' ∧ Below w'.heap.size w' w'') := Lib.hid fun w' h => Rw.implKindsOf w' 0 B v s (hv.below hB h) (Nat.le_trans hB h.size)
  have CL : Hid (∀ w', Below w.heap.size w w' → Calls Tryz.prog 37 #[dv] w' fun e w'' => (∃ v', e = .returned v' ∧ LoopOut d v') ∧ Below w'.heap.size w' w'') := Lib.hid fun w' h => implLoopOf w' 0 B dv d (hd.below hB h) (Nat.le_trans hB h.size)
  have CB : Hid (Rw.schemaB s = true → ∀ (l : Sels) (w' : World) (a : Option Addr) (cap : Nat) (i t : ByteArray) (b n' : Nat) (D : DataW Value) (fa : Option Addr) (fc : Nat), GoodV l → OkS t → SelsAt w' 0 B a l.len l → Chk w' B s d.frags b n' D fa → Below w.heap.size w w' →
      Calls Tryz.prog 83 #[.agg #[.map (some b), .slice fa d.frags.length fc], .string i, .slice a l.len cap, .string t] w' fun e w'' => (∃ v, e = .returned v ∧ VOut (blockW s d.frags l t) v) ∧ Below w'.heap.size w' w'') := Lib.hid fun hs l w' a cap i t b n' D fa fc hg ht hl hc h =>
    implVBlock s d.frags hs b n' D fa fc (l.all + 1) l (Nat.lt_succ_self _) hg w' B a cap i t ht hl hc (Nat.le_trans hB h.size)
  have CC : Hid (docB d = true → NoLoop d.frags → ∀ (w' : World) (fa : Option Addr) (fc : Nat) (a : Option Addr) (cap : Nat), FragsAt w' 0 B fa d.frags.length d.frags → SelsAt w' 0 B a d.sels.len d.sels → Below w.heap.size w w' →
      Calls Tryz.prog 38 #[.slice fa d.frags.length fc, .slice a d.sels.len cap] w' fun e w'' => (∃ v, e = .returned v ∧ ErrOut (clashD d) v) ∧ Below w'.heap.size w' w'') := Lib.hid fun hdb hno w' fa fc a cap hf hl h => by
    obtain ⟨m, hdeep, hres⟩ := clashD_yes ⟨hdb, hno⟩
    obtain ⟨hp1, hp2, hp3⟩ := docB_parts hdb
    obtain ⟨hg1, hg2⟩ := docB_good hdb
    rw [hres]
    exact implClashM hno hg2 m d.sels hdeep (full_few hno hp2 hp3 hp1) hg1 w' B fa fc a cap hf hl (Nat.le_trans hB h.size)
  have HV := Lib.hid hv
  obtain ⟨ta, tca, rfl, _, _⟩ := hv
  obtain ⟨da, dca, db, dcb, rfl, hds, hdf, _⟩ := hd
  have HDS := Lib.hid hds
  have HDF := Lib.hid hdf
  have hfl := hdf.2.1
  clear hds hdf
  go_enter Tryz.func36, Tryz.ntmps36
  go_wp2_with fail
  refine (CK.out _ (HA.out _ _)).mono ?_
  rintro e w1 ⟨ho, hb1⟩
  have HB1 := Lib.hid ((HA.out _ _).trans (hb1.mono (HA.out _ _).size))
  obtain ⟨hk1, hs1⟩ := Rw.kept2z hb1
  have HK1 := Lib.hid hk1
  have HS1 := Lib.hid hs1
  have ⟨c0, _⟩ := Rw.keep1 hk1
  have ⟨⟨d0, d1⟩, _⟩ := Rw.keep2 hs1
  clear hb1 hk1 hs1
  rcases ho with ⟨hkb, b, n', D, rfl, hkd, hown⟩ | ⟨hkb, rfl⟩
  · rw [Rw.kindsB_eq] at hkb
    have HKB := Lib.hid hkb
    have HC1 : Hid (Chk w1 B s d.frags b n' D db) := Lib.hid ⟨hkd, hown, HDF.out.below hB HB1.out⟩
    clear hkb hkd hown
    go_wp2_with fail
    refine (CL.out _ HB1.out).mono ?_
    rintro e w2 ⟨⟨v2, rfl, ho⟩, hb2⟩
    have HB2 := Lib.hid (HB1.out.trans (hb2.mono HB1.out.size))
    have HK2 := Lib.hid ((hb2.block _ (Rw.lt_of_get HK1.out)).trans HK1.out)
    have HS2 := Lib.hid ((hb2.block _ (Rw.lt_of_get HS1.out)).trans HS1.out)
    have HC2 := Lib.hid (HC1.out.next (Nat.le_trans hB HB1.out.size) hb2)
    clear hb2 c0 d0 d1
    have ⟨c0, _⟩ := Rw.keep1 HK2.out
    have ⟨⟨d0, d1⟩, _⟩ := Rw.keep2 HS2.out
    rcases ho with ⟨hdb, rfl⟩ | ⟨hdb, ⟨x, hx, hn, hok, h8, rfl⟩ | ⟨hn, he, rfl⟩⟩
    · have HF : Hid ((Rw.schemaB s && docB d) = false) := Lib.hid (by rw [hdb]; simp)
      have y1 := neqV
      clear hdb
      go_wp2_with fail
      go_ret
      exact ⟨⟨_, rfl, .inl ⟨HF.out, rfl⟩⟩, HB2.out⟩
    · have HF : Hid (WOut s d (.iface 137 (.string x.name))) := Lib.hid (.inr ⟨by rw [HKB.out, hdb]; rfl, .inr ⟨.leaf (.there x.name), (x.name, 7), rfl, by
        unfold rightW loopW; rw [hn, if_neg (word_ne (docB_name hdb hx))]; rfl, .inr (.inl ⟨rfl, rfl⟩)⟩, fun y hy => .inr (by
        unfold rightW loopW at hy; rw [hn, if_neg (word_ne (docB_name hdb hx))] at hy
        cases hy; exact h8)⟩)
      have y1 := neqV
      clear hdb hn hok h8 hx
      generalize x.name = xn at *
      go_wp2_with fail
      go_ret
      exact ⟨⟨_, rfl, HF.out⟩, HB2.out⟩
    · have HNO : Hid (NoLoop d.frags) := Lib.hid hn
      have HDB := Lib.hid hdb
      have HRW : Hid (rightW s d = restW s d) := Lib.hid (by unfold rightW loopW; rw [he, if_pos rfl]; rfl)
      obtain ⟨hgd, hgf⟩ := docB_goodV hdb
      have HGD := Lib.hid hgd
      have HGF := Lib.hid hgf
      obtain ⟨hhc, hh8⟩ := head_comp HKB.out
      obtain ⟨⟨hl1, _⟩, _, _⟩ := Rw.schemaB_parts HKB.out
      obtain ⟨tb, toff, tca', hva, htb, hh0, hhok, _, _⟩ := head_at HV.out hl1
      simp at hva
      obtain ⟨rfl, rfl⟩ := hva
      have HHOK := Lib.hid hhok
      have htw : tb < w.heap.size := by omega
      have hh2 := (HB2.out.cell (p := ⟨tb, toff, none⟩) htw).trans hh0
      have hli : (0 : Int) < (s.length : Int) := by omega
      clear HV
      generalize s.length = sn at *
      have hpos : 0 < sn := by omega
      have HB3 : Hid (∀ o, Below w.heap.size w (w2.alloc o)) := Lib.hid fun o => HB2.out.alloc HB2.out.size o
      have HC3 : Hid (∀ o, Chk (w2.alloc o) B s d.frags b n' D db) := Lib.hid fun o => HC2.out.next (Nat.le_trans hB HB2.out.size) ((Below.refl _ _).alloc (Nat.le_refl _) o)
      have HBW : Hid (blockW s d.frags d.sels (headN s) = selsW s d.frags d.sels (headN s)) := Lib.hid (blockW_yes hhc)
      have C1 : Hid (∀ o, Calls Tryz.prog 83 #[.agg #[.map (some b), .slice db d.frags.length dcb], .string ⟨#[116, 104, 101, 32, 113, 117, 101, 115, 116, 105, 111, 110]⟩, .slice da d.sels.len dca, .string (headN s)] (w2.alloc o).drew fun e w'' => (∃ v, e = .returned v ∧ VOut (selsW s d.frags d.sels (headN s)) v) ∧ Below (w2.alloc o).drew.heap.size (w2.alloc o).drew w'') := Lib.hid fun o => by
        rw [← HBW.out]
        exact CB.out HKB.out d.sels _ da dca _ (headN s) b n' D db dcb HGD.out HHOK.out (HDS.out.below hB (HB3.out o).drew) ((HC3.out o).next (Nat.le_trans hB (HB3.out o).size) (Below.refl _ _).drew) (HB3.out o).drew
      have HFEW := Lib.hid (selsW_few s d.frags d.sels (headN s) HGD.out)
      have HREST := Lib.hid (show restW s d = WrP.or (selsW s d.frags d.sels (headN s)) (WrP.or (fragsW s d.frags d.frags) (clashW d)) from rfl)
      clear hdb hn he hgd hgf hhc hh8 hl1 hh0 hhok
      generalize selsW s d.frags d.sels (headN s) = sw at *
      generalize headN s = hn at *
      obtain ⟨a0, a1⟩ := blk2 HK2.out (.cells #[.map (some b), .slice db d.frags.length dcb] 150) (.cells #[.map (some b), .slice db d.frags.length dcb] 150)
      obtain ⟨b0, b1⟩ := blk2 HS2.out (.cells #[.map (some b), .slice db d.frags.length dcb] 150) (.cells #[.map (some b), .slice db d.frags.length dcb] 150)
      have hck := heap_alloc_new w2 (.cells #[.map (some b), .slice db d.frags.length dcb] 150)
      have hh3 := ((HB3.out (.cells #[.map (some b), .slice db d.frags.length dcb] 150)).cell (p := ⟨tb, toff, none⟩) htw).trans ((HB2.out.cell (p := ⟨tb, toff, none⟩) htw).symm.trans hh2)
      have HK3 := Lib.hid a0
      have HS3 := Lib.hid b0
      have HCK3 := Lib.hid hck
      have hz2 : w.heap.size + 1 < w2.heap.size := Rw.lt_of_get HS2.out
      obtain ⟨w3, hw3⟩ : ∃ w3, w2.alloc (.cells #[.map (some b), .slice db d.frags.length dcb] 150) = w3 := ⟨_, rfl⟩
      have ⟨f0, _⟩ : w3.drew.cell? ⟨w.heap.size, 0, none⟩ = some (.slice (some ⟨tb, toff, none⟩) sn tca) ∧ True := ⟨by rw [← hw3]; exact (Rw.keep1 a0).1, trivial⟩
      have ⟨f1, f2⟩ : w3.drew.cell? ⟨w.heap.size + 1, 0, none⟩ = some (.slice da d.sels.len dca) ∧ w3.drew.cell? ⟨w.heap.size + 1, 1, none⟩ = some (.slice db d.frags.length dcb) := by rw [← hw3]; exact (Rw.keep2 b0).1
      have ⟨f3, f4⟩ : w3.drew.cell? ⟨w2.heap.size, 0, none⟩ = some (.map (some b)) ∧ w3.drew.cell? ⟨w2.heap.size, 1, none⟩ = some (.slice db d.frags.length dcb) := by rw [← hw3]; exact (Rw.keep2 hck).1
      have f5 : w3.drew.cell? ⟨tb, toff, none⟩ = some (.string hn) := by rw [← hw3]; exact hh3
      rw [hw3] at HK3 HS3 HCK3
      have C1' := Lib.hid (C1.out (.cells #[.map (some b), .slice db d.frags.length dcb] 150))
      rw [hw3] at C1'
      clear a0 a1 b0 b1 hck hh3 hh2
      have HZ2 := Lib.hid hz2
      have HC3' := Lib.hid (HC3.out (.cells #[.map (some b), .slice db d.frags.length dcb] 150))
      have HB3' := Lib.hid (HB3.out (.cells #[.map (some b), .slice db d.frags.length dcb] 150))
      rw [hw3] at HC3' HB3'
      have HRES : Hid (∀ x, VOut (restW s d) x → (∀ y, restW s d = some y → x = .nilIface ∨ y.1.size ≤ 8) → WOut s d x) := Lib.hid fun x hx hy => .inr ⟨by rw [HKB.out, HDB.out]; rfl, by rw [HRW.out]; exact hx, by rw [HRW.out]; exact hy⟩
      go_upto_region 8 with fail
      go_cut [9] from 31 to 39 (fun v9 wx => VOut sw v9 ∧ Below w.heap.size w wx ∧ wx.heap[w.heap.size + 1]? = some (.cells #[.slice da d.sels.len dca, .slice db d.frags.length dcb] 29 (0, 0)) ∧ wx.heap[w2.heap.size]? = some (.cells #[.map (some b), .slice db d.frags.length dcb] 150 (0, 0)) ∧ Chk wx B s d.frags b n' D db)
      case first =>
        go_region_with (go_at_call 83; refine C1'.out.mono ?_; rintro e w4 ⟨⟨v4, rfl, hv4⟩, hb4⟩)
        all_goals
          go_wp2_with fail
          go_meet
          exact ⟨hv4, HB3'.out.drew.trans (hb4.mono HB3'.out.size), (hb4.block _ (Rw.lt_of_get (w := w3) HS3.out)).trans HS3.out, (hb4.block _ (Rw.lt_of_get (w := w3) HCK3.out)).trans HCK3.out, (HC3'.out.next (Nat.le_trans hB HB3'.out.size) (Below.refl _ _).drew).next (Nat.le_trans hB HB3'.out.size) hb4⟩
      case rest =>
        obtain ⟨hv4, hb4, hs4, hc4, hk4⟩ := hcut
        have HB4 := Lib.hid hb4
        have HS4 := Lib.hid hs4
        have HC4 := Lib.hid hc4
        have HK4 := Lib.hid hk4
        have HRW2 := Lib.hid (show rightW s d = restW s d from HRW.out)
        clear f0 f1 f2 f3 f4 f5 c0 d0 d1 hb4 hs4 hc4 hk4 C1 C1' hw3 HK3 HS3 HCK3 HC3 HB3 HC3' HB3' HC2
        have ⟨⟨d0, d1⟩, _⟩ := Rw.keep2 HS4.out
        have ⟨⟨e0, e1⟩, _⟩ := Rw.keep2 HC4.out
        rcases vout_cases hv4 with ⟨rfl, rfl⟩ | ⟨e, x, T, p, rfl, he, rfl, hlf⟩
        · have HR0 : Hid (restW s d = WrP.or (fragsW s d.frags d.frags) (clashW d)) := Lib.hid (by rw [HREST.out]; rfl)
          clear hv4
          go_wp2_with fail
          go_loopw [46] (fun i wr => ∃ (i' : Nat), i' ≤ d.frags.length ∧ Hid (restW s d = WrP.or (fragsW s d.frags (d.frags.drop i')) (clashW d)) ∧ i = .int .i64 i' ∧ wr.heap[w.heap.size + 1]? = some (.cells #[.slice da d.sels.len dca, .slice db d.frags.length dcb] 29 (0, 0)) ∧ wr.heap[w2.heap.size]? = some (.cells #[.map (some b), .slice db d.frags.length dcb] 150 (0, 0)) ∧ Hid (Chk wr B s d.frags b n' D db) ∧ Below w.heap.size w wr) (fun i _ => d.frags.length - (intOf i).toNat)
          case atStart => exact ⟨0, by omega, Lib.hid (by rw [HR0.out]; rfl), rfl, HS4.out, HC4.out, HK4, HB4.out⟩
          case round =>
            obtain ⟨i, hi, hm, rfl, hsr, hcr, hkr, hb⟩ := hrel
            have HB := Lib.hid hb
            clear d0 d1 e0 e1
            have ⟨⟨d0, d1⟩, _⟩ := Rw.keep2 hsr
            have hz1 := Rw.lt_of_get hsr
            have hz2r := Rw.lt_of_get hcr
            by_cases hlt : i < d.frags.length
            · have hli2 : (i : Int) < (d.frags.length : Int) := by omega
              obtain ⟨x, fb, off, a', cap', hd, rfl, hbb, hok, ⟨q0, q1, q2⟩, hu⟩ := (HDF.out.below hB hb).at hlt
              have HU := Lib.hid hu
              have HD := Lib.hid hd
              have HOK := Lib.hid hok
              have hgx := HGF.out x (List.mem_iff_getElem?.2 ⟨i, hd⟩)
              have HBA : Hid (∀ o, Below w.heap.size w (wr.alloc o)) := Lib.hid fun o => HB.out.alloc HB.out.size o
              have CX : Hid (∀ o, Calls Tryz.prog 83 #[.agg #[.map (some b), .slice (some ⟨fb, off, none⟩) d.frags.length dcb], .string x.name, .slice a' x.sels.len cap', .string x.on] (wr.alloc o) fun e w'' => (∃ v, e = .returned v ∧ VOut (blockW s d.frags x.sels x.on) v) ∧ Below (wr.alloc o).heap.size (wr.alloc o) w'') := Lib.hid fun o =>
                CB.out HKB.out x.sels _ a' cap' x.name x.on b n' D _ dcb hgx.1 HOK.out.2 (HU.out.below (C := wr.heap.size) (Nat.le_trans hB HB.out.size) ((Below.refl _ _).alloc (Nat.le_refl _) o)) (hkr.out.next (Nat.le_trans hB HB.out.size) ((Below.refl _ _).alloc (Nat.le_refl _) o)) (HBA.out o)
              have HST : Hid (fragsW s d.frags (d.frags.drop i) = WrP.or (blockW s d.frags x.sels x.on) (fragsW s d.frags (d.frags.drop (i + 1)))) := Lib.hid (fragsW_drop s d.frags hd)
              have HSA := Lib.hid (blk2 hsr (.cells #[.string x.name, .string x.on, .slice a' x.sels.len cap'] 86) (.cells #[.string x.name, .string x.on, .slice a' x.sels.len cap'] 86)).1
              have HCA := Lib.hid (blk2 hcr (.cells #[.string x.name, .string x.on, .slice a' x.sels.len cap'] 86) (.cells #[.string x.name, .string x.on, .slice a' x.sels.len cap'] 86)).1
              have HKA : Hid (∀ o, Chk (wr.alloc o) B s d.frags b n' D (some ⟨fb, off, none⟩)) := Lib.hid fun o => hkr.out.next (Nat.le_trans hB HB.out.size) ((Below.refl _ _).alloc (Nat.le_refl _) o)
              have ⟨⟨y0, y1⟩, _⟩ := Rw.keep2 HCA.out
              have HFX : Hid (blockW s d.frags x.sels x.on).few := Lib.hid (blockW_few s d.frags x.sels x.on hgx.1 hgx.2.2)
              generalize blockW s d.frags x.sels x.on = bw at *
              clear hd hok hu hgx hlt hb hsr hcr d0 d1
              go_wp2_with fail
              refine (CX.out _).mono ?_
              rintro e w5 ⟨⟨v5, rfl, hv5⟩, hb5⟩
              have HB5 := Lib.hid ((HBA.out _).trans (hb5.mono (HBA.out _).size))
              have HS5 := Lib.hid ((hb5.block _ (Rw.lt_of_get HSA.out)).trans HSA.out)
              have HC5 := Lib.hid ((hb5.block _ (Rw.lt_of_get HCA.out)).trans HCA.out)
              have HK5 := Lib.hid ((HKA.out _).next (Nat.le_trans hB (HBA.out _).size) hb5)
              clear hb5 y0 y1
              rcases vout_cases hv5 with ⟨rfl, rfl⟩ | ⟨e, x', T, p, rfl, he, rfl, hlf⟩
              · have hrel := Lib.hid (show restW s d = WrP.or (fragsW s d.frags (d.frags.drop (i + 1))) (clashW d) by rw [hm.out, HST.out]; rfl)
                clear hv5
                go_wp2_with fail
                go_roundw
                case rel => exact ⟨i + 1, by omega, hrel, by go_num, HS5.out, HC5.out, HK5, HB5.out⟩
                case measure => simp [intOf]; omega
              · have HV : Hid (WOut s d (.iface T p)) := Lib.hid (HRES.out _ (.inr ⟨e, x', he.symm, by rw [hm.out, HST.out]; rfl, hlf⟩) (fun y hy => .inr (by rw [hm.out, HST.out] at hy; cases hy; exact HFX.out _ rfl)))
                have y1 := neqV
                clear hv5 he hlf
                go_wp2_with fail
                go_ret
                exact ⟨⟨_, rfl, HV.out⟩, HB5.out⟩
            · obtain rfl : i = d.frags.length := by omega
              have hf2 : Hid (restW s d = clashW d) := Lib.hid (by rw [hm.out, List.drop_length]; rfl)
              have CL2 := Lib.hid (CC.out HDB.out HNO.out wr db dcb da dca (HDF.out.below hB HB.out) (HDS.out.below hB HB.out) HB.out)
              clear hlt hb hsr hcr
              go_wp2_with fail
              refine CL2.out.mono ?_
              rintro e w5 ⟨⟨v5, rfl, hv5⟩, hb5⟩
              have HB5 := Lib.hid (HB.out.trans (hb5.mono HB.out.size))
              have HV : Hid (WOut s d v5) := Lib.hid (HRES.out _ (by
                rw [hf2.out]; unfold clashW
                rcases hv5 with ⟨h1, rfl⟩ | ⟨e, rfl, h1, h2, h3⟩
                · rw [if_pos h1]; exact VOut.nil
                · rw [if_neg h2]; exact .inr ⟨e, _, rfl, rfl, .inr (.inl ⟨rfl, h1⟩)⟩) (fun y hy => by
                rw [hf2.out] at hy; unfold clashW at hy
                rcases hv5 with ⟨h1, rfl⟩ | ⟨e, rfl, h1, h2, h3⟩
                · exact .inl rfl
                · rw [if_neg h2] at hy; cases hy; exact .inr h3))
              clear hb5 hv5
              go_wp2_with fail
              go_ret
              exact ⟨⟨_, rfl, HV.out⟩, HB5.out⟩
        · have HV : Hid (WOut s d (.iface T p)) := Lib.hid (HRES.out _ (.inr ⟨e, x, he.symm, by rw [HREST.out]; rfl, hlf⟩) (fun y hy => .inr (by rw [HREST.out] at hy; cases hy; exact HFEW.out _ rfl)))
          have y1 := neqV
          clear hv4 he hlf
          go_wp2_with fail
          go_ret
          exact ⟨⟨_, rfl, HV.out⟩, HB4.out⟩
  · rw [Rw.kindsB_eq] at hkb
    have HF : Hid ((Rw.schemaB s && docB d) = false) := Lib.hid (by rw [hkb]; rfl)
    clear hkb
    go_wp2_with fail
    go_ret
    exact ⟨⟨_, rfl, .inl ⟨HF.out, rfl⟩⟩, HB1.out⟩
end Go.Proofs.YtceabbbmgfeofaaGreatDoor.Selss
