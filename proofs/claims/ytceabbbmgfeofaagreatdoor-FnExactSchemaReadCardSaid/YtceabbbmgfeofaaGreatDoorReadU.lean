/-
  Contract: impl.readSchema: what the lines of a text say; of what was there nothing is changed. Conditions: a text of at most 8000 bytes; the library's variables hold what the program lays.
-/
import Derived.WalkSpells
import Derived.Test.YtceabbbmgfeofaaGreatDoorRows
import Derived.Test.YtceabbbmgfeofaaGreatDoorReadT
import Derived.Deep.RegionLaw
namespace Go.Proofs.YtceabbbmgfeofaaGreatDoor.Rw
open Go.RowKit Words Decs Splits
set_option linter.unusedVariables false
set_option maxRecDepth 100000

theorem okT_of {w : World} {A B : Nat} {x : TypeP} {a : Option Addr} {ca : Nat} {c : Option Addr} {cc : Nat} (h : TypeX w A B (.agg (x.cells a ca c cc).toArray) x) : OkT w ⟨x, a, ca, c, cc, A, B, false⟩ := by
  obtain ⟨a', ca', c', cc', M, hv, hk, h2, h3⟩ := h
  simp [TypeP.cells] at hv
  obtain ⟨⟨rfl, rfl⟩, rfl, rfl⟩ := hv
  exact ⟨hk, fun e => (by cases e), M, h2, h3⟩

set_option maxHeartbeats 8000000 in
theorem implReadSchema (t : ByteArray) (w : World) (B : Nat) (hv : VarsR B w) (hB : B ≤ w.heap.size) (ht : t.size ≤ 8000) :
    Calls Tryz.prog 62 #[.string t] w fun e w' => (∃ a ca, e = .returned (.agg #[.slice a (schemaQ (bL t)).length ca]) ∧ SchemaX w' w.heap.size w'.heap.size (.agg #[.slice a (schemaQ (bL t)).length ca]) (schemaQ (bL t))) ∧ Below w.heap.size w w' := by
  have HA : Hid (∀ o, Below w.heap.size w (w.alloc o)) := Lib.hid fun o => (Below.refl _ _).alloc (Nat.le_refl _) o
  have HV := Lib.hid hv
  have hl := bL_len t
  have C1 : Hid (∀ w', Calls Tryz.prog 82 #[.string t] w' fun e w'' => e = .returned (.string t) ∧ Below w'.heap.size w' w'') := Lib.hid fun w' => Clones.clone t w' (by omega)
  have C2 : Hid (∀ w', Calls Tryz.prog 112 #[.string t, .string ⟨#[10]⟩] w' fun e w'' => e = .returned (.string (ubR (Lib.trimSuffix (bL t) [10]))) ∧ w' = w'') := Lib.hid fun w' => trimC t ⟨#[10]⟩ w' ht
  have l1 := trimR_len (bL t) [10]
  have HQ := Lib.hid (show schemaQ (bL t) = (splitL 10 (Lib.trimSuffix (bL t) [10])).map typeQ from rfl)
  generalize Lib.trimSuffix (bL t) [10] = u at *
  obtain ⟨hs1, hs2⟩ := textsR_sizes 10 (ubR u) (by rw [ubR_size]; omega)
  rw [ubL] at hs1 hs2
  have C3 : Hid (∀ w', Below w.heap.size w w' → Calls Tryz.prog 111 #[.string (ubR u), .string ⟨#[10]⟩] w' fun e w'' => (∃ a, e = .returned (.slice a ((splitL 10 u).map ubR).length ((splitL 10 u).map ubR).length) ∧ TextsX w'' w'.heap.size w''.heap.size a ((splitL 10 u).map ubR).length ((splitL 10 u).map ubR)) ∧ Below w'.heap.size w' w'') := Lib.hid fun w' h => by
    have := splitC (ubR u) 10 w' B (hv.over hB h) (by rw [ubR_size]; omega)
    rw [ubL] at this; exact this
  have HL0 : Hid (schemaQ (bL t) = ((splitL 10 u).map ubR).map fun x => typeQ (bL x)) := Lib.hid (by rw [HQ.out, List.map_map]; exact List.map_congr_left fun x _ => by show typeQ x = typeQ (bL (ubR x)); rw [ubL])
  rw [HL0.out]
  generalize (splitL 10 u).map ubR = L at *
  generalize ubR u = u1 at *
  have HS2 := Lib.hid hs2
  have HZ0 := Lib.hid (heap_alloc_new w (.cells #[.slice none 0 0] 25))
  clear hv HL0 hs2 HQ l1 hl
  go_enter Tryz.func62, Tryz.ntmps62
  go_wp2_with (first
    | (go_at_call 112; refine (C2.out _).mono ?_; rintro e w9 ⟨rfl, rfl⟩)
    | (go_at_call 82; refine (C1.out _).mono ?_; rintro e w1 ⟨rfl, hb1⟩)
    | (go_at_call 111; have HB1 := Lib.hid ((HA.out (.cells #[.slice none 0 0] 25)).trans (hb1.mono (HA.out _).size)); have HZ1 := Lib.hid ((hb1.block w.heap.size (lt_of_get HZ0.out)).trans HZ0.out); clear hb1; refine (C3.out _ HB1.out).mono ?_; rintro e w2 ⟨⟨a, rfl, hx⟩, hb2⟩; have HB2 := Lib.hid (HB1.out.trans (hb2.mono HB1.out.size)); have HZ2 := Lib.hid ((hb2.block w.heap.size (lt_of_get HZ1.out)).trans HZ1.out); have HX := Lib.hid (RowsX.at_ textLies (fun h => h) hx); clear hx hb2))
  obtain ⟨g, hg⟩ : ∃ g, w2.heap.size = g := ⟨_, rfl⟩
  have HG0 := Lib.hid (heap_alloc_new w2 (.cells #[.slice none 0 0] 25))
  have HZ3 := Lib.hid ((Go.Deep.blk_alloc_lt w2 (.cells #[.slice none 0 0] 25) w.heap.size (lt_of_get HZ2.out)).trans HZ2.out)
  have HW0 : Hid (Below w2.heap.size w2 (w2.alloc (.cells #[.slice none 0 0] 25))) := Lib.hid ((Below.refl _ _).alloc (Nat.le_refl _) _)
  have HB3 := Lib.hid (HB2.out.alloc HB2.out.size (.cells #[.slice none 0 0] 25))
  have hwg : w.heap.size < g := by rw [← hg]; exact lt_of_get HZ2.out
  rw [hg] at HG0 HW0 HX ⊢
  go_loopw [13] (fun i wr => ∃ (i' : Nat) (av : Option Addr) (cap : Nat), i' ≤ L.length ∧ i = .int .i64 i' ∧ Hid (wr.heap[w.heap.size]? = some (.cells #[.slice none 0 0] 25 (0, 0))) ∧ Hid (wr.heap[g]? = some (.cells #[.slice av i' cap] 25 (0, 0))) ∧ Hid (∃ R : List RowT, R.length = i' ∧ R.map RowT.x = (L.take i').map (fun x => typeQ (bL x)) ∧ OwnTy wr (g + 1) (.slice av i' cap) R) ∧ Hid (Below g w2 wr) ∧ Below w.heap.size w wr) (fun i _ => L.length - (intOf i).toNat)
  case atStart => exact ⟨0, none, 0, by omega, rfl, HZ3, HG0, Lib.hid ⟨[], rfl, rfl, OwnTy.nil _ _⟩, HW0, HB3.out⟩
  case round =>
    clear HZ3 HG0 HW0 HB3
    obtain ⟨i, av, cap, hi, rfl, HZ, HG, HR, HW, hb⟩ := hrel
    have HB := Lib.hid hb
    have hgl := lt_of_get HG.out
    by_cases hlt : i < L.length
    · have hli : (i : Int) < (L.length : Int) := by omega
      obtain ⟨x, b, off, hd, rfl, hAb, hbb, hok, hc⟩ := (HX.out.below textLies (Nat.le_refl _) HW.out).at hlt
      rw [Nat.mul_one] at hc
      have HD := Lib.hid hd
      have hx8 := HS2.out x (List.mem_iff_getElem?.2 ⟨i, hd⟩)
      obtain ⟨R, hRl, hRm, hRo⟩ := HR.out
      have HRM := Lib.hid hRm
      have HRO := Lib.hid (hRo.below (Below.refl _ wr).drew)
      have HBd := Lib.hid HB.out.drew
      have CT := Lib.hid (implReadType x wr.drew B (HV.out.over hB HBd.out) (Nat.le_trans hB HBd.out.size) hx8)
      have HGd : Hid (wr.drew.heap[g]? = some (.cells #[.slice av i cap] 25 (0, 0))) := Lib.hid HG.out
      have HZd : Hid (wr.drew.heap[w.heap.size]? = some (.cells #[.slice none 0 0] 25 (0, 0))) := Lib.hid HZ.out
      have HWd := Lib.hid HW.out.drew
      have ⟨n0, _⟩ := keep1 HGd.out
      obtain ⟨y, hy⟩ : ∃ y, typeQ (bL x) = y := ⟨_, rfl⟩
      have HY := Lib.hid hy
      rw [hy] at CT
      have CT2 : Hid (Calls Tryz.prog 113 #[.string x] wr.drew fun e w' => (∃ a ca c cc, e = .returned (.agg #[.string y.name, .int .i64 y.kind, .int .i64 y.bytes, .slice a y.fields.length ca, .slice c y.members.length cc]) ∧ TypeX w' wr.drew.heap.size w'.heap.size (.agg (y.cells a ca c cc).toArray) y) ∧ Below wr.drew.heap.size wr.drew w') := Lib.hid CT.out
      clear hd hok hlt hb hx8 hRm hRo hy HR CT
      go_wp2_with fail
      go_region_law (first
        | (refine step_app_type (by rfl) _ _ (by rfl) (g + 1) (.slice av i cap) R (by rfl) HO4.out w3.heap.size 1 (by rfl) ⟨y, fa, fca, fc, fcc, wr.heap.size, w3.heap.size, false⟩ HC4.out ⟨HT4.out, hgl, by simp, HOW.out⟩ HORD.out (by omega) hz4 ?_; intro a5 cap5 w5 hown5 hb5; have HG5 := Lib.hid ((hb5.block g (by omega)).trans HG4.out); have ⟨s0, r0⟩ := keep1 HG5.out)
        | (go_simp; go_at_call 113; refine CT2.out.mono ?_; rintro e w3 ⟨⟨fa, fca, fc, fcc, rfl, htx⟩, hb3⟩; go_must (first | (have HT3 := Lib.hid (okT_of htx)) | fail "HT3"); go_must (first | (have HG3 := Lib.hid ((hb3.block g hgl).trans HGd.out)) | fail "HG3"); go_must (first | (have hgl3 := lt_of_get HG3.out) | fail "hgl3"); have ⟨p0, _⟩ := keep1 HG3.out; go_must (first | (have HO4 : Hid (OwnTy (w3.alloc (.cells #[.string y.name, .int .i64 y.kind, .int .i64 y.bytes, .slice fa y.fields.length fca, .slice fc y.members.length fcc] 48)) (g + 1) (.slice av i cap) R) := Lib.hid ((HRO.out.below hb3).below ((Below.refl _ _).alloc (Nat.le_refl _) _))) | fail "HO4"); go_must (first | (have HC4 : Hid ((w3.alloc (.cells #[.string y.name, .int .i64 y.kind, .int .i64 y.bytes, .slice fa y.fields.length fca, .slice fc y.members.length fcc] 48)).heap[w3.heap.size]? = some (.cells #[.string y.name, .int .i64 y.kind, .int .i64 y.bytes, .slice fa y.fields.length fca, .slice fc y.members.length fcc] 48 (0, 0))) := Lib.hid (heap_alloc_new w3 _)) | fail "HC4"); go_must (first | (have HT4 : Hid (OkT (w3.alloc (.cells #[.string y.name, .int .i64 y.kind, .int .i64 y.bytes, .slice fa y.fields.length fca, .slice fc y.members.length fcc] 48)) ⟨y, fa, fca, fc, fcc, wr.heap.size, w3.heap.size, false⟩) := Lib.hid (HT3.out.block fun q _ q2 => Go.Deep.blk_alloc_lt w3 _ q q2)) | fail "HT4"); go_must (first | (have HOW : Hid (∀ g', (Value.slice av i cap).ownBlock = some g' → g' < wr.heap.size ∨ w3.heap.size ≤ g') := Lib.hid (by intro g' h; exact Or.inl (HRO.out.owner h))) | fail "HOW"); go_must (first | (have HORD : Hid (∀ q ∈ R, q.hi ≤ wr.heap.size) := Lib.hid (fun q hq => (HRO.out.ok q hq).2.2.1)) | fail "HORD"); go_must (first | (have hz4 : g + 1 ≤ (w3.alloc (.cells #[.string y.name, .int .i64 y.kind, .int .i64 y.bytes, .slice fa y.fields.length fca, .slice fc y.members.length fcc] 48)).heap.size := (by simp; omega)) | fail "hz4"); go_must (first | (have HG4 := Lib.hid ((Go.Deep.blk_alloc_lt w3 (.cells #[.string y.name, .int .i64 y.kind, .int .i64 y.bytes, .slice fa y.fields.length fca, .slice fc y.members.length fcc] 48) g hgl3).trans HG3.out)) | fail "HG4"); have ⟨v0, _⟩ := keep1 HG4.out))
      all_goals
        rw [hRl] at hown5
        have hoth : ∀ q, q ≠ g → (w5.setCell ⟨g, 0, none⟩ (.slice a5 (i + 1) cap5)).heap[q]? = w5.heap[q]? := fun q hq => Go.Deep.blk_setCell_other _ ⟨g, 0, none⟩ _ q hq
        have hsz : (w5.setCell ⟨g, 0, none⟩ (.slice a5 (i + 1) cap5)).heap.size = w5.heap.size := by simp
        have HA4 := Lib.hid ((Below.refl w3.heap.size w3).alloc (Nat.le_refl _) (.cells #[.string y.name, .int .i64 y.kind, .int .i64 y.bytes, .slice fa y.fields.length fca, .slice fc y.members.length fcc] 48))
        have HW5 := Lib.hid (((HWd.out.trans (hb3.mono (Nat.le_of_lt hgl))).trans (HA4.out.mono (Nat.le_of_lt hgl3))).trans (hb5.mono (by omega)))
        have HB5 := Lib.hid (((HBd.out.trans (hb3.mono HBd.out.size)).trans (HA4.out.mono (HBd.out.trans (hb3.mono HBd.out.size)).size)).trans (hb5.mono (by omega)))
        have HZ5 := Lib.hid ((hb5.block w.heap.size (by omega)).trans ((HA4.out.block w.heap.size (Nat.lt_trans hwg hgl3)).trans ((hb3.block w.heap.size (lt_of_get HZd.out)).trans HZd.out)))
        have HZ6 : Hid ((w5.setCell ⟨g, 0, none⟩ (.slice a5 (i + 1) cap5)).heap[w.heap.size]? = some (.cells #[.slice none 0 0] 25 (0, 0))) := Lib.hid ((hoth w.heap.size (by omega)).trans HZ5.out)
        have HG6 : Hid ((w5.setCell ⟨g, 0, none⟩ (.slice a5 (i + 1) cap5)).heap[g]? = some (.cells #[.slice a5 (i + 1) cap5] 25 (0, 0))) := Lib.hid (heap_setCell_same w5 g 0 _ _ _ HG5.out)
        have HR6 : Hid (∃ R' : List RowT, R'.length = i + 1 ∧ R'.map RowT.x = (L.take (i + 1)).map (fun x => typeQ (bL x)) ∧ OwnTy (w5.setCell ⟨g, 0, none⟩ (.slice a5 (i + 1) cap5)) (g + 1) (.slice a5 (i + 1) cap5) R') := Lib.hid ⟨R ++ [⟨y, fa, fca, fc, fcc, wr.heap.size, w3.heap.size, false⟩], by simp [hRl], by
          rw [List.map_append, HRM.out, List.take_add_one, HD.out, List.map_append]
          simp only [Option.toList_some, List.map_cons, List.map_nil, HY.out], OwnTy.frame hown5 (by omega) fun q q1 q2 => hoth q (by omega)⟩
        have HW6 := Lib.hid (HW5.out.setCell (p := ⟨g, 0, none⟩) (Nat.le_refl _) (.slice a5 (i + 1) cap5))
        have HB6 := Lib.hid (HB5.out.setCell (p := ⟨g, 0, none⟩) (by show w.heap.size ≤ g; omega) (.slice a5 (i + 1) cap5))
        clear hb3 hb5 hown5 hoth
        go_wp2_with fail
        go_roundw
        case rel => exact ⟨i + 1, a5, cap5, by omega, by go_num, HZ6, HG6, HR6, HW6, HB6.out⟩
        case measure => simp [intOf]; omega
    · obtain rfl : i = L.length := by omega
      obtain ⟨R, hRl, hRm, hRo⟩ := HR.out
      rw [List.take_length] at hRm
      obtain ⟨a9, c9, he, hc9, hx9⟩ := OwnTy.typesX hRo (by omega) hgl
      rw [hRl] at he hc9 hx9
      rw [hRm] at hx9
      obtain ⟨rfl, rfl⟩ : av = a9 ∧ cap = c9 := by cases he; exact ⟨rfl, rfl⟩
      have HX9 := Lib.hid hx9
      have HC9 := Lib.hid hc9
      have ⟨n0, p0⟩ := keep1 HG.out
      have ⟨z0, f0⟩ := keep1 HZ.out
      clear hlt hb he hc9 hx9 hRl hRm hRo HR
      go_wp2_with fail
      change bodyPost _ _ _ _ _ (putL wr w.heap.size 0 [.slice av L.length cap])
      obtain ⟨hr, _, _⟩ := putL_cells (g := w.heap.size) (o := 0) (l := [.slice av L.length cap]) HZ.out (by simp)
      have HBF := putL_below (g := w.heap.size) (B := w.heap.size) (Nat.le_refl _) [.slice av L.length cap] 0 HB.out
      have hsz := putL_size [.slice av L.length cap] wr w.heap.size 0
      have HTZ := HX9.out.block (w' := putL wr w.heap.size 0 [.slice av L.length cap]) typeLiesX fun q q1 q2 => putL_other _ _ _ _ q (by omega)
      generalize putL wr w.heap.size 0 [.slice av L.length cap] = wz at *
      have x0 := hr 0 _ rfl
      rw [← hsz] at HTZ
      have hml : (L.map fun x => typeQ (bL x)).length = L.length := by rw [List.length_map]
      exact bodyPost_ret (v := .agg #[.slice av L.length cap]) (by simp [results, Tryz.results62, go_sem, x0]) rfl ⟨⟨av, cap, by rw [hml], av, cap, by rw [hml], by rw [hml]; exact HTZ.wide (by omega) (Nat.le_refl _), by rw [hml]; exact HC9.out⟩, HBF⟩
end Go.Proofs.YtceabbbmgfeofaaGreatDoor.Rw
