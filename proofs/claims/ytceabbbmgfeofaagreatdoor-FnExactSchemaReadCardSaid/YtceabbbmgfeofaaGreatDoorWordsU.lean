/-
  Contracts: the kinds' words: what a line is made of; strings.Join over them; of what was there nothing is changed. Conditions: right types; the library's table of powers of ten reads as the program lays it.
-/
import Derived.WalkSpells
import Derived.Test.YtceabbbmgfeofaaGreatDoorRows
import Derived.Test.YtceabbbmgfeofaaGreatDoorWordsT
import Derived.Test.YtceabbbmgfeofaaGreatDoorOwnAll
namespace Go.Proofs.YtceabbbmgfeofaaGreatDoor.Rw
open Go.RowKit Words Decs Splits
set_option linter.unusedVariables false
set_option maxRecDepth 100000

theorem texts_of_block {w : World} {b : Nat} {L : List ByteArray} (hb : w.heap[b]? = some (.cells (L.map Value.string).toArray 9 (0, 0))) (hok : ∀ x ∈ L, OkS x) (hL : L.length ≤ 1048576) : TextsAt w 0 w.heap.size (some ⟨b, 0, none⟩) L.length L := by
  refine ⟨rfl, by omega, .inr ⟨b, 0, rfl, Nat.zero_le _, lt_of_get hb, fun i x hi => ⟨hok x (List.mem_iff_getElem?.2 ⟨i, hi⟩), ?_⟩⟩⟩
  rw [Nat.zero_add, Nat.mul_one]
  exact cell_of hb (by simp [hi])
theorem OwnTs.built {w : World} {base b : Nat} {L : List ByteArray} (hb : w.heap[b]? = some (.cells (L.map Value.string).toArray 9 (0, 0))) (hbase : base ≤ b) (hL : L.length ≤ 1048576) : OwnTs w base (.slice (some ⟨b, 0, none⟩) L.length L.length) L :=
  ⟨by simp, .inr ⟨b, L.length, _, rfl, hbase, hb, Nat.le_refl _, by unfold maxLen; omega, by simp, by simp [List.take_of_length_le]⟩⟩
/-- What words tell: texts in memory. -/
def WordsOut (w' : World) (L : List ByteArray) (e : Ending) : Prop := ∃ a cap, e = .returned (.slice a L.length cap) ∧ L.length ≤ cap ∧ TextsAt w' 0 w'.heap.size a L.length L
/-- A line's words. -/
def lwords (x : TypeP) : List ByteArray := ubR (kw x.kind) :: x.name :: ((if x.kind = 1 then [decB x.bytes] else []) ++ (x.fields.map fwordT ++ x.members))

set_option maxHeartbeats 4000000 in
theorem wordsM1 (w : World) (x : TypeP) (a : Option Addr) (ca : Nat) (c : Option Addr) (cc : Nat) (hk : x.ok) (h1 : x.kind = 1) (h2 : x.fields = []) (h3 : x.members = []) (B : Nat) (hp : Decs.Pow B w) (hB : B ≤ w.heap.size) :
    Calls Tryz.prog 282 #[.agg (x.cells a ca c cc).toArray] w fun e w' => WordsOut w' (lwords x) e ∧ Below w.heap.size w w' := by
  have HA : Hid (∀ o, Below w.heap.size w (w.alloc o)) := Lib.hid fun o => (Below.refl _ _).alloc (Nat.le_refl _) o
  obtain ⟨hn, _, hby⟩ := hk
  have C1 : Hid (∀ o, Calls Tryz.prog 267 #[.int .i64 x.bytes, .int .i64 10] (w.alloc o).drew fun e w' => e = .returned (.string (decB x.bytes)) ∧ Below (w.alloc o).drew.heap.size (w.alloc o).drew w') := Lib.hid fun o => fmtInt x.bytes hby.1 hby.2 B _ (hp.over hB (HA.out o).drew)
  have hds := decQ_size x.bytes hby
  have HLW : Hid (lwords x = [⟨#[108, 101, 97, 102]⟩, x.name, decB x.bytes]) := Lib.hid (by unfold lwords; rw [h1, h2, h3]; rfl)
  rw [HLW.out]
  obtain ⟨nm, kd, by_, fs, ms⟩ := x
  simp only at h1 h2 h3 C1 hds hn
  subst h1 h2 h3
  simp only [TypeP.cells, List.length_nil] at C1 ⊢
  generalize decB by_ = db at *
  have hk0 : (w.alloc (.cells #[.string nm, .int .i64 1, .int .i64 by_, .slice a 0 ca, .slice c 0 cc] 234)).drew.heap[w.heap.size]? = some (.cells #[.string nm, .int .i64 1, .int .i64 by_, .slice a 0 ca, .slice c 0 cc] 234 (0, 0)) := heap_alloc_new w _
  have ⟨⟨y0, y1, y2, y3, y4⟩, _⟩ := keep5 hk0
  have HK0 := Lib.hid hk0
  clear hk0 hp HLW
  go_enter Tryz.func282, Tryz.ntmps282
  go_wp2_with fail
  go_region_with (go_at_call 267; refine (C1.out _).mono ?_; rintro e w1 ⟨rfl, hb1⟩; have hkk := (hb1.block w.heap.size (lt_of_get HK0.out)).trans HK0.out; have ⟨⟨z0, z1, z2, z3, z4⟩, _⟩ := keep5 hkk)
  all_goals
    have HB1 := Lib.hid ((HA.out _).drew.trans (hb1.mono (HA.out _).size))
    have HN := heap_alloc_new w1 (.cells #[.string ⟨#[108, 101, 97, 102]⟩, .string nm, .string db] 9)
    have HT := Lib.hid (texts_of_block (L := [⟨#[108, 101, 97, 102]⟩, nm, db]) HN (fun x hx => by
      simp only [List.mem_cons, List.not_mem_nil, or_false] at hx
      rcases hx with rfl | rfl | rfl
      · unfold OkS; decide
      · exact hn
      · unfold OkS; omega) (by simp))
    have HB2 := Lib.hid (HB1.out.alloc HB1.out.size (.cells #[.string ⟨#[108, 101, 97, 102]⟩, .string nm, .string db] 9))
    clear hb1 hkk HN
    go_wp2_with fail
    go_ret
    exact ⟨⟨_, _, rfl, Nat.le_refl _, HT.out⟩, HB2.out⟩

set_option maxHeartbeats 4000000 in
theorem wordsM3 (w : World) (A B : Nat) (x : TypeP) (a : Option Addr) (ca : Nat) (c : Option Addr) (cc : Nat) (hx : TypeAt w A B (.agg (x.cells a ca c cc).toArray) x) (hB : B ≤ w.heap.size) (h1 : x.kind = 3) (h2 : x.fields = []) (hm : ∀ m ∈ x.members, OkS m) (hml : x.members.length ≤ 5) :
    Calls Tryz.prog 287 #[.agg (x.cells a ca c cc).toArray] w fun e w' => WordsOut w' (lwords x) e ∧ Below w.heap.size w w' := by
  have HA : Hid (∀ o, Below w.heap.size w (w.alloc o)) := Lib.hid fun o => (Below.refl _ _).alloc (Nat.le_refl _) o
  have HLW : Hid (lwords x = [⟨#[111, 110, 101]⟩, x.name] ++ x.members) := Lib.hid (by unfold lwords; rw [h1, h2]; rfl)
  rw [HLW.out]
  obtain ⟨a', ca', c', cc', hve, hk, ⟨hf, hca⟩, htx, hcc⟩ := hx
  obtain ⟨hn, _⟩ := hk
  obtain ⟨nm, kd, by_, fs, ms⟩ := x
  simp only at h1 h2 hn hml hm
  subst h1 h2
  simp [TypeP.cells] at hve
  obtain ⟨⟨rfl, rfl⟩, rfl, rfl⟩ := hve
  simp only [TypeP.cells, List.length_nil] at htx hcc ⊢
  have HT := Lib.hid htx
  have HM := Lib.hid hm
  clear hf htx hm HLW
  have hz0 : w.heap.size + 1 = (w.alloc (.cells #[.string nm, .int .i64 3, .int .i64 by_, .slice a 0 ca, .slice c ms.length cc] 235)).heap.size := by simp
  have HN0 : Hid (((w.alloc (.cells #[.string nm, .int .i64 3, .int .i64 by_, .slice a 0 ca, .slice c ms.length cc] 235)).alloc (.cells #[.string ⟨#[111, 110, 101]⟩, .string nm] 9)).heap[w.heap.size + 1]? = some (.cells #[.string ⟨#[111, 110, 101]⟩, .string nm] 9 (0, 0))) := Lib.hid (by rw [hz0]; exact heap_alloc_new _ _)
  have HO : Hid (OwnTs ((w.alloc (.cells #[.string nm, .int .i64 3, .int .i64 by_, .slice a 0 ca, .slice c ms.length cc] 235)).alloc (.cells #[.string ⟨#[111, 110, 101]⟩, .string nm] 9)) (w.heap.size + 1) (.slice (some ⟨w.heap.size + 1, 0, none⟩) 2 2) [⟨#[111, 110, 101]⟩, nm]) := Lib.hid (OwnTs.built (L := [⟨#[111, 110, 101]⟩, nm]) HN0.out (Nat.le_refl _) (by simp))
  have HX : Hid (Below w.heap.size w ((w.alloc (.cells #[.string nm, .int .i64 3, .int .i64 by_, .slice a 0 ca, .slice c ms.length cc] 235)).alloc (.cells #[.string ⟨#[111, 110, 101]⟩, .string nm] 9))) := Lib.hid ((HA.out _).alloc (by simp) _)
  have HT2 : Hid (TextsAt ((w.alloc (.cells #[.string nm, .int .i64 3, .int .i64 by_, .slice a 0 ca, .slice c ms.length cc] 235)).alloc (.cells #[.string ⟨#[111, 110, 101]⟩, .string nm] 9)) A B c ms.length ms) := Lib.hid (HT.out.below textLies hB HX.out)
  clear hz0
  go_enter Tryz.func287, Tryz.ntmps287
  go_wp2_with (at_builtin; refine app_texts rfl _ _ rfl (w.heap.size + 1) _ [⟨#[111, 110, 101]⟩, nm] rfl HO.out A B c _ _ ms rfl HT2.out (by simp; omega) (by simp) ?_; intro a9 c9 w9 hown9 hb9)
  have HB9 := Lib.hid (HX.out.trans (hb9.mono (by omega)))
  have hbase : w.heap.size + 1 ≤ w9.heap.size := Nat.le_trans (by simp) hb9.size
  obtain ⟨a8, c8, he, hc8, hx8⟩ := OwnTs.textsX hown9 (fun x hx => by
    simp only [List.cons_append, List.nil_append, List.mem_cons] at hx
    rcases hx with rfl | rfl | hx
    · unfold OkS; decide
    · exact hn
    · exact HM.out x hx) (by simp; omega) hbase
  have HX8 := Lib.hid (RowsX.at_ textLies (fun h => h) hx8)
  have HC8 := Lib.hid hc8
  have HE8 := Lib.hid he
  clear hown9 hb9 hx8 hc8 he
  simp only [List.length_cons, List.length_nil] at HE8 HC8 HX8
  go_wp2_with fail
  go_ret
  exact ⟨⟨a8, c8, by first | rw [← HE8.out] | (have := HE8.out; simp at this ⊢; omega), by have := HC8.out; simp at this ⊢; omega, by have := HX8.out; simpa using RowsAt.wide textLies this (Nat.zero_le _) (Nat.le_refl _)⟩, HB9.out⟩

set_option maxHeartbeats 4000000 in
theorem wordsM2 (w : World) (A B : Nat) (s : List TypeP) (x : TypeP) (a : Option Addr) (ca : Nat) (c : Option Addr) (cc : Nat) (hx : TypeAt w A B (.agg (x.cells a ca c cc).toArray) x) (hB : B ≤ w.heap.size) (h1 : x.kind = 2) (h3 : x.members = []) (hL : LineOk s x) (C : Nat) (hp : Decs.Pow C w) (hC : C ≤ w.heap.size) :
    Calls Tryz.prog 259 #[.agg (x.cells a ca c cc).toArray] w fun e w' => WordsOut w' (lwords x) e ∧ Below w.heap.size w w' := by
  have HA : Hid (∀ o, Below w.heap.size w (w.alloc o)) := Lib.hid fun o => (Below.refl _ _).alloc (Nat.le_refl _) o
  have HLW : Hid (lwords x = [⟨#[111, 98, 106]⟩, x.name] ++ x.fields.map fwordT) := Lib.hid (by unfold lwords; rw [h1, h3]; simp [ubR, kw, objW])
  rw [HLW.out]
  obtain ⟨a', ca', c', cc', hve, hk, ⟨hf, hca⟩, htx, hcc⟩ := hx
  obtain ⟨hn, _⟩ := hk
  have heach := hL.each
  have hfew := hL.few
  obtain ⟨nm, kd, by_, fs, ms⟩ := x
  simp only at h1 h3 hn heach hfew
  subst h1 h3
  simp [TypeP.cells] at hve
  obtain ⟨⟨rfl, rfl⟩, rfl, rfl⟩ := hve
  simp only [TypeP.cells, List.length_nil] at hf hca ⊢
  have HF := Lib.hid hf
  have HEACH := Lib.hid heach
  have HP := Lib.hid hp
  have HFW : Hid (∀ f ∈ fs, (fwordT f).size ≤ 24) := Lib.hid fun f hf => by
    have h := heach f hf
    have h1 := (word_small h.word).2
    have h2 := (type_small h.typ).2
    have h3 := tail_size h.sized
    unfold fwordT
    simp [cB_size, ByteArray.size_append]; omega
  clear hf htx hp heach HLW
  have hz0 : w.heap.size + 1 = (w.alloc (.cells #[.string nm, .int .i64 2, .int .i64 by_, .slice a fs.length ca, .slice c 0 cc] 91)).heap.size := by simp
  have HN0 : Hid (((w.alloc (.cells #[.string nm, .int .i64 2, .int .i64 by_, .slice a fs.length ca, .slice c 0 cc] 91)).alloc (.cells #[.string ⟨#[111, 98, 106]⟩, .string nm] 9)).heap[w.heap.size + 1]? = some (.cells #[.string ⟨#[111, 98, 106]⟩, .string nm] 9 (0, 0))) := Lib.hid (by rw [hz0]; exact heap_alloc_new _ _)
  have HO : Hid (OwnTs ((w.alloc (.cells #[.string nm, .int .i64 2, .int .i64 by_, .slice a fs.length ca, .slice c 0 cc] 91)).alloc (.cells #[.string ⟨#[111, 98, 106]⟩, .string nm] 9)) (w.heap.size + 1) (.slice (some ⟨w.heap.size + 1, 0, none⟩) 2 2) ([⟨#[111, 98, 106]⟩, nm] ++ (fs.take 0).map fwordT)) := Lib.hid (OwnTs.built (L := [⟨#[111, 98, 106]⟩, nm]) HN0.out (Nat.le_refl _) (by simp))
  have HX : Hid (Below w.heap.size w ((w.alloc (.cells #[.string nm, .int .i64 2, .int .i64 by_, .slice a fs.length ca, .slice c 0 cc] 91)).alloc (.cells #[.string ⟨#[111, 98, 106]⟩, .string nm] 9))) := Lib.hid ((HA.out _).alloc (by simp) _)
  have HK0 : Hid (((w.alloc (.cells #[.string nm, .int .i64 2, .int .i64 by_, .slice a fs.length ca, .slice c 0 cc] 91)).alloc (.cells #[.string ⟨#[111, 98, 106]⟩, .string nm] 9)).heap[w.heap.size]? = some (.cells #[.string nm, .int .i64 2, .int .i64 by_, .slice a fs.length ca, .slice c 0 cc] 91 (0, 0))) := Lib.hid (by rw [Go.Deep.blk_alloc_lt _ _ _ (by simp)]; exact heap_alloc_new w _)
  clear hz0
  have ⟨⟨y0, y1, y2, y3, y4⟩, _⟩ := keep5 HK0.out
  go_enter Tryz.func259, Tryz.ntmps259
  go_wp2_with fail
  go_loopw [3, 12] (fun v i wr => ∃ (i' : Nat) (av : Option Addr) (n cap : Nat), i' ≤ fs.length ∧ i = .int .i64 i' ∧ v = .slice av n cap ∧ Hid (n = 2 + i') ∧ Hid (OwnTs wr (w.heap.size + 1) (.slice av n cap) ([⟨#[111, 98, 106]⟩, nm] ++ (fs.take i').map fwordT)) ∧ w.heap.size + 1 ≤ wr.heap.size ∧ Below w.heap.size w wr) (fun _ i _ => fs.length - (intOf i).toNat)
  case atStart => exact ⟨0, _, 2, 2, by omega, rfl, rfl, Lib.hid rfl, HO, by simp, HX.out⟩
  case round =>
    obtain ⟨i, av, n, cap, hi, rfl, rfl, HN2, HOr, hzr, hb⟩ := hrel
    have hn10 : n ≤ 10 := by have := HN2.out; omega
    have HB := Lib.hid hb
    clear y0 y1 y2 y3 y4
    by_cases hlt : i < fs.length
    · have hli : (i : Int) < (fs.length : Int) := by omega
      obtain ⟨f, b, off, hd, rfl, hAb, hbb, hok, hc⟩ := (HF.out.below fieldLies hB hb).at hlt
      obtain ⟨c0, c1, c2, c3, c4, c5⟩ := row6 hc
      have HD := Lib.hid hd
      have hmem := List.mem_iff_getElem?.2 ⟨i, hd⟩
      have HBA : Hid (∀ o, Below w.heap.size w (wr.alloc o)) := Lib.hid fun o => HB.out.alloc HB.out.size o
      have CT : Hid (∀ o, Calls Tryz.prog 263 #[.agg f.cells.toArray] (wr.alloc o) fun e w' => e = .returned (.string (fwordT f)) ∧ Below (wr.alloc o).heap.size (wr.alloc o) w') := Lib.hid fun o => implFieldText _ s f (HEACH.out f hmem) hok C (HP.out.over hC (HBA.out o)) (Nat.le_trans hC (HBA.out o).size)
      have hfw := HFW.out f hmem
      have hfc := Lib.hid (show f.cells = [.string f.name, .string f.typ, .bool f.list, .bool f.must, .int .i64 f.size, .int .i64 f.cap] from rfl)
      simp only [FieldP.cells] at CT
      have HLn : Hid (([⟨#[111, 98, 106]⟩, nm] ++ (fs.take i).map fwordT).length = n) := Lib.hid (by have := HN2.out; simp; omega)
      obtain ⟨R, hR⟩ : ∃ R, [⟨#[111, 98, 106]⟩, nm] ++ (fs.take i).map fwordT = R := ⟨_, rfl⟩
      have HR := Lib.hid hR
      rw [hR] at HLn HOr
      have hRl : R.length = n := HLn.out
      obtain ⟨ft, hft⟩ : ∃ x, fwordT f = x := ⟨_, rfl⟩
      have HFT := Lib.hid hft
      rw [hft] at CT hfw
      have HOa : Hid (∀ o, OwnTs (wr.alloc o) (w.heap.size + 1) (.slice av n cap) R) := Lib.hid fun o => HOr.out.below ((Below.refl _ _).alloc (Nat.le_refl _) o)
      clear hd hok hlt hb hmem hR hft hc
      go_wp2_with fail
      refine (CT.out _).mono ?_
      rintro e w2 ⟨rfl, hb2⟩
      have HB2 := Lib.hid ((HBA.out _).trans (hb2.mono (HBA.out _).size))
      have HO2 : Hid (OwnTs (w2.alloc (.cells #[.string ft] 9)) (w.heap.size + 1) (.slice av n cap) R) := Lib.hid (((HOa.out _).below hb2).below ((Below.refl _ _).alloc (Nat.le_refl _) _))
      have hz2 : w.heap.size + 1 ≤ (w2.alloc (.cells #[.string ft] 9)).heap.size := by have := hb2.size; simp at this ⊢; omega
      have HB3 := Lib.hid (HB2.out.alloc HB2.out.size (.cells #[.string ft] 9))
      have ⟨q0, _⟩ := keep1 (heap_alloc_new w2 (.cells #[.string ft] 9))
      clear hb2
      go_wp2_with (at_builtin; go_must (refine app_text rfl _ _ rfl (w.heap.size + 1) (.slice av n cap) R rfl HO2.out w2.heap.size 1 rfl ft q0 (by omega) hz2 ?_); rw [hRl]; intro a3 cap3 w3 hown3 hb3)
      have HO3 : Hid (OwnTs w3 (w.heap.size + 1) (.slice a3 (n + 1) cap3) ([⟨#[111, 98, 106]⟩, nm] ++ (fs.take (i + 1)).map fwordT)) := Lib.hid (by
        rw [List.take_add_one, HD.out, List.map_append, ← List.append_assoc, HR.out]
        simp only [Option.toList_some, List.map_cons, List.map_nil, HFT.out]
        exact hown3)
      have HB4 := Lib.hid (HB3.out.trans (hb3.mono (by omega)))
      have hz3 := Nat.le_trans hz2 hb3.size
      clear hown3 hb3
      go_roundw
      case rel => exact ⟨i + 1, a3, n + 1, cap3, by omega, by go_num, rfl, Lib.hid (by have := HN2.out; omega), HO3, hz3, HB4.out⟩
      case measure => simp [intOf]; omega
    · obtain rfl : i = fs.length := by omega
      have hx := HOr.out
      rw [List.take_length] at hx
      have hRl : ([⟨#[111, 98, 106]⟩, nm] ++ fs.map fwordT).length = n := by have := HN2.out; simp; omega
      obtain ⟨a8, c8, he, hc8, hx8⟩ := OwnTs.textsX hx (fun x hx => by
        simp only [List.cons_append, List.nil_append, List.mem_cons] at hx
        rcases hx with rfl | rfl | hx
        · unfold OkS; decide
        · exact hn
        · obtain ⟨f, hf, rfl⟩ := List.mem_map.1 hx
          have := HFW.out f hf
          unfold OkS; omega) (by omega) hzr
      obtain ⟨rfl, rfl⟩ : av = a8 ∧ cap = c8 := by cases he; exact ⟨rfl, rfl⟩
      have HX8 := Lib.hid (RowsX.at_ textLies (fun h => h) hx8)
      have HC8 := Lib.hid hc8
      have HRL := Lib.hid hRl
      clear hlt hb hx he hc8 hx8 hRl
      go_wp2_with fail
      go_ret
      exact ⟨⟨av, cap, (by have h := HRL.out; simp only [List.cons_append, List.nil_append] at h; rw [h]; rfl), HC8.out, RowsAt.wide textLies HX8.out (Nat.zero_le _) (Nat.le_refl _)⟩, HB.out⟩

/-- strings.Join of texts with one blank between. -/
theorem joinC (w : World) (e : Ending) (L : List ByteArray) (a : Option Addr) (cap : Nat) (h : TextsAt w 0 w.heap.size a L.length L) (hcap : L.length ≤ cap) (hne : L ≠ []) (hl : L.length ≤ 1000000) (hlen : (Lib.join (L.map bL) [32]).length ≤ 140737488355328) :
    Calls Tryz.prog 114 #[.slice a L.length cap, .string ⟨#[32]⟩] w fun e w' => e = .returned (.string (ubR (Lib.join (L.map bL) [32]))) ∧ Below w.heap.size w w' := by
  rcases h.2.2 with h0 | ⟨b, off, rfl, _, hb, hc⟩
  · exact absurd h0 hne
  have key := Tryz.strings_Join b off cap L ⟨#[32]⟩ w (fun j x hj => by
      have := (hc j x hj).2
      rwa [Nat.mul_one] at this) hb (by omega) hcap hlen
  exact key
/-- A line's words with blanks between are the line, but for its end. -/
theorem lwords_join {s : List TypeP} {x : TypeP} (hL : LineOk s x) : Lib.join ((lwords x).map bL) [32] = kw x.kind ++ blanks (restT x) := by
  have h1 : (lwords x).map bL = kw x.kind :: restT x := by
    unfold lwords restT
    simp only [List.map_cons, List.map_append, List.map_map]
    rw [show bL (ubR (kw x.kind)) = kw x.kind from bL_ub _]
    congr 2
    · congr 1
      · split <;> rfl
      · congr 1
        exact List.map_congr_left fun f _ => fword_bL f
  rw [h1]
  rw [Lib.join_cons]
  congr 1
theorem lwords_len (x : TypeP) : (lwords x).length ≤ x.fields.length + x.members.length + 3 := by
  unfold lwords
  simp only [List.length_cons, List.length_append, List.length_map]
  split <;> simp <;> omega
end Go.Proofs.YtceabbbmgfeofaaGreatDoor.Rw
