/-
  Contracts: the program's reader of nodes: took, upTo, key; of what was there its own place alone is changed. Conditions: in memory, a text of at most 8000 bytes; the library's variables hold what the program lays.
-/
import Derived.Test.YtlncdkeooacebaaDoorRows
import Derived.Test.YtlncdkeooacebaaDoorNdS
import Derived.Test.YtlncdkeooacebaaDoorShelf
import Derived.Test.YtlncdkeooacebaaDoorErrAs
namespace Go.Proofs.YtlncdkeooacebaaDoor.Rw
open Go.RowKit Words
open ErrAs (ErrVar)
set_option linter.unusedVariables false
set_option linter.unusedSimpArgs false
set_option maxRecDepth 100000

structure VarsK (w : World) : Prop where
  max : ∃ m, w.cell? ⟨1, 0, none⟩ = some (.int .i64 m)
  err : ErrVar w
/-- So it is, and goes on so whatever is written from block B on. -/
def VarsJ (B : Nat) (w : World) : Prop := ∀ w', Below B w w' → VarsK w'
theorem VarsJ.here {B : Nat} {w : World} (h : VarsJ B w) : VarsK w := h w (Below.refl _ _)
theorem VarsJ.on {B : Nat} {w w1 : World} (h : VarsJ B w) (hb : Below B w w1) : VarsJ B w1 := fun w' g => h w' (hb.trans g)
theorem VarsJ.onl {B p : Nat} {w w1 : World} (h : VarsJ B w) (hp : B ≤ p) (hs : B ≤ w.heap.size) (o : Onl p w w1) : VarsJ B w1 := h.on (o.below hp hs)
def errV : Value := .iface 100 (.agg #[.int .i64 3])
/-- The program's reader at block p, that has s still to read. -/
def RdI (w : World) (p : Nat) (s : Bs) : Prop := w.heap[p]? = some (.cells #[.string (tB s)] 140 (0, 0))
theorem RdI.keep {w w' : World} {p : Nat} {s : Bs} (h : RdI w p s) (e : w'.heap[p]? = w.heap[p]?) : RdI w' p s := e.trans h
theorem RdI.lt {w : World} {p : Nat} {s : Bs} (h : RdI w p s) : p < w.heap.size := lt_of_get h
theorem RdI.cells {w : World} {p : Nat} {s : Bs} (h : RdI w p s) : w.cell? ⟨p, 0, none⟩ = some (.string (tB s)) ∧ w.frozen? ⟨p, 0, none⟩ = false := by
  unfold RdI at h
  simp [World.cell?, World.frozen?, h]
theorem RdI.set {w : World} {p : Nat} {s : Bs} (h : RdI w p s) (r : Bs) : RdI (w.setCell ⟨p, 0, none⟩ (.string (tB r))) p r := by
  unfold RdI at h ⊢
  rw [heap_setCell_same w p 0 _ _ _ h]; simp
theorem tB_size (s : Bs) : (tB s).size = s.length := by simp [tB, ByteArray.size]
theorem took_get (q s : Bs) : (tookQ q s).isSome = Lib.hasPrefix s q ∧ (tookQ q s).getD s = Lib.trimPrefix s q := by
  unfold tookQ Lib.trimPrefix
  by_cases h : Lib.hasPrefix s q = true
  · simp [h]
  · simp [h]
theorem impTook (w : World) (p : Nat) (s : Bs) (q : ByteArray) (h : RdI w p s) :
    Calls Tryd.prog 103 #[.pointer (some ⟨p, 0, none⟩), .string q] w fun e w' => e = .returned (.bool (tookQ (bl q) s).isSome) ∧ RdI w' p ((tookQ (bl q) s).getD s) ∧ Onl p w w' := by
  have ⟨c0, f0⟩ := h.cells
  obtain ⟨e1, e2⟩ := took_get (bl q) s
  have CP : Hid (Calls Tryd.prog 113 #[.string (tB s), .string q] w fun e w' => e = .returned (.tuple #[.string (tB ((tookQ (bl q) s).getD s)), .bool (tookQ (bl q) s).isSome]) ∧ w' = w) := Lib.hid (by
    refine (Tryd.strings_CutPrefix (tB s) q w).mono ?_
    rintro e w' ⟨rfl, rfl⟩
    exact ⟨by rw [e1, e2]; rfl, rfl⟩)
  have HS := Lib.hid h
  clear h e1 e2
  generalize (tookQ (bl q) s).getD s = r at *
  generalize (tookQ (bl q) s).isSome = z at *
  have HR := Lib.hid (HS.out.set r)
  go_enter Tryd.func103, Tryd.ntmps103
  go_wp2_with (go_at_call 113; refine CP.out.mono ?_; rintro e w' ⟨rfl, rfl⟩)
  go_ret
  exact ⟨rfl, HR.out, (Onl.refl p _).set _⟩
def UpOut (q s : Bs) (e : Ending) (w' : World) (p : Nat) : Prop :=
  (∃ a r, cutQ q s = some (a, r) ∧ e = .returned (.tuple #[.string (tB a), .nilIface]) ∧ RdI w' p r) ∨ (cutQ q s = none ∧ e = .returned (.tuple #[.string ⟨#[]⟩, errV]) ∧ RdI w' p s)
theorem impUpTo (w : World) (p B : Nat) (s : Bs) (q : ByteArray) (h : RdI w p s) (hv : VarsJ B w) (hs : s.length ≤ 8000) :
    Calls Tryd.prog 104 #[.pointer (some ⟨p, 0, none⟩), .string q] w fun e w' => UpOut (bl q) s e w' p ∧ Onl p w w' := by
  have ⟨c0, f0⟩ := h.cells
  obtain ⟨m, hm⟩ := hv.here.max
  have CC : Hid (Calls Tryd.prog 114 #[.string (tB s), .string q] w fun e w' => e = .returned (.tuple #[.string (tB (Lib.cut s (bl q)).1), .string (tB (Lib.cut s (bl q)).2.1), .bool (Lib.cut s (bl q)).2.2]) ∧ ∃ n, w' = w.drewN n) := Lib.hid (by
    refine (Tryd.strings_Cut (tB s) q m w (by rw [tB_size]; omega) hm).mono ?_
    rintro e w' ⟨rfl, h2⟩
    exact ⟨rfl, h2⟩)
  have HS := Lib.hid h
  clear h hv hm
  cases hz : (Lib.cut s (bl q)).2.2 with
  | false =>
    have hf : Hid (cutQ (bl q) s = none) := Lib.hid (by unfold cutQ; rw [hz]; rfl)
    rw [hz] at CC
    clear hz
    go_enter Tryd.func104, Tryd.ntmps104
    go_wp2_with (go_at_call 114; refine CC.out.mono ?_; rintro e w' ⟨rfl, n, rfl⟩)
    exact bodyPost_ret (v := .tuple #[.string ⟨#[]⟩, errV]) (by simp [results, Tryd.results104, go_sem, errV]) rfl ⟨.inr ⟨hf.out, rfl, HS.out⟩, (Onl.refl p _).drewN _⟩
  | true =>
    have hf : Hid (cutQ (bl q) s = some ((Lib.cut s (bl q)).1, (Lib.cut s (bl q)).2.1)) := Lib.hid (by unfold cutQ; rw [hz]; rfl)
    rw [hz] at CC
    clear hz
    generalize (Lib.cut s (bl q)).1 = a at *
    generalize (Lib.cut s (bl q)).2.1 = r at *
    have HR : Hid (∀ n, RdI ((w.drewN n).setCell ⟨p, 0, none⟩ (.string (tB r))) p r) := Lib.hid fun n => RdI.set (w := w.drewN n) (s := s) HS.out r
    go_enter Tryd.func104, Tryd.ntmps104
    go_wp2_with (go_at_call 114; refine CC.out.mono ?_; rintro e w' ⟨rfl, n, rfl⟩)
    exact bodyPost_ret (v := .tuple #[.string (tB a), .nilIface]) (by simp [results, Tryd.results104, go_sem]) rfl ⟨.inl ⟨a, r, hf.out, rfl, HR.out _⟩, ((Onl.refl p _).drewN _).set _⟩
def KeyOut (s : Bs) (e : Ending) (w' : World) (p : Nat) : Prop :=
  (∃ k r, keyQ s = some (k, r) ∧ e = .returned (.tuple #[.string k, .nilIface]) ∧ RdI w' p r) ∨ (keyQ s = none ∧ e = .returned (.tuple #[.string ⟨#[]⟩, errV]) ∧ ∃ s', RdI w' p s')
theorem impKey (w : World) (p B : Nat) (s : Bs) (h : RdI w p s) (hv : VarsJ B w) (hp : B ≤ p) (hB : B ≤ w.heap.size) (hs : s.length ≤ 8000) :
    Calls Tryd.prog 122 #[.pointer (some ⟨p, 0, none⟩)] w fun e w' => KeyOut s e w' p ∧ Onl p w w' := by
  have HT := Lib.hid (impTook w p s ⟨#[34]⟩ h)
  rw [show bl ⟨#[34]⟩ = [34] from rfl] at HT
  have HV := Lib.hid hv
  cases h1 : tookQ [34] s with
  | none =>
    have hf : Hid (keyQ s = none) := Lib.hid (by unfold keyQ; rw [h1]; rfl)
    rw [h1] at HT
    simp only [Option.isSome_none, Option.getD_none] at HT
    clear h1 h hv
    go_enter Tryd.func122, Tryd.ntmps122
    go_wp2_with (go_at_call 103; refine HT.out.mono ?_)
    rintro e w1 ⟨rfl, h2, h3⟩
    have H2 := Lib.hid h2
    have H3 := Lib.hid h3
    clear h2 h3
    go_wp2_with fail
    exact bodyPost_ret (v := .tuple #[.string ⟨#[]⟩, errV]) (by simp [results, Tryd.results122, go_sem, errV]) rfl ⟨.inr ⟨hf.out, rfl, _, H2.out⟩, H3.out⟩
  | some r =>
    have hf : Hid (keyQ s = (cutQ [34, 58] r).map fun q => (tB q.1, q.2)) := Lib.hid (by unfold keyQ; rw [h1]; rfl)
    have hrl : r.length ≤ 8000 := by have := congrArg List.length (took_some h1); simp only [List.length_append] at this; omega
    rw [h1] at HT
    simp only [Option.isSome_some, Option.getD_some] at HT
    clear h1 h hv
    go_enter Tryd.func122, Tryd.ntmps122
    go_wp2_with (go_at_call 103; refine HT.out.mono ?_)
    rintro e w1 ⟨rfl, h2, h3⟩
    have HU := Lib.hid (impUpTo w1 p B r ⟨#[34, 58]⟩ h2 (HV.out.onl hp hB h3) hrl)
    rw [show bl ⟨#[34, 58]⟩ = [34, 58] from rfl] at HU
    have H3 := Lib.hid h3
    clear h2 h3
    go_wp2_with fail
    refine HU.out.mono ?_
    rintro e w2 ⟨hu, h4⟩
    have H4 := Lib.hid (H3.out.trans h4)
    clear h4
    rcases hu with ⟨a, r2, e1, rfl, e2⟩ | ⟨e1, rfl, e2⟩
    · have HQ := Lib.hid e2
      have HE := Lib.hid e1
      clear e1 e2
      go_wp2_with fail
      exact bodyPost_ret (v := .tuple #[.string (tB a), .nilIface]) (by simp [results, Tryd.results122, go_sem]) rfl ⟨.inl ⟨tB a, r2, by rw [hf.out, HE.out]; rfl, rfl, HQ.out⟩, H4.out⟩
    · have HQ := Lib.hid e2
      have HE := Lib.hid e1
      clear e1 e2
      go_wp2_with fail
      exact bodyPost_ret (v := .tuple #[.string ⟨#[]⟩, errV]) (by simp [results, Tryd.results122, go_sem]) rfl ⟨.inr ⟨by rw [hf.out, HE.out]; rfl, rfl, _, HQ.out⟩, H4.out⟩
end Go.Proofs.YtlncdkeooacebaaDoor.Rw
