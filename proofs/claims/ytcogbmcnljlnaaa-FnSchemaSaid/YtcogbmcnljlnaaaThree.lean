/-
  The three schemas that the laws draw, plainly: each is right, and its text is the one that the draws hold.
-/
import Derived.Test.YtcogbmcnljlnaaaRows
import Derived.Test.YtcogbmcnljlnaaaPrintS
namespace Go.Proofs.Ytcogbmcnljlnaaa.Rw
open Go.RowKit Words Decs
set_option linter.unusedVariables false
set_option maxRecDepth 100000

def ofC (s : ByteArray) (lo hi : Nat) : Bool := decide (1 ≤ s.size) && (decide (s.size ≤ 8) && s.data.toList.all fun x => decide (lo ≤ x.toNat) && decide (x.toNat ≤ hi))
theorem ofC_yes {s : ByteArray} {lo hi : Nat} (h : ofC s lo hi = true) : ofB s lo hi = true := by
  unfold ofC at h
  simp only [Bool.and_eq_true, decide_eq_true_eq, List.all_eq_true] at h
  refine ofB_yes ⟨h.1, h.2.1, fun k hk => ?_⟩
  rw [← bt_at hk]
  have := h.2.2 (s[k]) (by show s.data[k] ∈ s.data.toList; exact Array.mem_toList_iff.2 (Array.getElem_mem _))
  omega
theorem word_of {s : ByteArray} (h : ofC s 97 122 = true) (h1 : (s.toList == [111, 110]) = false) (h2 : (s.toList == [102, 114, 97, 103, 109, 101, 110, 116]) = false) : wordB s = true := by
  unfold wordB; rw [show ofB s 97 122 = true from ofC_yes h, h1, h2]; rfl
theorem type_of {s : ByteArray} (h : ofC s 65 90 = true) : typeB s = true := ofC_yes h
theorem w_any : wordB ⟨#[97, 110, 121]⟩ = true := word_of (by decide) (by rw [Lib.toList_data]; decide) (by rw [Lib.toList_data]; decide)
theorem w_best : wordB ⟨#[98, 101, 115, 116]⟩ = true := word_of (by decide) (by rw [Lib.toList_data]; decide) (by rw [Lib.toList_data]; decide)
theorem w_by : wordB ⟨#[98, 121]⟩ = true := word_of (by decide) (by rw [Lib.toList_data]; decide) (by rw [Lib.toList_data]; decide)
theorem w_friends : wordB ⟨#[102, 114, 105, 101, 110, 100, 115]⟩ = true := word_of (by decide) (by rw [Lib.toList_data]; decide) (by rw [Lib.toList_data]; decide)
theorem w_id : wordB ⟨#[105, 100]⟩ = true := word_of (by decide) (by rw [Lib.toList_data]; decide) (by rw [Lib.toList_data]; decide)
theorem w_me : wordB ⟨#[109, 101]⟩ = true := word_of (by decide) (by rw [Lib.toList_data]; decide) (by rw [Lib.toList_data]; decide)
theorem w_name : wordB ⟨#[110, 97, 109, 101]⟩ = true := word_of (by decide) (by rw [Lib.toList_data]; decide) (by rw [Lib.toList_data]; decide)
theorem w_posts : wordB ⟨#[112, 111, 115, 116, 115]⟩ = true := word_of (by decide) (by rw [Lib.toList_data]; decide) (by rw [Lib.toList_data]; decide)
theorem w_tags : wordB ⟨#[116, 97, 103, 115]⟩ = true := word_of (by decide) (by rw [Lib.toList_data]; decide) (by rw [Lib.toList_data]; decide)
theorem w_text : wordB ⟨#[116, 101, 120, 116]⟩ = true := word_of (by decide) (by rw [Lib.toList_data]; decide) (by rw [Lib.toList_data]; decide)
theorem w_users : wordB ⟨#[117, 115, 101, 114, 115]⟩ = true := word_of (by decide) (by rw [Lib.toList_data]; decide) (by rw [Lib.toList_data]; decide)
theorem t_ANY : typeB ⟨#[65, 78, 89]⟩ = true := type_of (by decide)
theorem t_POST : typeB ⟨#[80, 79, 83, 84]⟩ = true := type_of (by decide)
theorem t_Q : typeB ⟨#[81]⟩ = true := type_of (by decide)
theorem t_STR : typeB ⟨#[83, 84, 82]⟩ = true := type_of (by decide)
theorem t_USER : typeB ⟨#[85, 83, 69, 82]⟩ = true := type_of (by decide)
theorem d_1 {n : Nat} (h : n < 10) : decL n = [UInt8.ofNat (48 + n)] := decL_small h
theorem dec2 : decB 2 = cB [50] := by unfold decB cB; rw [if_neg (by decide), show (2 : Int).natAbs = 2 from rfl, d_1 (by decide)]; rfl
theorem dec3 : decB 3 = cB [51] := by unfold decB cB; rw [if_neg (by decide), show (3 : Int).natAbs = 3 from rfl, d_1 (by decide)]; rfl
theorem dec4 : decB 4 = cB [52] := by unfold decB cB; rw [if_neg (by decide), show (4 : Int).natAbs = 4 from rfl, d_1 (by decide)]; rfl
theorem dec5 : decB 5 = cB [53] := by unfold decB cB; rw [if_neg (by decide), show (5 : Int).natAbs = 5 from rfl, d_1 (by decide)]; rfl
theorem d_10 : decL 10 = [49, 48] := by rw [decL_big (by decide), d_1 (by decide)]; rfl
theorem dec10 : decB 10 = cB [49, 48] := by unfold decB cB; rw [if_neg (by decide), show (10 : Int).natAbs = 10 from rfl, d_10]; rfl
theorem dec100 : decB 100 = cB [49, 48, 48] := by unfold decB cB; rw [if_neg (by decide), show (100 : Int).natAbs = 100 from rfl, decL_big (by decide), show (100 : Nat) / 10 = 10 from rfl, d_10]; rfl
def three0 : List TypeP := [⟨⟨#[81]⟩, 2, 0, [⟨⟨#[105, 100]⟩, ⟨#[83, 84, 82]⟩, false, false, 0, 0⟩, ⟨⟨#[117, 115, 101, 114, 115]⟩, ⟨#[85, 83, 69, 82]⟩, true, false, 0, 5⟩, ⟨⟨#[109, 101]⟩, ⟨#[85, 83, 69, 82]⟩, false, false, 0, 0⟩, ⟨⟨#[97, 110, 121]⟩, ⟨#[65, 78, 89]⟩, true, false, 2, 0⟩], []⟩,
  ⟨⟨#[83, 84, 82]⟩, 1, 10, [], []⟩,
  ⟨⟨#[85, 83, 69, 82]⟩, 2, 0, [⟨⟨#[105, 100]⟩, ⟨#[83, 84, 82]⟩, false, true, 0, 0⟩, ⟨⟨#[110, 97, 109, 101]⟩, ⟨#[83, 84, 82]⟩, false, false, 0, 0⟩, ⟨⟨#[112, 111, 115, 116, 115]⟩, ⟨#[80, 79, 83, 84]⟩, true, false, 3, 0⟩, ⟨⟨#[98, 101, 115, 116]⟩, ⟨#[80, 79, 83, 84]⟩, false, true, 0, 0⟩], []⟩,
  ⟨⟨#[80, 79, 83, 84]⟩, 2, 0, [⟨⟨#[105, 100]⟩, ⟨#[83, 84, 82]⟩, false, false, 0, 0⟩, ⟨⟨#[116, 101, 120, 116]⟩, ⟨#[83, 84, 82]⟩, false, false, 0, 0⟩, ⟨⟨#[98, 121]⟩, ⟨#[85, 83, 69, 82]⟩, false, false, 0, 0⟩, ⟨⟨#[116, 97, 103, 115]⟩, ⟨#[83, 84, 82]⟩, true, false, 0, 4⟩], []⟩,
  ⟨⟨#[65, 78, 89]⟩, 3, 0, [], [⟨#[85, 83, 69, 82]⟩, ⟨#[80, 79, 83, 84]⟩]⟩]
def text0 : ByteArray := ⟨#[111, 98, 106, 32, 81, 32, 105, 100, 58, 83, 84, 82, 32, 117, 115, 101, 114, 115, 58, 85, 83, 69, 82, 91, 60, 53, 93, 32, 109, 101, 58, 85, 83, 69, 82, 32, 97, 110, 121, 58, 65, 78, 89, 91, 50, 93, 10, 108, 101, 97, 102, 32, 83, 84, 82, 32, 49, 48, 10, 111, 98, 106, 32, 85, 83, 69, 82, 32, 105, 100, 58, 83, 84, 82, 33, 32, 110, 97, 109, 101, 58, 83, 84, 82, 32, 112, 111, 115, 116, 115, 58, 80, 79, 83, 84, 91, 51, 93, 32, 98, 101, 115, 116, 58, 80, 79, 83, 84, 33, 10, 111, 98, 106, 32, 80, 79, 83, 84, 32, 105, 100, 58, 83, 84, 82, 32, 116, 101, 120, 116, 58, 83, 84, 82, 32, 98, 121, 58, 85, 83, 69, 82, 32, 116, 97, 103, 115, 58, 83, 84, 82, 91, 60, 52, 93, 10, 111, 110, 101, 32, 65, 78, 89, 32, 85, 83, 69, 82, 32, 80, 79, 83, 84, 10]⟩

def three1 : List TypeP := [⟨⟨#[81]⟩, 2, 0, [⟨⟨#[105, 100]⟩, ⟨#[83, 84, 82]⟩, false, true, 0, 0⟩, ⟨⟨#[117, 115, 101, 114, 115]⟩, ⟨#[85, 83, 69, 82]⟩, true, true, 2, 0⟩, ⟨⟨#[97, 110, 121]⟩, ⟨#[65, 78, 89]⟩, false, false, 0, 0⟩], []⟩,
  ⟨⟨#[83, 84, 82]⟩, 1, 3, [], []⟩,
  ⟨⟨#[85, 83, 69, 82]⟩, 2, 0, [⟨⟨#[105, 100]⟩, ⟨#[83, 84, 82]⟩, false, false, 0, 0⟩, ⟨⟨#[110, 97, 109, 101]⟩, ⟨#[83, 84, 82]⟩, false, true, 0, 0⟩, ⟨⟨#[102, 114, 105, 101, 110, 100, 115]⟩, ⟨#[85, 83, 69, 82]⟩, true, false, 0, 3⟩, ⟨⟨#[97, 110, 121]⟩, ⟨#[65, 78, 89]⟩, false, true, 0, 0⟩], []⟩,
  ⟨⟨#[80, 79, 83, 84]⟩, 2, 0, [⟨⟨#[105, 100]⟩, ⟨#[83, 84, 82]⟩, false, false, 0, 0⟩, ⟨⟨#[98, 121]⟩, ⟨#[85, 83, 69, 82]⟩, false, true, 0, 0⟩], []⟩,
  ⟨⟨#[65, 78, 89]⟩, 3, 0, [], [⟨#[80, 79, 83, 84]⟩, ⟨#[85, 83, 69, 82]⟩, ⟨#[81]⟩]⟩]
def text1 : ByteArray := ⟨#[111, 98, 106, 32, 81, 32, 105, 100, 58, 83, 84, 82, 33, 32, 117, 115, 101, 114, 115, 58, 85, 83, 69, 82, 91, 50, 93, 33, 32, 97, 110, 121, 58, 65, 78, 89, 10, 108, 101, 97, 102, 32, 83, 84, 82, 32, 51, 10, 111, 98, 106, 32, 85, 83, 69, 82, 32, 105, 100, 58, 83, 84, 82, 32, 110, 97, 109, 101, 58, 83, 84, 82, 33, 32, 102, 114, 105, 101, 110, 100, 115, 58, 85, 83, 69, 82, 91, 60, 51, 93, 32, 97, 110, 121, 58, 65, 78, 89, 33, 10, 111, 98, 106, 32, 80, 79, 83, 84, 32, 105, 100, 58, 83, 84, 82, 32, 98, 121, 58, 85, 83, 69, 82, 33, 10, 111, 110, 101, 32, 65, 78, 89, 32, 80, 79, 83, 84, 32, 85, 83, 69, 82, 32, 81, 10]⟩

def three2 : List TypeP := [⟨⟨#[81]⟩, 2, 0, [⟨⟨#[105, 100]⟩, ⟨#[83, 84, 82]⟩, false, false, 0, 0⟩, ⟨⟨#[117, 115, 101, 114, 115]⟩, ⟨#[85, 83, 69, 82]⟩, true, false, 100, 0⟩, ⟨⟨#[112, 111, 115, 116, 115]⟩, ⟨#[80, 79, 83, 84]⟩, true, false, 0, 100⟩], []⟩,
  ⟨⟨#[83, 84, 82]⟩, 1, 100, [], []⟩,
  ⟨⟨#[85, 83, 69, 82]⟩, 2, 0, [⟨⟨#[105, 100]⟩, ⟨#[83, 84, 82]⟩, false, false, 0, 0⟩, ⟨⟨#[112, 111, 115, 116, 115]⟩, ⟨#[80, 79, 83, 84]⟩, true, false, 100, 0⟩], []⟩,
  ⟨⟨#[80, 79, 83, 84]⟩, 2, 0, [⟨⟨#[105, 100]⟩, ⟨#[83, 84, 82]⟩, false, false, 0, 0⟩, ⟨⟨#[117, 115, 101, 114, 115]⟩, ⟨#[85, 83, 69, 82]⟩, true, false, 100, 0⟩], []⟩,
  ⟨⟨#[65, 78, 89]⟩, 3, 0, [], [⟨#[80, 79, 83, 84]⟩]⟩]
def text2 : ByteArray := ⟨#[111, 98, 106, 32, 81, 32, 105, 100, 58, 83, 84, 82, 32, 117, 115, 101, 114, 115, 58, 85, 83, 69, 82, 91, 49, 48, 48, 93, 32, 112, 111, 115, 116, 115, 58, 80, 79, 83, 84, 91, 60, 49, 48, 48, 93, 10, 108, 101, 97, 102, 32, 83, 84, 82, 32, 49, 48, 48, 10, 111, 98, 106, 32, 85, 83, 69, 82, 32, 105, 100, 58, 83, 84, 82, 32, 112, 111, 115, 116, 115, 58, 80, 79, 83, 84, 91, 49, 48, 48, 93, 10, 111, 98, 106, 32, 80, 79, 83, 84, 32, 105, 100, 58, 83, 84, 82, 32, 117, 115, 101, 114, 115, 58, 85, 83, 69, 82, 91, 49, 48, 48, 93, 10, 111, 110, 101, 32, 65, 78, 89, 32, 80, 79, 83, 84, 10]⟩
theorem right0 : schemaB three0 = true := by
  simp only [three0, schemaB, headKind, typesAll, typeOkB, partB, leafB, objB, oneTB, fieldsB, fieldsAll, fieldB, membersAll, memberB, w_any, w_best, w_by, w_id, w_me, w_name, w_posts, w_tags, w_text, w_users, t_ANY, t_POST, t_Q, t_STR, t_USER, Bool.true_and]
  decide
theorem print0 : schT three0 = text0 := by
  unfold schT
  rw [if_pos right0]
  simp only [three0, linesT, lineT, headT, fieldsT, fieldT, memsT, tailT, dec2, dec3, dec4, dec5, dec10]
  kernel_rfl
theorem right1 : schemaB three1 = true := by
  simp only [three1, schemaB, headKind, typesAll, typeOkB, partB, leafB, objB, oneTB, fieldsB, fieldsAll, fieldB, membersAll, memberB, w_any, w_by, w_friends, w_id, w_name, w_users, t_ANY, t_POST, t_Q, t_STR, t_USER, Bool.true_and]
  decide
theorem print1 : schT three1 = text1 := by
  unfold schT
  rw [if_pos right1]
  simp only [three1, linesT, lineT, headT, fieldsT, fieldT, memsT, tailT, dec2, dec3]
  kernel_rfl
theorem right2 : schemaB three2 = true := by
  simp only [three2, schemaB, headKind, typesAll, typeOkB, partB, leafB, objB, oneTB, fieldsB, fieldsAll, fieldB, membersAll, memberB, w_id, w_posts, w_users, t_ANY, t_POST, t_Q, t_STR, t_USER, Bool.true_and]
  decide
theorem print2 : schT three2 = text2 := by
  unfold schT
  rw [if_pos right2]
  simp only [three2, linesT, lineT, headT, fieldsT, fieldT, memsT, tailT, dec100]
  kernel_rfl
/-- What reading one of the three texts answers. -/
theorem out_three {t : ByteArray} {s : List TypeP} (h : schemaB s = true) (ht : schT s = t) (h1 : t.size ≤ 8000) (h0 : t.size ≠ 0) : schemaP (bL t) = s := by
  rw [← ht]; exact read_schema h
end Go.Proofs.Ytcogbmcnljlnaaa.Rw
