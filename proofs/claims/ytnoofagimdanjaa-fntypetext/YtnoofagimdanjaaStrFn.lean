/-
  DERIVED. THE WALKS OF strings.CutSuffix, strings.CutPrefix at one byte, and of what they call; of spec.l1Word.
-/
import Derived.Test.YtnoofagimdanjaaNames
import Derived.Test.YtnoofagimdanjaaPlainT
import Derived.Lib.Strings
import Derived.Lib.IndexBytes
namespace Go.Proofs.Ytnoofagimdanjaa
open Go.RowKit
set_option linter.unusedVariables false
set_option linter.unusedSimpArgs false

def lastB (s : ByteArray) (c : UInt8) : Bool := decide (1 ≤ s.size) && (s.extract (s.size - 1) s.size).toList == [c]
def firstB (s : ByteArray) (c : UInt8) : Bool := decide (1 ≤ s.size) && (s.extract 0 1).toList == [c]

set_option maxHeartbeats 400000 in
theorem hasSuffix_any (s : ByteArray) (c : UInt8) (w : World) (hs : s.size ≤ 140737488351232) :
    Calls Try.prog 36 #[.string s, .string ⟨#[c]⟩] w fun e w' => e = .returned (.bool (lastB s c)) ∧ w' = w := by
  by_cases h1 : 1 ≤ s.size
  · have hi : (1 : Int) ≤ (s.size : Int) := by omega
    have hsub : (s.size : Int) - 1 = ((s.size - 1 : Nat) : Int) := by omega
    have HB : Hid (lastB s c = ((s.extract (s.size - 1) s.size).toList == [c])) := by show _ = _; rw [lastB, decide_eq_true h1, Bool.true_and]
    go_enter Try.func36, Try.ntmps36
    go_wp2_with fail
    go_ret
    refine ⟨ret_bool ?_, rfl⟩
    rw [HB.out]
  · have HB : Hid (lastB s c = false) := by show _ = _; rw [lastB, decide_eq_false h1]; rfl
    have hi : ¬ (1 : Int) ≤ (s.size : Int) := by omega
    go_enter Try.func36, Try.ntmps36
    go_wp2_with fail
    go_ret
    exact ⟨ret_bool HB.out.symm, rfl⟩

set_option maxHeartbeats 400000 in
theorem hasPrefix_any (s : ByteArray) (c : UInt8) (w : World) (hs : s.size ≤ 140737488351232) :
    Calls Try.prog 37 #[.string s, .string ⟨#[c]⟩] w fun e w' => e = .returned (.bool (firstB s c)) ∧ w' = w := by
  by_cases h1 : 1 ≤ s.size
  · have hi : (1 : Int) ≤ (s.size : Int) := by omega
    have HB : Hid (firstB s c = ((s.extract 0 1).toList == [c])) := by show _ = _; rw [firstB, decide_eq_true h1, Bool.true_and]
    go_enter Try.func37, Try.ntmps37
    go_wp2_with fail
    go_ret
    refine ⟨ret_bool ?_, rfl⟩
    rw [HB.out]
  · have HB : Hid (firstB s c = false) := by show _ = _; rw [firstB, decide_eq_false h1]; rfl
    have hi : ¬ (1 : Int) ≤ (s.size : Int) := by omega
    go_enter Try.func37, Try.ntmps37
    go_wp2_with fail
    go_ret
    exact ⟨ret_bool HB.out.symm, rfl⟩

theorem lastB_size {s : ByteArray} {c : UInt8} (h : lastB s c = true) : 1 ≤ s.size := by
  simp only [lastB, Bool.and_eq_true, decide_eq_true_eq] at h; exact h.1
theorem firstB_size {s : ByteArray} {c : UInt8} (h : firstB s c = true) : 1 ≤ s.size := by
  simp only [firstB, Bool.and_eq_true, decide_eq_true_eq] at h; exact h.1

set_option maxHeartbeats 400000 in
theorem liteCutSuffix_any (s : ByteArray) (c : UInt8) (w : World) (hs : s.size ≤ 140737488351232) :
    Calls Try.prog 31 #[.string s, .string ⟨#[c]⟩] w fun e w' => e = .returned (.tuple #[.string (if lastB s c then s.extract 0 (s.size - 1) else s), .bool (lastB s c)]) ∧ w' = w := by
  cases hl : lastB s c
  all_goals
    go_enter Try.func31, Try.ntmps31
    go_wp2_with fail
    refine (hasSuffix_any s c _ hs).mono ?_
    rintro e w1 ⟨rfl, rfl⟩
    rw [hl]
  · go_wp2_with fail
    go_ret2
    exact ⟨rfl, rfl⟩
  · have hi : (1 : Int) ≤ (s.size : Int) := by have := lastB_size hl; omega
    have hsub : (s.size : Int) - 1 = ((s.size - 1 : Nat) : Int) := by omega
    go_wp2_with fail
    go_ret2
    exact ⟨rfl, rfl⟩

set_option maxHeartbeats 400000 in
theorem liteCutPrefix_any (s : ByteArray) (c : UInt8) (w : World) (hs : s.size ≤ 140737488351232) :
    Calls Try.prog 32 #[.string s, .string ⟨#[c]⟩] w fun e w' => e = .returned (.tuple #[.string (if firstB s c then s.extract 1 s.size else s), .bool (firstB s c)]) ∧ w' = w := by
  cases hl : firstB s c
  all_goals
    go_enter Try.func32, Try.ntmps32
    go_wp2_with fail
    refine (hasPrefix_any s c _ hs).mono ?_
    rintro e w1 ⟨rfl, rfl⟩
    rw [hl]
  · go_wp2_with fail
    go_ret2
    exact ⟨rfl, rfl⟩
  · have hi : (1 : Int) ≤ (s.size : Int) := by have := firstB_size hl; omega
    go_wp2_with fail
    go_ret2
    exact ⟨rfl, rfl⟩

/-- The text without its last byte c, and whether it had it. -/
def endOf (s : ByteArray) (c : UInt8) : ByteArray := B (cutEnd s.data.toList c).1
def headOf (s : ByteArray) (c : UInt8) : ByteArray := B (cutHead s.data.toList c).1

theorem lastB_cut (s : ByteArray) (c : UInt8) : lastB s c = (cutEnd s.data.toList c).2 ∧ (if lastB s c then s.extract 0 (s.size - 1) else s) = endOf s c := by
  have hlen := len_toList s
  have hl : lastB s c = decide (s.data.toList.getLast? = some c) := by
    rw [Bool.eq_iff_iff]
    simp only [lastB, Bool.and_eq_true, decide_eq_true_eq, ByteArray.toList_eq, Lib.extract_data, beq_iff_eq]
    generalize s.data.toList = l at *
    rw [← hlen]
    rcases List.eq_nil_or_concat l with rfl | ⟨ys, y, rfl⟩
    · simp
    · simp
  refine ⟨?_, ?_⟩
  · rw [hl]; unfold cutEnd; by_cases h : s.data.toList.getLast? = some c
    · rw [if_pos h, decide_eq_true h]
    · rw [if_neg h, decide_eq_false h]
  · unfold endOf cutEnd
    rw [hl]
    by_cases h : s.data.toList.getLast? = some c
    · simp only [h, decide_true, if_true]
      apply B_of_data
      rw [Lib.extract_data, List.drop_zero, Nat.sub_zero, ← hlen, List.dropLast_eq_take]
    · simp only [h, decide_false, Bool.false_eq_true, if_false]; rfl

theorem firstB_cut (s : ByteArray) (c : UInt8) : firstB s c = (cutHead s.data.toList c).2 ∧ (if firstB s c then s.extract 1 s.size else s) = headOf s c := by
  have hlen := len_toList s
  have hl : firstB s c = decide (s.data.toList.head? = some c) := by
    rw [Bool.eq_iff_iff]
    simp only [firstB, Bool.and_eq_true, decide_eq_true_eq, ByteArray.toList_eq, Lib.extract_data, beq_iff_eq]
    rw [← hlen]
    generalize s.data.toList = l at *
    cases l with
    | nil => simp
    | cons a t => simp
  refine ⟨?_, ?_⟩
  · rw [hl]; unfold cutHead; by_cases h : s.data.toList.head? = some c
    · rw [if_pos h, decide_eq_true h]
    · rw [if_neg h, decide_eq_false h]
  · unfold headOf cutHead
    rw [hl]
    by_cases h : s.data.toList.head? = some c
    · simp only [h, decide_true, if_true]
      apply B_of_data
      rw [Lib.extract_to_end, List.drop_one]
    · simp only [h, decide_false, Bool.false_eq_true, if_false]; rfl

set_option maxHeartbeats 400000 in
theorem cutSuffix_any (s : ByteArray) (c : UInt8) (w : World) (hs : s.size ≤ 140737488351232) :
    Calls Try.prog 25 #[.string s, .string ⟨#[c]⟩] w fun e w' => e = .returned (.tuple #[.string (endOf s c), .bool (cutEnd s.data.toList c).2]) ∧ w' = w := by
  obtain ⟨h1, h2⟩ := lastB_cut s c
  have H1 : Hid (lastB s c = (cutEnd s.data.toList c).2) := h1
  have H2 : Hid ((if lastB s c then s.extract 0 (s.size - 1) else s) = endOf s c) := h2
  clear h1 h2
  go_enter Try.func25, Try.ntmps25
  go_wp2_with fail
  refine (liteCutSuffix_any s c _ hs).mono ?_
  rintro e w1 ⟨rfl, rfl⟩
  rw [H2.out, H1.out]
  go_wp2_with fail
  go_ret2
  exact ⟨rfl, rfl⟩

set_option maxHeartbeats 400000 in
theorem cutPrefix_any (s : ByteArray) (c : UInt8) (w : World) (hs : s.size ≤ 140737488351232) :
    Calls Try.prog 26 #[.string s, .string ⟨#[c]⟩] w fun e w' => e = .returned (.tuple #[.string (headOf s c), .bool (cutHead s.data.toList c).2]) ∧ w' = w := by
  obtain ⟨h1, h2⟩ := firstB_cut s c
  have H1 : Hid (firstB s c = (cutHead s.data.toList c).2) := h1
  have H2 : Hid ((if firstB s c then s.extract 1 s.size else s) = headOf s c) := h2
  clear h1 h2
  go_enter Try.func26, Try.ntmps26
  go_wp2_with fail
  refine (liteCutPrefix_any s c _ hs).mono ?_
  rintro e w1 ⟨rfl, rfl⟩
  rw [H2.out, H1.out]
  go_wp2_with fail
  go_ret2
  exact ⟨rfl, rfl⟩

end Go.Proofs.Ytnoofagimdanjaa
