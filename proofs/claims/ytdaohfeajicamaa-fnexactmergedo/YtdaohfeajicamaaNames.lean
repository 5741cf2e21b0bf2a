
/-
  DERIVED. THE WALKS OF THE LEAVES: letters, figures, names.
-/
import Derived.Test.YtdaohfeajicamaaRows
import Derived.Test.YtdaohfeajicamaaPlainA
import Derived.WalkKit
import Derived.WalkSpells
import Derived.WalkLawsBesides
namespace Go.Proofs.Ytdaohfeajicamaa
open Go.RowKit
set_option linter.unusedVariables false
set_option linter.unusedSimpArgs false

theorem ret_string {a b : ByteArray} (h : a = b) : Ending.returned (.string a) = .returned (.string b) := by rw [h]
theorem ret_bool {a b : Bool} (h : a = b) : Ending.returned (.bool a) = .returned (.bool b) := by rw [h]

set_option maxHeartbeats 400000 in
theorem l1Letter_any (c : Int) (w : World) :
    Calls Try.prog 111 #[.int .u8 c] w fun e w' => e = .returned (.bool (letterB c)) ∧ w' = w := by
  go_enter Try.func111, Try.ntmps111
  go_wp2
  all_goals
    go_ret
    exact ⟨ret_bool (by rw [Bool.eq_iff_iff]; simp [letterB]; try omega), rfl⟩

set_option maxHeartbeats 400000 in
theorem l1Figure_any (c : Int) (w : World) :
    Calls Try.prog 112 #[.int .u8 c] w fun e w' => e = .returned (.bool (figureB c)) ∧ w' = w := by
  go_enter Try.func112, Try.ntmps112
  go_wp2
  all_goals
    go_ret
    exact ⟨ret_bool (by rw [Bool.eq_iff_iff]; simp [figureB]; try omega), rfl⟩

set_option maxHeartbeats 400000 in
theorem isFigure_any (c : Int) (w : World) :
    Calls Try.prog 81 #[.int .u8 c] w fun e w' => e = .returned (.bool (figureB c)) ∧ w' = w := by
  go_enter Try.func81, Try.ntmps81
  go_wp2
  all_goals
    go_ret
    exact ⟨ret_bool (by rw [Bool.eq_iff_iff]; simp [figureB]; try omega), rfl⟩

set_option maxHeartbeats 400000 in
theorem l1In_any (n lo hi : Int) (w : World) :
    Calls Try.prog 88 #[.int .i64 n, .int .i64 lo, .int .i64 hi] w fun e w' => e = .returned (.bool (decide (lo ≤ n ∧ n ≤ hi))) ∧ w' = w := by
  go_enter Try.func88, Try.ntmps88
  go_wp2
  all_goals
    go_ret
    exact ⟨ret_bool (by rw [Bool.eq_iff_iff]; simp; try omega), rfl⟩

set_option maxHeartbeats 400000 in
theorem isNameByte_any (c : Int) (w : World) :
    Calls Try.prog 82 #[.int .u8 c] w fun e w' => e = .returned (.bool (nameByteB c)) ∧ w' = w := by
  cases hf : figureB c
  all_goals
    have hf' := hf
    simp only [figureB, decide_eq_true_eq, decide_eq_false_iff_not] at hf'
    go_enter Try.func82, Try.ntmps82
    go_wp2_with (go_at_call 81; refine (isFigure_any _ _).mono ?_; rintro e w' ⟨rfl, rfl⟩)
    all_goals
      go_ret
      exact ⟨ret_bool (by rw [Bool.eq_iff_iff]; simp [nameByteB, letterB, hf]; try omega), rfl⟩

set_option maxHeartbeats 400000 in
theorem l1Name_any (s : ByteArray) (w : World) (hs : s.size ≤ maxLen) :
    Calls Try.prog 89 #[.string s] w fun e w' => e = .returned (.bool (nameB s.data.toList)) ∧ w' = w := by
  unfold maxLen at hs
  go_enter Try.func89, Try.ntmps89
  go_wp2
  go_loop [3] (fun i => ∃ k : Nat, k ≤ s.size ∧ i = .int .i64 k ∧ Hid (preB (s.data.toList.take k) = true)) (fun i => s.size - (intOf i).toNat)
  case atStart => exact ⟨0, Nat.zero_le _, rfl, rfl⟩
  case round =>
    obtain ⟨k, hk, rfl, HP⟩ := hrel
    by_cases hlt : k < s.size
    · have HS : Hid (preB (s.data.toList.take (k + 1)) = (letterB (s[k].toNat : Int) || (!(s.data.toList.take k).isEmpty && figureB (s[k].toNat : Int)))) := by
        show _ = _
        rw [take_snoc s k hlt, preB_snoc, HP.out, Bool.true_and]
      have HF : Hid (preB (s.data.toList.take (k + 1)) = false → nameB s.data.toList = false) := by
        intro h; rw [nameB, preB_false (by simpa using hlt) h, Bool.and_false]
      cases hl : letterB (s[k].toNat : Int)
      · by_cases hk0 : k = 0
        · have hk1 : ((k : Int) == 0) = true := by simp; omega
          have hfin : Hid (nameB s.data.toList = false) := HF.out (by rw [HS.out, hl]; subst hk0; rfl)
          clear HF HS HP hk0
          go_wp2_with (first | (go_at_call 111; refine (l1Letter_any _ _).mono ?_; rintro e w' ⟨rfl, rfl⟩) | (go_at_call 112; refine (l1Figure_any _ _).mono ?_; rintro e w' ⟨rfl, rfl⟩))
          go_ret
          exact ⟨ret_bool hfin.out.symm, rfl⟩
        · have hk1 : ((k : Int) == 0) = false := by simp; omega
          have hne : (s.data.toList.take k).isEmpty = false := take_not_empty s k hk0 hlt
          cases hf : figureB (s[k].toNat : Int)
          · have hfin : Hid (nameB s.data.toList = false) := HF.out (by rw [HS.out, hl, hne, hf]; rfl)
            clear HF HS HP hk0 hne
            go_wp2_with (first | (go_at_call 111; refine (l1Letter_any _ _).mono ?_; rintro e w' ⟨rfl, rfl⟩) | (go_at_call 112; refine (l1Figure_any _ _).mono ?_; rintro e w' ⟨rfl, rfl⟩))
            go_ret
            exact ⟨ret_bool hfin.out.symm, rfl⟩
          · have hnext : Hid (preB (s.data.toList.take (k + 1)) = true) := by show _ = _; rw [HS.out, hl, hne, hf]; rfl
            clear HF HS HP hk0 hne
            go_wp2_with (first | (go_at_call 111; refine (l1Letter_any _ _).mono ?_; rintro e w' ⟨rfl, rfl⟩) | (go_at_call 112; refine (l1Figure_any _ _).mono ?_; rintro e w' ⟨rfl, rfl⟩))
            exact ⟨⟨k + 1, by omega, by go_num, hnext⟩, by simp [intOf]; omega⟩
      · have hnext : Hid (preB (s.data.toList.take (k + 1)) = true) := by show _ = _; rw [HS.out, hl]; rfl
        clear HF HS HP
        go_wp2_with (first | (go_at_call 111; refine (l1Letter_any _ _).mono ?_; rintro e w' ⟨rfl, rfl⟩) | (go_at_call 112; refine (l1Figure_any _ _).mono ?_; rintro e w' ⟨rfl, rfl⟩))
        exact ⟨⟨k + 1, by omega, by go_num, hnext⟩, by simp [intOf]; omega⟩
    · have hfin : Hid (nameB s.data.toList = decide (1 ≤ (s.size : Int) ∧ (s.size : Int) ≤ 12)) := by
        have hp := HP.out
        rw [List.take_of_length_le (by simp; omega)] at hp
        show _ = _
        rw [nameB, hp, Bool.and_true, Bool.eq_iff_iff]
        simp
        have h3 : s.size = s.data.size := rfl
        omega
      clear HP
      go_wp2_with (go_at_call 88; refine (l1In_any _ _ _ _).mono ?_; rintro e w' ⟨rfl, rfl⟩)
      go_ret
      exact ⟨ret_bool (by rw [hfin.out, Bool.decide_and]), rfl⟩

set_option maxHeartbeats 400000 in
theorem isName_any (s : ByteArray) (w : World) (hs : s.size ≤ maxLen) :
    Calls Try.prog 60 #[.string s] w fun e w' => e = .returned (.bool (nameB s.data.toList)) ∧ w' = w := by
  unfold maxLen at hs
  have HN : Hid (nameB s.data.toList = (decide (1 ≤ s.size ∧ s.size ≤ 12) && preB s.data.toList)) := by
    show _ = _; rw [nameB, len_toList]
  by_cases h1 : s.size < 1
  · have hd1 : decide ((s.size : Int) < 1) = true := by simp; omega
    have hfin : Hid (nameB s.data.toList = false) := by
      show _ = _; rw [HN.out, decide_eq_false (by omega)]; rfl
    clear HN
    go_enter Try.func60, Try.ntmps60
    go_wp2_with fail
    go_ret
    exact ⟨ret_bool hfin.out.symm, rfl⟩
  have hd1 : decide ((s.size : Int) < 1) = false := by simp; omega
  by_cases h2 : 12 < s.size
  · have hd2 : decide (12 < (s.size : Int)) = true := by simp; omega
    have hfin : Hid (nameB s.data.toList = false) := by
      show _ = _; rw [HN.out, decide_eq_false (by omega)]; rfl
    clear HN
    go_enter Try.func60, Try.ntmps60
    go_wp2_with fail
    go_ret
    exact ⟨ret_bool hfin.out.symm, rfl⟩
  have hd2 : decide (12 < (s.size : Int)) = false := by simp; omega
  cases hf : figureB (s[0].toNat : Int)
  · have HN2 : Hid (nameB s.data.toList = restB s.data.toList) := by
      show _ = _; rw [HN.out, decide_eq_true (by omega), Bool.true_and, preB_of_first s (by omega) hf]
    clear HN
    go_enter Try.func60, Try.ntmps60
    go_wp2_with (go_at_call 81; refine (isFigure_any _ _).mono ?_; rintro e w' ⟨rfl, rfl⟩)
    go_loop [3, 19] (fun _ i => ∃ k : Nat, k ≤ s.size ∧ i = .int .i64 k ∧ Hid (restB (s.data.toList.take k) = true)) (fun _ i => s.size - (intOf i).toNat)
    case atStart => exact ⟨0, Nat.zero_le _, rfl, rfl⟩
    case round =>
      obtain ⟨k, hk, rfl, HP⟩ := hrel
      by_cases hlt : k < s.size
      · have HS : Hid (restB (s.data.toList.take (k + 1)) = nameByteB (s[k].toNat : Int)) := by
          show _ = _
          rw [take_snoc s k hlt, restB_snoc, HP.out, Bool.true_and]
        cases hb : nameByteB (s[k].toNat : Int)
        · have hfin : Hid (nameB s.data.toList = false) := by
            show _ = _; rw [HN2.out, restB_take_false (by rw [HS.out, hb])]
          clear HS HP HN2
          go_wp2_with (go_at_call 82; refine (isNameByte_any _ _).mono ?_; rintro e w' ⟨rfl, rfl⟩)
          go_ret
          exact ⟨ret_bool hfin.out.symm, rfl⟩
        · have hnext : Hid (restB (s.data.toList.take (k + 1)) = true) := by show _ = _; rw [HS.out, hb]
          clear HS HP
          go_wp2_with (go_at_call 82; refine (isNameByte_any _ _).mono ?_; rintro e w' ⟨rfl, rfl⟩)
          exact ⟨⟨k + 1, by omega, by go_num, hnext⟩, by simp [intOf]; omega⟩
      · have hfin : Hid (nameB s.data.toList = true) := by
          have hp := HP.out
          rw [List.take_of_length_le (by rw [len_toList]; omega)] at hp
          show _ = _
          rw [HN2.out, hp]
        clear HP
        go_wp2_with fail
        go_ret
        exact ⟨ret_bool hfin.out.symm, rfl⟩
  · have hfin : Hid (nameB s.data.toList = false) := by
      show _ = _; rw [HN.out, preB_first_figure s (by omega) hf, Bool.and_false]
    clear HN
    go_enter Try.func60, Try.ntmps60
    go_wp2_with (go_at_call 81; refine (isFigure_any _ _).mono ?_; rintro e w' ⟨rfl, rfl⟩)
    go_ret
    exact ⟨ret_bool hfin.out.symm, rfl⟩

end Go.Proofs.Ytdaohfeajicamaa
