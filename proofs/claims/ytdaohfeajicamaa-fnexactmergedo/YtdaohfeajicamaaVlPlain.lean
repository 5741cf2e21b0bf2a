
/-
  DERIVED. THE WALK OF spec.l1Plain.
-/
import Derived.Test.YtdaohfeajicamaaNames
import Derived.Test.YtdaohfeajicamaaRows
import Derived.Test.YtdaohfeajicamaaRepV
import Derived.WalkKit
import Derived.WalkSpells
import Derived.WalkLawsBesides
import Derived.Deep.RegionWith
import Derived.BigQuiet
import Derived.Test.YtdaohfeajicamaaPlainV
namespace Go.Proofs.Ytdaohfeajicamaa
open Go.RowKit
set_option linter.unusedVariables false
set_option linter.unusedSimpArgs false

set_option maxHeartbeats 4000000 in
set_option maxRecDepth 100000 in
theorem l1Plain_any (kd nm : Int) (tx : ByteArray) (a a' : Option Addr) (n c m c' : Nat) (w : World) (htx : tx.size ≤ 140737488351232) (hn : n ≤ 140737488351232) (hm : m ≤ 140737488351232) :
    Calls Try.prog 69 #[.agg #[.int .i64 kd, .int .i64 nm, .string tx, .slice a n c, .slice a' m c']] w fun e w' => e = .returned (.bool (plainB kd nm tx n m)) ∧ Below w.heap.size w w' := by
  by_cases k0 : kd = 0
  · subst k0
    have HP : Hid (∀ nm : Int, plainB 0 nm tx n m = (nm == 0 && tx.toList.isEmpty && decide (n + m = 0))) := by intro nm; simp [plainB]
    go_enter Try.func69, Try.ntmps69
    go_wp2_with fail
    all_goals
      go_ret
      refine ⟨ret_bool ?_, (Below.refl _ _).alloc (Nat.le_refl _) _⟩
      rw [HP.out, Bool.eq_iff_iff]
      simp [*]
      try omega
  by_cases k1 : kd = 1
  · subst k1
    have HP : Hid (∀ nm : Int, plainB 1 nm tx n m = (decide (0 ≤ nm ∧ nm ≤ 1) && tx.toList.isEmpty && decide (n + m = 0))) := by intro nm; simp [plainB]
    go_enter Try.func69, Try.ntmps69
    go_wp2_with (go_at_call 88; refine (l1In_any _ _ _ _).mono ?_; rintro e w1 ⟨rfl, rfl⟩)
    all_goals
      go_ret
      refine ⟨ret_bool ?_, (Below.refl _ _).alloc (Nat.le_refl _) _⟩
      rw [HP.out, Bool.eq_iff_iff]
      simp [*]
      try omega
  by_cases k2 : kd = 2
  · subst k2
    have HP : Hid (∀ nm : Int, plainB 2 nm tx n m = (decide (-2147483647 ≤ nm ∧ nm ≤ 2147483647) && tx.toList.isEmpty && decide (n + m = 0))) := by intro nm; simp [plainB]
    go_enter Try.func69, Try.ntmps69
    go_wp2_with (go_at_call 88; refine (l1In_any _ _ _ _).mono ?_; rintro e w1 ⟨rfl, rfl⟩)
    all_goals
      go_ret
      refine ⟨ret_bool ?_, (Below.refl _ _).alloc (Nat.le_refl _) _⟩
      rw [HP.out, Bool.eq_iff_iff]
      simp [*]
      try omega
  by_cases k3 : kd = 3
  · subst k3
    have HP : Hid (∀ nm : Int, plainB 3 nm tx n m = (nm == 0 && decide (tx.size ≤ 40) && decide (n + m = 0))) := by intro nm; simp [plainB]
    go_enter Try.func69, Try.ntmps69
    go_wp2_with fail
    all_goals
      go_ret
      refine ⟨ret_bool ?_, (Below.refl _ _).alloc (Nat.le_refl _) _⟩
      rw [HP.out, Bool.eq_iff_iff]
      simp [*]
      try omega
  by_cases k4 : kd = 4
  · subst k4
    have HP : Hid (∀ nm : Int, plainB 4 nm tx n m = (nm == 0 && tx.toList.isEmpty && decide (m = 0) && decide (n ≤ 12))) := by intro nm; simp [plainB]
    go_enter Try.func69, Try.ntmps69
    go_wp2_with fail
    all_goals
      go_ret
      refine ⟨ret_bool ?_, (Below.refl _ _).alloc (Nat.le_refl _) _⟩
      rw [HP.out, Bool.eq_iff_iff]
      simp [*]
      try omega
  by_cases k5 : kd = 5
  · subst k5
    have HP : Hid (∀ nm : Int, plainB 5 nm tx n m = (nm == 0 && tx.toList.isEmpty && decide (m = n) && decide (n ≤ 12))) := by intro nm; simp [plainB]
    go_enter Try.func69, Try.ntmps69
    go_wp2_with fail
    all_goals
      go_ret
      refine ⟨ret_bool ?_, (Below.refl _ _).alloc (Nat.le_refl _) _⟩
      rw [HP.out, Bool.eq_iff_iff]
      simp [*]
      try omega
  by_cases k6 : kd = 6
  · subst k6
    have HP : Hid (∀ nm : Int, plainB 6 nm tx n m = (nm == 0 && nameB tx.data.toList && decide (n + m = 0))) := by intro nm; simp [plainB]
    go_enter Try.func69, Try.ntmps69
    go_wp2_with (go_at_call 89; refine (l1Name_any _ _ (by unfold maxLen; omega)).mono ?_; rintro e w1 ⟨rfl, rfl⟩)
    all_goals
      go_ret
      refine ⟨ret_bool ?_, (Below.refl _ _).alloc (Nat.le_refl _) _⟩
      rw [HP.out, Bool.eq_iff_iff]
      simp [*]
      try omega
  by_cases k7 : kd = 7
  · subst k7
    have HP : Hid (∀ nm : Int, plainB 7 nm tx n m = (nm == 0 && nameB tx.data.toList && decide (n + m = 0))) := by intro nm; simp [plainB]
    go_enter Try.func69, Try.ntmps69
    go_wp2_with (go_at_call 89; refine (l1Name_any _ _ (by unfold maxLen; omega)).mono ?_; rintro e w1 ⟨rfl, rfl⟩)
    all_goals
      go_ret
      refine ⟨ret_bool ?_, (Below.refl _ _).alloc (Nat.le_refl _) _⟩
      rw [HP.out, Bool.eq_iff_iff]
      simp [*]
      try omega
  have HP : Hid (plainB kd nm tx n m = false) := by show _ = _; simp [plainB, k0, k1, k2, k3, k4, k5, k6, k7]
  have e0 : (kd == 0) = false := by simp [k0]
  have e1 : (kd == 1) = false := by simp [k1]
  have e2 : (kd == 2) = false := by simp [k2]
  have e3 : (kd == 3) = false := by simp [k3]
  have e4 : (kd == 4) = false := by simp [k4]
  have e5 : (kd == 5) = false := by simp [k5]
  have e6 : (kd == 6) = false := by simp [k6]
  have e7 : (kd == 7) = false := by simp [k7]
  clear k0 k1 k2 k3 k4 k5 k6 k7
  go_enter Try.func69, Try.ntmps69
  go_wp2_with fail
  go_ret
  exact ⟨ret_bool HP.out.symm, (Below.refl _ _).alloc (Nat.le_refl _) _⟩

end Go.Proofs.Ytdaohfeajicamaa
