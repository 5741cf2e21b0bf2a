
/-
  DERIVED. THE WALK OF impl.hasJustItsParts.
-/
import Derived.Test.YtdaohfeajicamaaNames
import Derived.Test.YtdaohfeajicamaaRepF
namespace Go.Proofs.Ytdaohfeajicamaa
open Go.RowKit
set_option linter.unusedVariables false
set_option linter.unusedSimpArgs false

set_option maxHeartbeats 4000000 in
set_option maxRecDepth 100000 in
theorem parts_any (kd nm : Int) (tx : ByteArray) (a a' : Option Addr) (n c m c' : Nat) (w : World) (hn : n ≤ 140737488351232) (hm : m ≤ 140737488351232) :
    Calls Try.prog 57 #[.agg #[.int .i64 kd, .int .i64 nm, .string tx, .slice a n c, .slice a' m c']] w fun e w' => e = .returned (.bool (partsB kd nm tx n m)) ∧ Below w.heap.size w w' := by
  by_cases k0 : kd = 0
  · subst k0
    have HP : Hid (∀ nm : Int, partsB 0 nm tx n m = (nm == 0 && tx.toList.isEmpty && decide (n = 0) && decide (m = 0))) := by intro nm; simp [partsB]
    go_enter Try.func57, Try.ntmps57
    go_wp2_with fail
    all_goals
      go_ret
      refine ⟨ret_bool ?_, (Below.refl _ _).alloc (Nat.le_refl _) _⟩
      rw [HP.out, Bool.eq_iff_iff]
      simp [*]
      try omega
  by_cases k1 : kd = 1
  · subst k1
    have HP : Hid (∀ nm : Int, partsB 1 nm tx n m = (tx.toList.isEmpty && decide (n = 0) && decide (m = 0))) := by intro nm; simp [partsB]
    go_enter Try.func57, Try.ntmps57
    go_wp2_with fail
    all_goals
      go_ret
      refine ⟨ret_bool ?_, (Below.refl _ _).alloc (Nat.le_refl _) _⟩
      rw [HP.out, Bool.eq_iff_iff]
      simp [*]
      try omega
  by_cases k2 : kd = 2
  · subst k2
    have HP : Hid (∀ nm : Int, partsB 2 nm tx n m = (tx.toList.isEmpty && decide (n = 0) && decide (m = 0))) := by intro nm; simp [partsB]
    go_enter Try.func57, Try.ntmps57
    go_wp2_with fail
    all_goals
      go_ret
      refine ⟨ret_bool ?_, (Below.refl _ _).alloc (Nat.le_refl _) _⟩
      rw [HP.out, Bool.eq_iff_iff]
      simp [*]
      try omega
  by_cases k3 : kd = 3
  · subst k3
    have HP : Hid (∀ nm : Int, partsB 3 nm tx n m = (nm == 0 && decide (n = 0) && decide (m = 0))) := by intro nm; simp [partsB]
    go_enter Try.func57, Try.ntmps57
    go_wp2_with fail
    all_goals
      go_ret
      refine ⟨ret_bool ?_, (Below.refl _ _).alloc (Nat.le_refl _) _⟩
      rw [HP.out, Bool.eq_iff_iff]
      simp [*]
      try omega
  by_cases k4 : kd = 4
  · subst k4
    have HP : Hid (∀ nm : Int, partsB 4 nm tx n m = (nm == 0 && tx.toList.isEmpty && decide (m = 0))) := by intro nm; simp [partsB]
    go_enter Try.func57, Try.ntmps57
    go_wp2_with fail
    all_goals
      go_ret
      refine ⟨ret_bool ?_, (Below.refl _ _).alloc (Nat.le_refl _) _⟩
      rw [HP.out, Bool.eq_iff_iff]
      simp [*]
      try omega
  by_cases k5 : kd = 5
  · subst k5
    have HP : Hid (∀ nm : Int, partsB 5 nm tx n m = (nm == 0 && tx.toList.isEmpty)) := by intro nm; simp [partsB]
    go_enter Try.func57, Try.ntmps57
    go_wp2_with fail
    all_goals
      go_ret
      refine ⟨ret_bool ?_, (Below.refl _ _).alloc (Nat.le_refl _) _⟩
      rw [HP.out, Bool.eq_iff_iff]
      simp [*]
      try omega
  by_cases k6 : kd = 6
  · subst k6
    have HP : Hid (∀ nm : Int, partsB 6 nm tx n m = (nm == 0 && decide (n = 0) && decide (m = 0))) := by intro nm; simp [partsB]
    go_enter Try.func57, Try.ntmps57
    go_wp2_with fail
    all_goals
      go_ret
      refine ⟨ret_bool ?_, (Below.refl _ _).alloc (Nat.le_refl _) _⟩
      rw [HP.out, Bool.eq_iff_iff]
      simp [*]
      try omega
  by_cases k7 : kd = 7
  · subst k7
    have HP : Hid (∀ nm : Int, partsB 7 nm tx n m = (nm == 0 && decide (n = 0) && decide (m = 0))) := by intro nm; simp [partsB]
    go_enter Try.func57, Try.ntmps57
    go_wp2_with fail
    all_goals
      go_ret
      refine ⟨ret_bool ?_, (Below.refl _ _).alloc (Nat.le_refl _) _⟩
      rw [HP.out, Bool.eq_iff_iff]
      simp [*]
      try omega
  have e1 : (kd == 1) = false := by simp [k1]
  have e2 : (kd == 2) = false := by simp [k2]
  have e3 : (kd == 3) = false := by simp [k3]
  have e4 : (kd == 4) = false := by simp [k4]
  have e5 : (kd == 5) = false := by simp [k5]
  have e6 : (kd == 6) = false := by simp [k6]
  have e7 : (kd == 7) = false := by simp [k7]
  have HP : Hid (∀ nm : Int, partsB kd nm tx n m = (nm == 0 && tx.toList.isEmpty && decide (n = 0) && decide (m = 0))) := by intro nm; simp only [partsB, e1, e2, e3, e4, e5, e6, e7]; simp
  clear k0 k1 k2 k3 k4 k5 k6 k7
  go_enter Try.func57, Try.ntmps57
  go_wp2_with fail
  all_goals
    go_ret
    refine ⟨ret_bool ?_, (Below.refl _ _).alloc (Nat.le_refl _) _⟩
    rw [HP.out, Bool.eq_iff_iff]
    simp [*]
    try omega

end Go.Proofs.Ytdaohfeajicamaa
