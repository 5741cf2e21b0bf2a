/-
  DERIVED. THE WALK OF spec.l2Type.
-/
import Derived.Test.YtlmldkkodfgomaaNames
import Derived.Test.YtlmldkkodfgomaaPlainT
import Derived.WalkKit
import Derived.WalkSpells
import Derived.WalkLawsBesides
namespace Go.Proofs.Ytlmldkkodfgomaa
open Go.RowKit
set_option linter.unusedVariables false
set_option linter.unusedSimpArgs false

set_option maxHeartbeats 1000000 in
theorem l2Type_step (d : Nat) (hd : d ≤ 5) (ih : Hid (d ≠ 0 → ∀ (k : Nat) (t : Ty) (v : Value) (w : World), TyR w 0 k t [.string t.name, v, .bool t.must] →
      Calls Try.prog 10 #[.agg #[.string t.name, v, .bool t.must], .int .i64 (d : Int)] w fun e w' => e = .returned (.bool (formedB d t)) ∧ Below w.heap.size w w'))
    (k : Nat) (t : Ty) (v : Value) (w : World) (ht : TyR w 0 k t [.string t.name, v, .bool t.must]) :
    Calls Try.prog 10 #[.agg #[.string t.name, v, .bool t.must], .int .i64 ((d : Int) + 1)] w fun e w' => e = .returned (.bool (formedB (d + 1) t)) ∧ Below w.heap.size w w' := by
  cases k with
  | zero => exact ht.elim
  | succ k =>
    obtain ⟨v', hv, hn, hrow⟩ := ht
    simp only [List.cons.injEq, true_and, and_true] at hv
    subst hv
    obtain ⟨a, cap, rfl, hw, hrest⟩ := hrow.len
    clear hrow
    match hof : t.of with
    | [] =>
      have hl0 : t.of.length = 0 := by rw [hof]; rfl
      have HF : Hid (formedB (d + 1) t = nameB t.name.data.toList) := formed_none hof
      rw [hof] at hw hrest
      clear hof hrest
      go_enter Try.func10, Try.ntmps10
      go_wp2_with (go_at_call 16; refine (l1Name_any _ _ (by unfold maxLen; omega)).mono ?_; rintro e w' ⟨rfl, rfl⟩)
      go_ret
      exact ⟨ret_bool HF.out.symm, (Below.refl _ _).alloc (Nat.le_refl _) _⟩
    | [x] =>
      have hl0 : t.of.length = 1 := by rw [hof]; rfl
      obtain ⟨b, off, rfl, _, hcs⟩ := hrest (List.ne_nil_of_length_pos (by omega))
      obtain ⟨cs, hl3, hc, hR⟩ := hcs 0 (by omega)
      have hx : t.of[0]'(by omega) = x := by simp [hof]
      rw [hx] at hR
      obtain ⟨v1, rfl⟩ := hR.cells
      have HF : Hid (formedB (d + 1) t = (t.name.toList.isEmpty && formedB d x)) := formed_one hof
      have HR : Hid (∀ o, TyR (w.alloc o) 0 k x [.string x.name, v1, .bool x.must]) := fun o => TyR.keeps ((Keeps.refl _ _).alloc o) k _ _ hR
      have HC : ∀ o, CellsAt (w.alloc o) b (off + 0 * 3) [.string x.name, v1, .bool x.must] := fun o => hc.keeps ((Keeps.refl _ _).alloc o) (Nat.zero_le _)
      have HC' := fun o => (HC o).three
      simp only [Nat.zero_mul, Nat.add_zero] at HC'
      have q0 := fun o => (HC' o).1
      have q1 := fun o => (HC' o).2.1
      have q2 := fun o => (HC' o).2.2
      clear HC HC' hcs hrest hc hR hx hof
      cases he : t.name.toList.isEmpty
      · rw [he, Bool.false_and] at HF
        clear HR q0 q1 q2
        go_enter Try.func10, Try.ntmps10
        go_wp2_with fail
        all_goals
          go_ret
          exact ⟨ret_bool HF.out.symm, (Below.refl _ _).alloc (Nat.le_refl _) _⟩
      · rw [he, Bool.true_and] at HF
        cases d with
        | zero =>
          have HF : Hid (formedB (0 + 1) t = false) := HF
          go_enter Try.func10, Try.ntmps10
          go_wp2_with fail
          all_goals
            go_ret
            exact ⟨ret_bool HF.out.symm, (Below.refl _ _).alloc (Nat.le_refl _) _⟩
        | succ d =>
          rw [show (((d + 1 : Nat) : Int)) = (d : Int) + 1 by omega] at ih ⊢
          go_enter Try.func10, Try.ntmps10
          go_wp2_with fail
          refine (ih.out (by omega) _ _ _ _ (HR.out _)).mono ?_
          rintro e w1 ⟨rfl, hb1⟩
          cases hfx : formedB (d + 1) x
          all_goals
            rw [hfx] at HF
            go_wp2_with fail
            go_ret
            exact ⟨ret_bool HF.out.symm, ((Below.refl _ _).alloc (Nat.le_refl _) _).trans (hb1.mono (by simp))⟩
    | x :: y :: r =>
      have hl0 : ((t.of.length : Int) == 0) = false := by rw [hof]; simp; omega
      have hl1 : ((t.of.length : Int) == 1) = false := by rw [hof]; simp; omega
      have HF : Hid (formedB (d + 1) t = false) := formed_more (by rw [hof]; simp)
      clear hof hrest
      cases he : t.name.toList.isEmpty
      all_goals
        go_enter Try.func10, Try.ntmps10
        go_wp2_with fail
        all_goals
          go_ret
          exact ⟨ret_bool HF.out.symm, (Below.refl _ _).alloc (Nat.le_refl _) _⟩

set_option maxHeartbeats 400000 in
theorem l2Type_any : ∀ (d k : Nat) (t : Ty) (v : Value) (w : World), d ≤ 5 → TyR w 0 k t [.string t.name, v, .bool t.must] →
    Calls Try.prog 10 #[.agg #[.string t.name, v, .bool t.must], .int .i64 ((d : Int) + 1)] w fun e w' => e = .returned (.bool (formedB (d + 1) t)) ∧ Below w.heap.size w w' := by
  intro d
  induction d with
  | zero => exact fun k t v w hd ht => l2Type_step 0 (by omega) (fun h => absurd rfl h) k t v w ht
  | succ d ih =>
    intro k t v w hd ht
    refine l2Type_step (d + 1) hd (fun _ k t v w h => ?_) k t v w ht
    rw [show (((d + 1 : Nat) : Int)) = (d : Int) + 1 by omega]
    exact ih k t v w (by omega) h

end Go.Proofs.Ytlmldkkodfgomaa
