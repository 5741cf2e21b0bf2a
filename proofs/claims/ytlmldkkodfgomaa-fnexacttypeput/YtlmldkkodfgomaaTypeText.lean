/-
  DERIVED. THE WALKS OF impl.isListType, impl.typeText.
-/
import Derived.Test.YtlmldkkodfgomaaNames
import Derived.Test.YtlmldkkodfgomaaPlainT
import Derived.WalkKit
import Derived.WalkSpells
import Derived.WalkLawsBesides
import Derived.Test.YtlmldkkodfgomaaTextT
namespace Go.Proofs.Ytlmldkkodfgomaa
open Go.RowKit
set_option linter.unusedVariables false
set_option linter.unusedSimpArgs false

set_option maxHeartbeats 400000 in
theorem isListType_any (x z : Value) (a : Option Addr) (n cap : Nat) (w : World) :
    Calls Try.prog 18 #[.agg #[x, .slice a n cap, z]] w fun e w' => e = .returned (.bool (decide (0 < n))) ∧ Below w.heap.size w w' := by
  go_enter Try.func18, Try.ntmps18
  go_wp2_with fail
  go_ret
  refine ⟨ret_bool ?_, (Below.refl _ _).alloc (Nat.le_refl _) _⟩
  simp

set_option maxHeartbeats 1000000 in
theorem typeText_any : ∀ (d k : Nat) (t : Ty) (v : Value) (w : World), d ≤ 5 → formedB d t = true → TyR w 0 k t [.string t.name, v, .bool t.must] →
    Calls Try.prog 14 #[.agg #[.string t.name, v, .bool t.must]] w fun e w' => e = .returned (.string (textT d t)) ∧ Below w.heap.size w w' := by
  intro d
  induction d with
  | zero => intro k t v w hd hf; simp [formedB] at hf
  | succ d ih' =>
    intro k t v w hd hf ht
    have ih : Hid _ := ih'
    clear ih'
    cases k with
    | zero => exact ht.elim
    | succ k =>
    obtain ⟨v', hv, hn, hrow⟩ := ht
    simp only [List.cons.injEq, true_and, and_true] at hv
    subst hv
    obtain ⟨a, cap, rfl, hw, hrest⟩ := hrow.len
    clear hrow
    match hof : t.of with
    | [] =>
      have HT : Hid (textT (d + 1) t = mustT t.must t.name) := by show _ = _; simp [textT, hof]
      have hl0 : t.of.length = 0 := by rw [hof]; rfl
      rw [hof] at hw hrest
      clear hof hrest hf ih
      cases hm : t.must
      all_goals
        rw [hm] at HT
        go_enter Try.func14, Try.ntmps14
        go_wp2_with fail
        refine (isListType_any _ _ _ _ _ _).mono ?_
        rintro e w1 ⟨rfl, hb1⟩
        obtain ⟨hc, hf⟩ := bcell hb1
        have HB : Hid (Below w.heap.size w w1) := ((Below.refl _ _).alloc (Nat.le_refl _) _).trans (hb1.mono (by simp))
        clear hb1
        go_wp2_with fail
        go_ret
        exact ⟨ret_string HT.out.symm, HB.out⟩
    | [x] =>
      rw [formed_one hof, Bool.and_eq_true] at hf
      have hsz := textT_size d x hf.2
      have HT : Hid (textT (d + 1) t = mustT t.must (⟨#[91]⟩ ++ textT d x ++ ⟨#[93]⟩)) := by show _ = _; simp [textT, hof]
      have hfx : Hid (formedB d x = true) := hf.2
      have hl0 : t.of.length = 1 := by rw [hof]; rfl
      obtain ⟨b, off, rfl, _, hcs⟩ := hrest (List.ne_nil_of_length_pos (by omega))
      obtain ⟨cs, hl3, hc, hR⟩ := hcs 0 (by omega)
      have hx : t.of[0]'(by omega) = x := by simp [hof]
      rw [hx] at hR
      obtain ⟨v1, rfl⟩ := hR.cells
      have HR : Hid (∀ o, TyR (w.alloc o) 0 k x [.string x.name, v1, .bool x.must]) := fun o => TyR.keeps ((Keeps.refl _ _).alloc o) k _ _ hR
      have HC : ∀ o, CellsAt (w.alloc o) b (off + 0 * 3) [.string x.name, v1, .bool x.must] := fun o => hc.keeps ((Keeps.refl _ _).alloc o) (Nat.zero_le _)
      have HC' := fun o => (HC o).three
      simp only [Nat.zero_mul, Nat.add_zero] at HC'
      have q0 := fun o => (HC' o).1
      have q1 := fun o => (HC' o).2.1
      have q2 := fun o => (HC' o).2.2
      clear HC HC' hcs hrest hc hR hx hof hf
      cases hm : t.must
      all_goals
        rw [hm] at HT
        go_enter Try.func14, Try.ntmps14
        go_wp2_with fail
        refine (isListType_any _ _ _ _ _ _).mono ?_
        rintro e w0 ⟨rfl, hb0⟩
        obtain ⟨hc0, hf0⟩ := bcell hb0
        have HB0 : Hid (Below w.heap.size w w0) := ((Below.refl _ _).alloc (Nat.le_refl _) _).trans (hb0.mono (by simp))
        have HR1 : Hid (TyR w0 0 k x [.string x.name, v1, .bool x.must]) := TyR.keeps (Keeps.of_below hb0 (Nat.le_refl _) _) k _ _ (HR.out _)
        have p0 : w0.cell? ⟨b, off, none⟩ = some (.string x.name) := (Keeps.of_below hb0 (Nat.le_refl _) 0).cell (Nat.zero_le _) (q0 _)
        have p1 : w0.cell? ⟨b, off + 1, none⟩ = some v1 := (Keeps.of_below hb0 (Nat.le_refl _) 0).cell (Nat.zero_le _) (q1 _)
        have p2 : w0.cell? ⟨b, off + 2, none⟩ = some (.bool x.must) := (Keeps.of_below hb0 (Nat.le_refl _) 0).cell (Nat.zero_le _) (q2 _)
        have hbox : w.heap.size < w0.heap.size := by have := hb0.size; simp at this; omega
        have r1 := hc0 w.heap.size 1 (by simp)
        have r2 := hc0 w.heap.size 2 (by simp)
        simp at r1 r2
        clear hb0 hc0 hf0 q0 q1 q2 HR
        go_wp2_with fail
        refine (ih.out _ _ _ _ (by omega) hfx.out HR1.out).mono ?_
        rintro e w1 ⟨rfl, hb1⟩
        have r3 : w1.cell? ⟨w.heap.size, 2, none⟩ = _ := (hb1.cell (p := ⟨w.heap.size, 2, none⟩) hbox).trans r2
        have HB : Hid (Below w.heap.size w w1) := HB0.out.trans (hb1.mono HB0.out.size)
        clear hb1 p0 p1 p2 r1 r2
        go_wp2_with fail
        go_ret
        exact ⟨ret_string HT.out.symm, HB.out⟩
    | _ :: _ :: _ => rw [formed_more (by rw [hof]; simp)] at hf; simp at hf

end Go.Proofs.Ytlmldkkodfgomaa
