/-
  DERIVED. THE WALKS OVER A TYPE THAT ONLY READ: whether it has a form, its text; both the program's and the model's.
-/
import Derived.Test.YtincjlpaddhfbaaNames
import Derived.Test.YtincjlpaddhfbaaRep
import Derived.WalkKit
import Derived.WalkSpells
import Derived.WalkLawsBesides
namespace Go.Proofs.Ytincjlpaddhfbaa
open Go.RowKit
set_option linter.unusedVariables false
set_option linter.unusedSimpArgs false

/-- A type has a form, at most d deep. -/
def formedB : Nat → Ty → Bool
  | 0, _ => false
  | d + 1, t => match t.of with
    | [] => nameB t.name.data.toList
    | [x] => t.name.toList.isEmpty && formedB d x
    | _ => false

theorem formed_none {d : Nat} {t : Ty} (h : t.of = []) : formedB (d + 1) t = nameB t.name.data.toList := by simp [formedB, h]
theorem formed_one {d : Nat} {t x : Ty} (h : t.of = [x]) : formedB (d + 1) t = (t.name.toList.isEmpty && formedB d x) := by simp [formedB, h]
theorem formed_more {d : Nat} {t : Ty} (h : 1 < t.of.length) : formedB (d + 1) t = false := by
  match ht : t.of, h with
  | _ :: _ :: _, _ => simp [formedB, ht]

set_option maxHeartbeats 1000000 in
theorem l2Type_step (d : Nat) (hd : d ≤ 5) (ih : Hid (d ≠ 0 → ∀ (k : Nat) (t : Ty) (v : Value) (w : World), TyR w 0 k t [.string t.name, v, .bool t.must] →
      Calls Try.prog 10 #[.agg #[.string t.name, v, .bool t.must], .int .i64 (d : Int)] w fun e w' => e = .returned (.bool (formedB d t)) ∧ Below w.heap.size w w'))
    (k : Nat) (t : Ty) (v : Value) (w : World) (ht : TyR w 0 k t [.string t.name, v, .bool t.must]) :
    Calls Try.prog 10 #[.agg #[.string t.name, v, .bool t.must], .int .i64 ((d : Int) + 1)] w fun e w' => e = .returned (.bool (formedB (d + 1) t)) ∧ Below w.heap.size w w' := by
  cases k with
  | zero => exact ht.elim
  | succ k =>
    obtain ⟨v', hv, hn, hrow⟩ := ht
    simp only [List.cons.injEq, true_and, and_true] at hv
    subst hv
    obtain ⟨a, cap, rfl, hw, hrest⟩ := hrow.len
    clear hrow
    match hof : t.of with
    | [] =>
      have hl0 : t.of.length = 0 := by rw [hof]; rfl
      have HF : Hid (formedB (d + 1) t = nameB t.name.data.toList) := formed_none hof
      rw [hof] at hw hrest
      clear hof hrest
      go_enter Try.func10, Try.ntmps10
      go_wp2_with (go_at_call 16; refine (l1Name_any _ _ (by unfold maxLen; omega)).mono ?_; rintro e w' ⟨rfl, rfl⟩)
      go_ret
      exact ⟨ret_bool HF.out.symm, (Below.refl _ _).alloc (Nat.le_refl _) _⟩
    | [x] =>
      have hl0 : t.of.length = 1 := by rw [hof]; rfl
      obtain ⟨b, off, rfl, _, hcs⟩ := hrest (List.ne_nil_of_length_pos (by omega))
      obtain ⟨cs, hl3, hc, hR⟩ := hcs 0 (by omega)
      have hx : t.of[0]'(by omega) = x := by simp [hof]
      rw [hx] at hR
      obtain ⟨v1, rfl⟩ := hR.cells
      have HF : Hid (formedB (d + 1) t = (t.name.toList.isEmpty && formedB d x)) := formed_one hof
      have HR : Hid (∀ o, TyR (w.alloc o) 0 k x [.string x.name, v1, .bool x.must]) := fun o => TyR.keeps ((Keeps.refl _ _).alloc o) k _ _ hR
      have HC : ∀ o, CellsAt (w.alloc o) b (off + 0 * 3) [.string x.name, v1, .bool x.must] := fun o => hc.keeps ((Keeps.refl _ _).alloc o) (Nat.zero_le _)
      have HC' := fun o => (HC o).three
      simp only [Nat.zero_mul, Nat.add_zero] at HC'
      have q0 := fun o => (HC' o).1
      have q1 := fun o => (HC' o).2.1
      have q2 := fun o => (HC' o).2.2
      clear HC HC' hcs hrest hc hR hx hof
      cases he : t.name.toList.isEmpty
      · rw [he, Bool.false_and] at HF
        clear HR q0 q1 q2
        go_enter Try.func10, Try.ntmps10
        go_wp2_with fail
        all_goals
          go_ret
          exact ⟨ret_bool HF.out.symm, (Below.refl _ _).alloc (Nat.le_refl _) _⟩
      · rw [he, Bool.true_and] at HF
        cases d with
        | zero =>
          have HF : Hid (formedB (0 + 1) t = false) := HF
          go_enter Try.func10, Try.ntmps10
          go_wp2_with fail
          all_goals
            go_ret
            exact ⟨ret_bool HF.out.symm, (Below.refl _ _).alloc (Nat.le_refl _) _⟩
        | succ d =>
          rw [show (((d + 1 : Nat) : Int)) = (d : Int) + 1 by omega] at ih ⊢
          go_enter Try.func10, Try.ntmps10
          go_wp2_with fail
          refine (ih.out (by omega) _ _ _ _ (HR.out _)).mono ?_
          rintro e w1 ⟨rfl, hb1⟩
          cases hfx : formedB (d + 1) x
          all_goals
            rw [hfx] at HF
            go_wp2_with fail
            go_ret
            exact ⟨ret_bool HF.out.symm, ((Below.refl _ _).alloc (Nat.le_refl _) _).trans (hb1.mono (by simp))⟩
    | x :: y :: r =>
      have hl0 : ((t.of.length : Int) == 0) = false := by rw [hof]; simp; omega
      have hl1 : ((t.of.length : Int) == 1) = false := by rw [hof]; simp; omega
      have HF : Hid (formedB (d + 1) t = false) := formed_more (by rw [hof]; simp)
      clear hof hrest
      cases he : t.name.toList.isEmpty
      all_goals
        go_enter Try.func10, Try.ntmps10
        go_wp2_with fail
        all_goals
          go_ret
          exact ⟨ret_bool HF.out.symm, (Below.refl _ _).alloc (Nat.le_refl _) _⟩

set_option maxHeartbeats 400000 in
theorem l2Type_any : ∀ (d k : Nat) (t : Ty) (v : Value) (w : World), d ≤ 5 → TyR w 0 k t [.string t.name, v, .bool t.must] →
    Calls Try.prog 10 #[.agg #[.string t.name, v, .bool t.must], .int .i64 ((d : Int) + 1)] w fun e w' => e = .returned (.bool (formedB (d + 1) t)) ∧ Below w.heap.size w w' := by
  intro d
  induction d with
  | zero => exact fun k t v w hd ht => l2Type_step 0 (by omega) (fun h => absurd rfl h) k t v w ht
  | succ d ih =>
    intro k t v w hd ht
    refine l2Type_step (d + 1) hd (fun _ k t v w h => ?_) k t v w ht
    rw [show (((d + 1 : Nat) : Int)) = (d : Int) + 1 by omega]
    exact ih k t v w (by omega) h

set_option maxHeartbeats 400000 in
theorem typeFormed_zero (x y z : Value) (w : World) :
    Calls Try.prog 13 #[.agg #[x, y, z], .int .i64 0] w fun e w' => e = .returned (.bool false) ∧ Below w.heap.size w w' := by
  go_enter Try.func13, Try.ntmps13
  go_wp2_with fail
  go_ret
  exact ⟨rfl, (Below.refl _ _).alloc (Nat.le_refl _) _⟩

set_option maxHeartbeats 1000000 in
theorem typeFormed_step (d : Nat) (hd : d ≤ 5) (ih : Hid (d ≠ 0 → ∀ (k : Nat) (t : Ty) (v : Value) (w : World), TyR w 0 k t [.string t.name, v, .bool t.must] →
      Calls Try.prog 13 #[.agg #[.string t.name, v, .bool t.must], .int .i64 (d : Int)] w fun e w' => e = .returned (.bool (formedB d t)) ∧ Below w.heap.size w w'))
    (k : Nat) (t : Ty) (v : Value) (w : World) (ht : TyR w 0 k t [.string t.name, v, .bool t.must]) :
    Calls Try.prog 13 #[.agg #[.string t.name, v, .bool t.must], .int .i64 ((d : Int) + 1)] w fun e w' => e = .returned (.bool (formedB (d + 1) t)) ∧ Below w.heap.size w w' := by
  cases k with
  | zero => exact ht.elim
  | succ k =>
    obtain ⟨v', hv, hn, hrow⟩ := ht
    simp only [List.cons.injEq, true_and, and_true] at hv
    subst hv
    obtain ⟨a, cap, rfl, hw, hrest⟩ := hrow.len
    clear hrow
    match hof : t.of with
    | [] =>
      have hl0 : t.of.length = 0 := by rw [hof]; rfl
      have HF : Hid (formedB (d + 1) t = nameB t.name.data.toList) := formed_none hof
      rw [hof] at hw hrest
      clear hof hrest
      go_enter Try.func13, Try.ntmps13
      go_wp2_with (go_at_call 17; refine (isName_any _ _ (by unfold maxLen; omega)).mono ?_; rintro e w' ⟨rfl, rfl⟩)
      go_ret
      exact ⟨ret_bool HF.out.symm, (Below.refl _ _).alloc (Nat.le_refl _) _⟩
    | [x] =>
      have hl0 : t.of.length = 1 := by rw [hof]; rfl
      obtain ⟨b, off, rfl, _, hcs⟩ := hrest (List.ne_nil_of_length_pos (by omega))
      obtain ⟨cs, hl3, hc, hR⟩ := hcs 0 (by omega)
      have hx : t.of[0]'(by omega) = x := by simp [hof]
      rw [hx] at hR
      obtain ⟨v1, rfl⟩ := hR.cells
      have HF : Hid (formedB (d + 1) t = (t.name.toList.isEmpty && formedB d x)) := formed_one hof
      have HR : Hid (∀ o, TyR (w.alloc o) 0 k x [.string x.name, v1, .bool x.must]) := fun o => TyR.keeps ((Keeps.refl _ _).alloc o) k _ _ hR
      have HC : ∀ o, CellsAt (w.alloc o) b (off + 0 * 3) [.string x.name, v1, .bool x.must] := fun o => hc.keeps ((Keeps.refl _ _).alloc o) (Nat.zero_le _)
      have HC' := fun o => (HC o).three
      simp only [Nat.zero_mul, Nat.add_zero] at HC'
      have q0 := fun o => (HC' o).1
      have q1 := fun o => (HC' o).2.1
      have q2 := fun o => (HC' o).2.2
      clear HC HC' hcs hrest hc hR hx hof
      cases he : t.name.toList.isEmpty
      · rw [he, Bool.false_and] at HF
        clear HR q0 q1 q2
        go_enter Try.func13, Try.ntmps13
        go_wp2_with fail
        all_goals
          go_ret
          exact ⟨ret_bool HF.out.symm, (Below.refl _ _).alloc (Nat.le_refl _) _⟩
      · rw [he, Bool.true_and] at HF
        cases d with
        | zero =>
          have HF : Hid (formedB (0 + 1) t = false) := HF
          go_enter Try.func13, Try.ntmps13
          go_wp2_with fail
          refine (typeFormed_zero _ _ _ _).mono ?_
          rintro e w1 ⟨rfl, hb1⟩
          go_wp2_with fail
          go_ret
          exact ⟨ret_bool HF.out.symm, ((Below.refl _ _).alloc (Nat.le_refl _) _).trans (hb1.mono (by simp))⟩
        | succ d =>
          rw [show (((d + 1 : Nat) : Int)) = (d : Int) + 1 by omega] at ih ⊢
          go_enter Try.func13, Try.ntmps13
          go_wp2_with fail
          refine (ih.out (by omega) _ _ _ _ (HR.out _)).mono ?_
          rintro e w1 ⟨rfl, hb1⟩
          cases hfx : formedB (d + 1) x
          all_goals
            rw [hfx] at HF
            go_wp2_with fail
            go_ret
            exact ⟨ret_bool HF.out.symm, ((Below.refl _ _).alloc (Nat.le_refl _) _).trans (hb1.mono (by simp))⟩
    | x :: y :: r =>
      have hl0 : ((t.of.length : Int) == 0) = false := by rw [hof]; simp; omega
      have hl1 : ((t.of.length : Int) == 1) = false := by rw [hof]; simp; omega
      have HF : Hid (formedB (d + 1) t = false) := formed_more (by rw [hof]; simp)
      clear hof hrest
      cases he : t.name.toList.isEmpty
      all_goals
        go_enter Try.func13, Try.ntmps13
        go_wp2_with fail
        all_goals
          go_ret
          exact ⟨ret_bool HF.out.symm, (Below.refl _ _).alloc (Nat.le_refl _) _⟩

set_option maxHeartbeats 400000 in
theorem typeFormed_any : ∀ (d k : Nat) (t : Ty) (v : Value) (w : World), d ≤ 5 → TyR w 0 k t [.string t.name, v, .bool t.must] →
    Calls Try.prog 13 #[.agg #[.string t.name, v, .bool t.must], .int .i64 ((d : Int) + 1)] w fun e w' => e = .returned (.bool (formedB (d + 1) t)) ∧ Below w.heap.size w w' := by
  intro d
  induction d with
  | zero => exact fun k t v w hd ht => typeFormed_step 0 (by omega) (fun h => absurd rfl h) k t v w ht
  | succ d ih =>
    intro k t v w hd ht
    refine typeFormed_step (d + 1) hd (fun _ k t v w h => ?_) k t v w ht
    rw [show (((d + 1 : Nat) : Int)) = (d : Int) + 1 by omega]
    exact ih k t v w (by omega) h

/-! ### The text of a type -/
def mustT (b : Bool) (s : ByteArray) : ByteArray := if b then s ++ ⟨#[33]⟩ else s
def textT : Nat → Ty → ByteArray
  | 0, _ => ByteArray.empty
  | d + 1, t => mustT t.must (match t.of with
    | [] => t.name
    | x :: _ => ⟨#[91]⟩ ++ textT d x ++ ⟨#[93]⟩)

theorem mustT_size (b : Bool) (s : ByteArray) : (mustT b s).size ≤ s.size + 1 := by
  cases b <;> simp [mustT, ByteArray.size_append]
  exact Nat.le_refl _

theorem textT_size : ∀ (d : Nat) (t : Ty), formedB d t = true → (textT d t).size ≤ 12 + 3 * d
  | 0, _, h => by simp [formedB] at h
  | d + 1, t, h => by
    match hof : t.of with
    | [] =>
      rw [formed_none hof] at h
      have hm := mustT_size t.must t.name
      simp only [nameB, Bool.and_eq_true, decide_eq_true_eq, len_toList] at h
      simp only [textT, hof]
      omega
    | [x] =>
      rw [formed_one hof, Bool.and_eq_true] at h
      have ih := textT_size d x h.2
      have hm := mustT_size t.must (⟨#[91]⟩ ++ textT d x ++ ⟨#[93]⟩)
      have e1 : (⟨#[91]⟩ : ByteArray).size = 1 := rfl
      have e2 : (⟨#[93]⟩ : ByteArray).size = 1 := rfl
      simp only [ByteArray.size_append, e1, e2] at hm
      simp only [textT, hof]
      omega
    | _ :: _ :: _ => rw [formed_more (by rw [hof]; simp)] at h; simp at h

theorem ret_string {a b : ByteArray} (h : a = b) : Ending.returned (.string a) = .returned (.string b) := by rw [h]

set_option maxHeartbeats 400000 in
theorem isListType_any (x z : Value) (a : Option Addr) (n cap : Nat) (w : World) :
    Calls Try.prog 18 #[.agg #[x, .slice a n cap, z]] w fun e w' => e = .returned (.bool (decide (0 < n))) ∧ Below w.heap.size w w' := by
  go_enter Try.func18, Try.ntmps18
  go_wp2_with fail
  go_ret
  refine ⟨ret_bool ?_, (Below.refl _ _).alloc (Nat.le_refl _) _⟩
  simp

set_option maxHeartbeats 1000000 in
theorem l2Put_any : ∀ (d k : Nat) (t : Ty) (v : Value) (w : World), d ≤ 5 → formedB d t = true → TyR w 0 k t [.string t.name, v, .bool t.must] →
    Calls Try.prog 11 #[.agg #[.string t.name, v, .bool t.must]] w fun e w' => e = .returned (.string (textT d t)) ∧ Below w.heap.size w w' := by
  intro d
  induction d with
  | zero => intro k t v w hd hf; simp [formedB] at hf
  | succ d ih' =>
    intro k t v w hd hf ht
    have ih : Hid _ := ih'
    clear ih'
    cases k with
    | zero => exact ht.elim
    | succ k =>
    obtain ⟨v', hv, hn, hrow⟩ := ht
    simp only [List.cons.injEq, true_and, and_true] at hv
    subst hv
    obtain ⟨a, cap, rfl, hw, hrest⟩ := hrow.len
    clear hrow
    match hof : t.of with
    | [] =>
      have HT : Hid (textT (d + 1) t = mustT t.must t.name) := by show _ = _; simp [textT, hof]
      have hl0 : t.of.length = 0 := by rw [hof]; rfl
      rw [hof] at hw hrest
      clear hof hrest hf ih
      cases hm : t.must
      all_goals
        rw [hm] at HT
        go_enter Try.func11, Try.ntmps11
        go_wp2_with fail
        go_ret
        exact ⟨ret_string HT.out.symm, (Below.refl _ _).alloc (Nat.le_refl _) _⟩
    | [x] =>
      rw [formed_one hof, Bool.and_eq_true] at hf
      have hsz := textT_size d x hf.2
      have HT : Hid (textT (d + 1) t = mustT t.must (⟨#[91]⟩ ++ textT d x ++ ⟨#[93]⟩)) := by show _ = _; simp [textT, hof]
      have hfx : Hid (formedB d x = true) := hf.2
      have hl0 : t.of.length = 1 := by rw [hof]; rfl
      obtain ⟨b, off, rfl, _, hcs⟩ := hrest (List.ne_nil_of_length_pos (by omega))
      obtain ⟨cs, hl3, hc, hR⟩ := hcs 0 (by omega)
      have hx : t.of[0]'(by omega) = x := by simp [hof]
      rw [hx] at hR
      obtain ⟨v1, rfl⟩ := hR.cells
      have HR : Hid (∀ o, TyR (w.alloc o) 0 k x [.string x.name, v1, .bool x.must]) := fun o => TyR.keeps ((Keeps.refl _ _).alloc o) k _ _ hR
      have HC : ∀ o, CellsAt (w.alloc o) b (off + 0 * 3) [.string x.name, v1, .bool x.must] := fun o => hc.keeps ((Keeps.refl _ _).alloc o) (Nat.zero_le _)
      have HC' := fun o => (HC o).three
      simp only [Nat.zero_mul, Nat.add_zero] at HC'
      have q0 := fun o => (HC' o).1
      have q1 := fun o => (HC' o).2.1
      have q2 := fun o => (HC' o).2.2
      clear HC HC' hcs hrest hc hR hx hof hf
      cases hm : t.must
      all_goals
        rw [hm] at HT
        go_enter Try.func11, Try.ntmps11
        go_wp2_with fail
        refine (ih.out _ _ _ _ (by omega) hfx.out (HR.out _)).mono ?_
        rintro e w1 ⟨rfl, hb1⟩
        obtain ⟨hc, hf⟩ := bcell hb1
        have HB : Hid (Below w.heap.size w w1) := ((Below.refl _ _).alloc (Nat.le_refl _) _).trans (hb1.mono (by simp))
        clear hb1
        go_wp2_with fail
        go_ret
        exact ⟨ret_string HT.out.symm, HB.out⟩
    | _ :: _ :: _ => rw [formed_more (by rw [hof]; simp)] at hf; simp at hf

set_option maxHeartbeats 1000000 in
theorem typeText_any : ∀ (d k : Nat) (t : Ty) (v : Value) (w : World), d ≤ 5 → formedB d t = true → TyR w 0 k t [.string t.name, v, .bool t.must] →
    Calls Try.prog 14 #[.agg #[.string t.name, v, .bool t.must]] w fun e w' => e = .returned (.string (textT d t)) ∧ Below w.heap.size w w' := by
  intro d
  induction d with
  | zero => intro k t v w hd hf; simp [formedB] at hf
  | succ d ih' =>
    intro k t v w hd hf ht
    have ih : Hid _ := ih'
    clear ih'
    cases k with
    | zero => exact ht.elim
    | succ k =>
    obtain ⟨v', hv, hn, hrow⟩ := ht
    simp only [List.cons.injEq, true_and, and_true] at hv
    subst hv
    obtain ⟨a, cap, rfl, hw, hrest⟩ := hrow.len
    clear hrow
    match hof : t.of with
    | [] =>
      have HT : Hid (textT (d + 1) t = mustT t.must t.name) := by show _ = _; simp [textT, hof]
      have hl0 : t.of.length = 0 := by rw [hof]; rfl
      rw [hof] at hw hrest
      clear hof hrest hf ih
      cases hm : t.must
      all_goals
        rw [hm] at HT
        go_enter Try.func14, Try.ntmps14
        go_wp2_with fail
        refine (isListType_any _ _ _ _ _ _).mono ?_
        rintro e w1 ⟨rfl, hb1⟩
        obtain ⟨hc, hf⟩ := bcell hb1
        have HB : Hid (Below w.heap.size w w1) := ((Below.refl _ _).alloc (Nat.le_refl _) _).trans (hb1.mono (by simp))
        clear hb1
        go_wp2_with fail
        go_ret
        exact ⟨ret_string HT.out.symm, HB.out⟩
    | [x] =>
      rw [formed_one hof, Bool.and_eq_true] at hf
      have hsz := textT_size d x hf.2
      have HT : Hid (textT (d + 1) t = mustT t.must (⟨#[91]⟩ ++ textT d x ++ ⟨#[93]⟩)) := by show _ = _; simp [textT, hof]
      have hfx : Hid (formedB d x = true) := hf.2
      have hl0 : t.of.length = 1 := by rw [hof]; rfl
      obtain ⟨b, off, rfl, _, hcs⟩ := hrest (List.ne_nil_of_length_pos (by omega))
      obtain ⟨cs, hl3, hc, hR⟩ := hcs 0 (by omega)
      have hx : t.of[0]'(by omega) = x := by simp [hof]
      rw [hx] at hR
      obtain ⟨v1, rfl⟩ := hR.cells
      have HR : Hid (∀ o, TyR (w.alloc o) 0 k x [.string x.name, v1, .bool x.must]) := fun o => TyR.keeps ((Keeps.refl _ _).alloc o) k _ _ hR
      have HC : ∀ o, CellsAt (w.alloc o) b (off + 0 * 3) [.string x.name, v1, .bool x.must] := fun o => hc.keeps ((Keeps.refl _ _).alloc o) (Nat.zero_le _)
      have HC' := fun o => (HC o).three
      simp only [Nat.zero_mul, Nat.add_zero] at HC'
      have q0 := fun o => (HC' o).1
      have q1 := fun o => (HC' o).2.1
      have q2 := fun o => (HC' o).2.2
      clear HC HC' hcs hrest hc hR hx hof hf
      cases hm : t.must
      all_goals
        rw [hm] at HT
        go_enter Try.func14, Try.ntmps14
        go_wp2_with fail
        refine (isListType_any _ _ _ _ _ _).mono ?_
        rintro e w0 ⟨rfl, hb0⟩
        obtain ⟨hc0, hf0⟩ := bcell hb0
        have HB0 : Hid (Below w.heap.size w w0) := ((Below.refl _ _).alloc (Nat.le_refl _) _).trans (hb0.mono (by simp))
        have HR1 : Hid (TyR w0 0 k x [.string x.name, v1, .bool x.must]) := TyR.keeps (Keeps.of_below hb0 (Nat.le_refl _) _) k _ _ (HR.out _)
        have p0 : w0.cell? ⟨b, off, none⟩ = some (.string x.name) := (Keeps.of_below hb0 (Nat.le_refl _) 0).cell (Nat.zero_le _) (q0 _)
        have p1 : w0.cell? ⟨b, off + 1, none⟩ = some v1 := (Keeps.of_below hb0 (Nat.le_refl _) 0).cell (Nat.zero_le _) (q1 _)
        have p2 : w0.cell? ⟨b, off + 2, none⟩ = some (.bool x.must) := (Keeps.of_below hb0 (Nat.le_refl _) 0).cell (Nat.zero_le _) (q2 _)
        have hbox : w.heap.size < w0.heap.size := by have := hb0.size; simp at this; omega
        have r1 := hc0 w.heap.size 1 (by simp)
        have r2 := hc0 w.heap.size 2 (by simp)
        simp at r1 r2
        clear hb0 hc0 hf0 q0 q1 q2 HR
        go_wp2_with fail
        refine (ih.out _ _ _ _ (by omega) hfx.out HR1.out).mono ?_
        rintro e w1 ⟨rfl, hb1⟩
        have r3 : w1.cell? ⟨w.heap.size, 2, none⟩ = _ := (hb1.cell (p := ⟨w.heap.size, 2, none⟩) hbox).trans r2
        have HB : Hid (Below w.heap.size w w1) := HB0.out.trans (hb1.mono HB0.out.size)
        clear hb1 p0 p1 p2 r1 r2
        go_wp2_with fail
        go_ret
        exact ⟨ret_string HT.out.symm, HB.out⟩
    | _ :: _ :: _ => rw [formed_more (by rw [hof]; simp)] at hf; simp at hf

end Go.Proofs.Ytincjlpaddhfbaa
