/-
  DERIVED. THE WALKS OF laws.eqType, laws.eqTypeS: two that read as the same are equal.
-/
import Derived.Test.YtlmldkkodfgomaaRows
import Derived.Test.YtlmldkkodfgomaaRep
import Derived.WalkKit
import Derived.WalkSpells
import Derived.WalkLawsBesides
import Derived.Deep.RegionWith
import Derived.BigQuiet
namespace Go.Proofs.Ytlmldkkodfgomaa
open Go.RowKit
set_option linter.unusedVariables false
set_option linter.unusedSimpArgs false

def EqTy (k : Nat) : Prop := ∀ (t : Ty) (v v' : Value) (w : World), TyR w 0 k t [.string t.name, v, .bool t.must] → TyR w 0 k t [.string t.name, v', .bool t.must] →
  Calls Try.prog 8 #[.agg #[.string t.name, v, .bool t.must], .agg #[.string t.name, v', .bool t.must]] w fun e w' => e = .returned (.bool true) ∧ Below w.heap.size w w'
def EqTyS (k : Nat) : Prop := ∀ (l : List Ty) (v v' : Value) (w : World), Row w 0 3 48 (TyR w 0 k) l v → Row w 0 3 48 (TyR w 0 k) l v' →
  Calls Try.prog 15 #[v, v'] w fun e w' => e = .returned (.bool true) ∧ Below w.heap.size w w'

set_option maxHeartbeats 400000 in
theorem eqTypeS_step (k : Nat) (hT : EqTy k) : EqTyS k := by
  intro l v v' w hrow hrow'
  obtain ⟨a, cap, rfl, hw, hrest⟩ := hrow.len
  obtain ⟨a', cap', rfl, _, hrest'⟩ := hrow'.len
  have hlen : (l.length : Int) ≤ 140737488351232 := by omega
  clear hrow hrow'
  go_enter Try.func15, Try.ntmps15
  go_wp2_with fail
  go_loopw [5] (fun i wr => ∃ j : Nat, j ≤ l.length ∧ i = .int .i64 j ∧ Below w.heap.size w wr) (fun i _ => l.length - (intOf i).toNat)
  case atStart => exact ⟨0, Nat.zero_le _, rfl, Below.refl _ _⟩
  case round =>
    obtain ⟨j, hj, rfl, hb⟩ := hrel
    by_cases hlt : j < l.length
    · obtain ⟨b, off, rfl, _, hcs⟩ := hrest (List.ne_nil_of_length_pos (by omega))
      obtain ⟨cs, hl3, hc, hR⟩ := hcs j hlt
      obtain ⟨v, rfl⟩ := hR.cells
      obtain ⟨b', off', rfl, _, hcs'⟩ := hrest' (List.ne_nil_of_length_pos (by omega))
      obtain ⟨cs', hl3', hc', hR'⟩ := hcs' j hlt
      obtain ⟨v', rfl⟩ := hR'.cells
      have hk : Keeps 0 w wr := Keeps.of_below hb (Nat.le_refl _) _
      obtain ⟨c0, c1, c2⟩ := (hc.keeps hk (Nat.zero_le _)).three
      obtain ⟨d0, d1, d2⟩ := (hc'.keeps hk (Nat.zero_le _)).three
      have HR : Hid (TyR wr.drew 0 k l[j] [.string l[j].name, v, .bool l[j].must]) := TyR.keeps hk.drew k _ _ hR
      have HR' : Hid (TyR wr.drew 0 k l[j] [.string l[j].name, v', .bool l[j].must]) := TyR.keeps hk.drew k _ _ hR'
      clear hc hR hcs hrest hc' hR' hcs' hrest' hl3 hl3'
      go_wp2_with fail
      go_region_with (go_at_call 8; refine (hT _ _ _ _ HR.out HR'.out).mono ?_; rintro e w1 ⟨rfl, hb1⟩)
      all_goals
        have HB : Hid (Below w.heap.size w w1) := hb.drew.trans (hb1.mono hb.size)
        clear hb1
        go_wp2_with fail
        exact ⟨⟨j + 1, by omega, by go_num, HB.out⟩, by simp [intOf]; omega⟩
    · go_wp2_with fail
      go_ret
      exact ⟨rfl, hb⟩

set_option maxHeartbeats 400000 in
theorem eqType_step (k : Nat) (hS : EqTyS k) : EqTy (k + 1) := by
  intro t v v' w ht ht'
  obtain ⟨v0, hv, hn, hrow⟩ := ht
  simp only [List.cons.injEq, true_and, and_true] at hv
  subst hv
  obtain ⟨v0', hv', _, hrow'⟩ := ht'
  simp only [List.cons.injEq, true_and, and_true] at hv'
  subst hv'
  have HR : Hid (∀ o1 o2, Row ((w.alloc o1).alloc o2) 0 3 48 (TyR ((w.alloc o1).alloc o2) 0 k) t.of v) := fun o1 o2 => TyRow.keeps (((Keeps.refl _ _).alloc o1).alloc o2) hrow
  have HR' : Hid (∀ o1 o2, Row ((w.alloc o1).alloc o2) 0 3 48 (TyR ((w.alloc o1).alloc o2) 0 k) t.of v') := fun o1 o2 => TyRow.keeps (((Keeps.refl _ _).alloc o1).alloc o2) hrow'
  clear hrow hrow'
  go_enter Try.func8, Try.ntmps8
  go_wp2_with fail
  refine (hS t.of v v' _ (HR.out _ _) (HR'.out _ _)).mono ?_
  rintro e w1 ⟨rfl, hb1⟩
  obtain ⟨hc, hf⟩ := bcell hb1
  have HB : Hid (Below w.heap.size w w1) := (((Below.refl _ _).alloc (Nat.le_refl _) _).alloc (by simp) _).trans (hb1.mono (by simp; omega))
  clear hb1
  go_wp2_with fail
  go_ret
  exact ⟨rfl, HB.out⟩

theorem eq_all : ∀ k : Nat, EqTy k ∧ EqTyS k
  | 0 => ⟨fun _ _ _ _ h => h.elim, eqTypeS_step 0 (fun _ _ _ _ h => h.elim)⟩
  | k + 1 => ⟨eqType_step k (eq_all k).2, eqTypeS_step (k + 1) (eqType_step k (eq_all k).2)⟩

end Go.Proofs.Ytlmldkkodfgomaa
