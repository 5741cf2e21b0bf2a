/-
  DERIVED. THE WALKS OF laws.szType, laws.szTypeS: they end, whatever the type is, and turn nothing.
-/
import Derived.Test.YtlmldkkodfgomaaRows
import Derived.Test.YtlmldkkodfgomaaRep
import Derived.WalkKit
import Derived.WalkSpells
import Derived.WalkLawsBesides
namespace Go.Proofs.Ytlmldkkodfgomaa
open Go.RowKit
set_option linter.unusedVariables false
set_option linter.unusedSimpArgs false

/-- What a size answers: no more than it was given, and -1 at least. -/
def SzPost (left : Int) (w : World) (e : Ending) (w' : World) : Prop := ∃ r : Int, e = .returned (.int .i64 r) ∧ -1 ≤ r ∧ r ≤ left ∧ Below w.heap.size w w'

def SzTy (k : Nat) : Prop := ∀ (t : Ty) (v : Value) (left : Int) (w : World), TyR w 0 k t [.string t.name, v, .bool t.must] → 0 ≤ left → left ≤ 1048576 →
  Calls Try.prog 4 #[.agg #[.string t.name, v, .bool t.must], .int .i64 left] w (SzPost left w)
def SzTyS (k : Nat) : Prop := ∀ (l : List Ty) (v : Value) (left : Int) (w : World), Row w 0 3 48 (TyR w 0 k) l v → 0 ≤ left → left ≤ 1048576 →
  Calls Try.prog 9 #[v, .int .i64 left] w (SzPost left w)

set_option maxHeartbeats 400000 in
theorem szTypeS_step (k : Nat) (hT : SzTy k) : SzTyS k := by
  intro l v left w hrow h0 h1
  obtain ⟨a, cap, rfl, hw, hrest⟩ := hrow.len
  have hlen : (l.length : Int) ≤ 140737488351232 := by omega
  by_cases hneg : left - (l.length : Int) < 0
  · go_enter Try.func9, Try.ntmps9
    go_wp2_with fail
    go_ret
    exact ⟨_, rfl, by omega, by omega, Below.refl _ _⟩
  · go_enter Try.func9, Try.ntmps9
    go_wp2_with fail
    go_loopw [1, 5] (fun lf i wr => ∃ (j : Nat) (r : Int), j ≤ l.length ∧ i = .int .i64 j ∧ lf = .int .i64 r ∧ 0 ≤ r ∧ r ≤ left ∧ Below w.heap.size w wr) (fun _ i _ => l.length - (intOf i).toNat)
    case atStart => exact ⟨0, _, Nat.zero_le _, rfl, rfl, by omega, by omega, Below.refl _ _⟩
    case round =>
      obtain ⟨j, r, hj, rfl, rfl, hr0, hr1, hb⟩ := hrel
      by_cases hlt : j < l.length
      · obtain ⟨b, off, rfl, _, hcs⟩ := hrest (List.ne_nil_of_length_pos (by omega))
        obtain ⟨cs, hl3, hc, hR⟩ := hcs j hlt
        obtain ⟨v, rfl⟩ := hR.cells
        have hk : Keeps 0 w wr := Keeps.of_below hb (Nat.le_refl _) _
        obtain ⟨c0, c1, c2⟩ := (hc.keeps hk (Nat.zero_le _)).three
        have HR : Hid (TyR wr 0 k l[j] [.string l[j].name, v, .bool l[j].must]) := TyR.keeps hk k _ _ hR
        clear hc hR hcs hrest
        go_wp2_with (go_at_call 4; refine (hT _ _ _ _ HR.out hr0 (by omega)).mono ?_; rintro e w1 ⟨r1, rfl, hr2, hr3, hb1⟩)
        · go_ret
          exact ⟨_, rfl, by omega, by omega, hb.trans (hb1.mono hb.size)⟩
        · exact ⟨⟨j + 1, r1, by omega, by go_num, rfl, by omega, by omega, hb.trans (hb1.mono hb.size)⟩, by simp [intOf]; omega⟩
      · go_wp2_with fail
        go_ret
        exact ⟨_, rfl, by omega, by omega, hb⟩

set_option maxHeartbeats 400000 in
theorem szType_step (k : Nat) (hS : SzTyS k) : SzTy (k + 1) := by
  intro t v left w ht h0 h1
  obtain ⟨v', hv, hn, hrow⟩ := ht
  simp only [List.cons.injEq, true_and, and_true] at hv
  subst hv
  have hn' : (t.name.size : Int) ≤ 140737488351232 := by omega
  by_cases hneg : left - (t.name.size : Int) < 0
  · go_enter Try.func4, Try.ntmps4
    go_wp2_with fail
    go_ret
    exact ⟨_, rfl, by omega, by omega, (Below.refl _ _).alloc (Nat.le_refl _) _⟩
  · go_enter Try.func4, Try.ntmps4
    have HR : Hid (∀ o, Row (w.alloc o) 0 3 48 (TyR (w.alloc o) 0 k) t.of v) := fun o => TyRow.keeps ((Keeps.refl _ _).alloc o) hrow
    clear hrow
    go_wp2_with (go_at_call 9; refine (hS t.of _ _ _ (HR.out _) hneg (by omega)).mono ?_; rintro e w1 ⟨r1, rfl, hr2, hr3, hb1⟩)
    all_goals
      go_ret
      exact ⟨_, rfl, by omega, by omega, ((Below.refl _ _).alloc (Nat.le_refl _) _).trans (hb1.mono (by simp))⟩

theorem sz_all : ∀ k : Nat, SzTy k ∧ SzTyS k
  | 0 => ⟨fun _ _ _ _ h => h.elim, szTypeS_step 0 (fun _ _ _ _ h => h.elim)⟩
  | k + 1 => ⟨szType_step k (sz_all k).2, szTypeS_step (k + 1) (szType_step k (sz_all k).2)⟩

end Go.Proofs.Ytlmldkkodfgomaa
