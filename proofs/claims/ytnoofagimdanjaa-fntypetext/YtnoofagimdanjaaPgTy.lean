/-
  DERIVED. THE WALK OF laws.pgType: two that read as the same are the same.
-/
import Derived.Test.YtnoofagimdanjaaDrawTy
namespace Go.Proofs.Ytnoofagimdanjaa
open Go.RowKit
set_option linter.unusedVariables false
set_option linter.unusedSimpArgs false

def PgTy (k : Nat) : Prop := ∀ (t : Ty) (v v' : Value) (w : World), TyR w 0 k t [.string t.name, v, .bool t.must] → TyR w 0 k t [.string t.name, v', .bool t.must] →
  Calls Try.prog 8 #[.agg #[.string t.name, v, .bool t.must], .agg #[.string t.name, v', .bool t.must]] w fun e w' => e = .returned (.bool true) ∧ Below w.heap.size w w'

set_option maxHeartbeats 1000000 in
theorem pgType_step (k : Nat) (hT : PgTy k) : PgTy (k + 1) := by
  intro t v v' w ht ht'
  obtain ⟨v0, hv, hn, hrow⟩ := ht
  simp only [List.cons.injEq, true_and, and_true] at hv
  subst hv
  obtain ⟨v0', hv', _, hrow'⟩ := ht'
  simp only [List.cons.injEq, true_and, and_true] at hv'
  subst hv'
  obtain ⟨a, cap, rfl, hw, hrest⟩ := hrow.len
  obtain ⟨a', cap', rfl, _, hrest'⟩ := hrow'.len
  have hlen : (t.of.length : Int) ≤ 140737488351232 := by omega
  clear hrow hrow'
  go_enter Try.func8, Try.ntmps8
  go_wp2_with fail
  go_loopw [5] (fun i wr => ∃ j : Nat, j ≤ t.of.length ∧ i = .int .i64 j ∧ Hid (Owns wr w.heap.size #[.string t.name, .slice a t.of.length cap, .bool t.must] 25) ∧ Hid (Owns wr (w.heap.size + 1) #[.string t.name, .slice a' t.of.length cap', .bool t.must] 25) ∧ Hid (Below w.heap.size w wr)) (fun i _ => t.of.length - (intOf i).toNat)
  case atStart =>
    refine ⟨0, Nat.zero_le _, rfl, (Owns.made w _ _).below ((Below.refl _ _).alloc (Nat.le_refl _) _) (by simp), ?_, ((Below.refl _ _).alloc (Nat.le_refl _) _).alloc (by simp) _⟩
    have := Owns.made (w.alloc (.cells #[.string t.name, .slice a t.of.length cap, .bool t.must] 25)) #[.string t.name, .slice a' t.of.length cap', .bool t.must] 25
    rw [show (w.alloc (.cells #[.string t.name, .slice a t.of.length cap, .bool t.must] 25)).heap.size = w.heap.size + 1 by simp] at this
    exact this
  case round =>
    obtain ⟨j, hj, rfl, HO, HO', HB⟩ := hrel
    have x1 : wr.cell? ⟨w.heap.size, 1, none⟩ = some (.slice a t.of.length cap) := by rw [HO.out.cell]; rfl
    have x1' : wr.cell? ⟨w.heap.size + 1, 1, none⟩ = some (.slice a' t.of.length cap') := by rw [HO'.out.cell]; rfl
    by_cases hlt : j < t.of.length
    · obtain ⟨b, off, rfl, _, hcs⟩ := hrest (List.ne_nil_of_length_pos (by omega))
      obtain ⟨cs, hl3, hc, hR⟩ := hcs j hlt
      obtain ⟨v, rfl⟩ := hR.cells
      obtain ⟨b', off', rfl, _, hcs'⟩ := hrest' (List.ne_nil_of_length_pos (by omega))
      obtain ⟨cs', hl3', hc', hR'⟩ := hcs' j hlt
      obtain ⟨v', rfl⟩ := hR'.cells
      have hk : Keeps 0 w wr := Keeps.of_below HB.out (Nat.le_refl _) _
      obtain ⟨c0, c1, c2⟩ := (hc.keeps hk (Nat.zero_le _)).three
      obtain ⟨d0, d1, d2⟩ := (hc'.keeps hk (Nat.zero_le _)).three
      have HR : Hid (TyR wr.drew 0 k t.of[j] [.string t.of[j].name, v, .bool t.of[j].must]) := TyR.keeps hk.drew k _ _ hR
      have HR' : Hid (TyR wr.drew 0 k t.of[j] [.string t.of[j].name, v', .bool t.of[j].must]) := TyR.keeps hk.drew k _ _ hR'
      clear hc hR hcs hrest hc' hR' hcs' hrest' hl3 hl3' hk
      go_wp2_with fail
      go_region_with (go_at_call 8; refine (hT _ _ _ _ HR.out HR'.out).mono ?_; rintro e w1 ⟨rfl, hb1⟩; have HB1 : Hid (Below wr.heap.size wr w1) := ((Below.refl _ _).drew.trans hb1); clear hb1)
      all_goals
        go_wp2_with fail
        exact ⟨⟨j + 1, by omega, by go_num, HO.out.below HB1.out HO.out.lt, HO'.out.below HB1.out HO'.out.lt, HB.out.trans (HB1.out.mono HB.out.size)⟩, by simp [intOf]; omega⟩
    · go_wp2_with fail
      go_ret
      exact ⟨rfl, HB.out⟩

theorem pg_all : ∀ k : Nat, PgTy k
  | 0 => fun _ _ _ _ h => h.elim
  | k + 1 => pgType_step k (pg_all k)

end Go.Proofs.Ytnoofagimdanjaa
