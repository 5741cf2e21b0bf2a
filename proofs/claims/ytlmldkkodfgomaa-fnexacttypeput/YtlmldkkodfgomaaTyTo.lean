/-
  DERIVED. THE WALKS OF laws.toType, laws.toTypeS: a copy in new memory that reads as the same.
-/
import Derived.Test.YtlmldkkodfgomaaRows
import Derived.Test.YtlmldkkodfgomaaRep
import Derived.WalkKit
import Derived.WalkSpells
import Derived.WalkLawsBesides
namespace Go.Proofs.Ytlmldkkodfgomaa
open Go.RowKit
set_option linter.unusedVariables false
set_option linter.unusedSimpArgs false

def ToTy (k : Nat) : Prop := ∀ (t : Ty) (v : Value) (w : World), TyR w 0 k t [.string t.name, v, .bool t.must] →
  Calls Try.prog 6 #[.agg #[.string t.name, v, .bool t.must]] w fun e w' =>
    ∃ v', e = .returned (.agg #[.string t.name, v', .bool t.must]) ∧ TyR w' w.heap.size k t [.string t.name, v', .bool t.must] ∧ Below w.heap.size w w'
def ToTyS (k : Nat) : Prop := ∀ (l : List Ty) (v : Value) (w : World), Row w 0 3 48 (TyR w 0 k) l v →
  Calls Try.prog 12 #[v] w fun e w' => ∃ v', e = .returned v' ∧ Row w' w.heap.size 3 48 (TyR w' w.heap.size k) l v' ∧ Below w.heap.size w w'

theorem info_impl_Type : ∃ i, Try.prog.info? 29 = some i ∧ i.zero = some (.agg #[.string ByteArray.empty, .slice none 0 0, .bool false]) ∧ i.size = 3 ∧ i.bytes = 48 := by
  have h : (Try.prog.info? 29).map (fun i => (i.zero, i.size, i.bytes)) = some (some (.agg #[.string ByteArray.empty, .slice none 0 0, .bool false]), 3, 48) := by kernel_rfl
  obtain ⟨i, h1, h2⟩ := Option.map_eq_some_iff.1 h
  simp only [Prod.mk.injEq] at h2
  exact ⟨i, h1, h2.1, h2.2.1, h2.2.2⟩

set_option maxHeartbeats 400000 in
theorem toTypeS_step (k : Nat) (hT : ToTy k) : ToTyS k := by
  intro l v w hrow
  obtain ⟨a, cap, rfl, hw, hrest⟩ := hrow.len
  have hlen : (l.length : Int) ≤ 140737488351232 := by omega
  obtain ⟨i, hi, hz, hs, hby⟩ := info_impl_Type
  have hmk := run_make (P := Try.prog) w 27 29 i _ Try.underlying27 hi hz .i64 .i64 (l.length : Int) (l.length : Int) (by omega) (by omega) (by rw [hby]; omega) (by omega)
  rw [hs, Int.toNat_natCast] at hmk
  clear hi hz hs hby
  go_enter Try.func12, Try.ntmps12
  go_wp2_with fail
  clear hmk
  go_loopw [4] (fun i wr => ∃ j : Nat, j ≤ l.length ∧ i = .int .i64 j ∧ Filled wr w.heap.size 3 29 (TyR wr (w.heap.size + 1) k) l j ∧ Below w.heap.size w wr) (fun i _ => l.length - (intOf i).toNat)
  case atStart => exact ⟨0, Nat.zero_le _, rfl, Filled.made w 3 29 _ l _ (size_madeCells _ _), (Below.refl _ _).alloc (Nat.le_refl _) _⟩
  case round =>
    obtain ⟨j, hj, rfl, HF, hb⟩ := hrel
    by_cases hlt : j < l.length
    · obtain ⟨b, off, rfl, _, hcs⟩ := hrest (List.ne_nil_of_length_pos (by omega))
      obtain ⟨cs, hl3, hc, hR⟩ := hcs j hlt
      obtain ⟨v, rfl⟩ := hR.cells
      have hk : Keeps 0 w wr := Keeps.of_below hb (Nat.le_refl _) _
      obtain ⟨c0, c1, c2⟩ := (hc.keeps hk (Nat.zero_le _)).three
      have HR : Hid (TyR wr 0 k l[j] [.string l[j].name, v, .bool l[j].must]) := TyR.keeps hk k _ _ hR
      clear hc hR hcs hrest
      go_wp2_with fail
      refine (hT _ _ _ HR.out).mono ?_
      rintro e w1 ⟨v', rfl, hR1, hb1⟩
      obtain ⟨a', cap', rfl⟩ := hR1.slice
      have HF1 := Filled.below (R' := TyR w1 (w.heap.size + 1) k) HF hb1 HF.lt (TyR.keeps (Keeps.of_below hb1 (Nat.le_refl _) _) k)
      have hlt0 := HF.lt
      obtain ⟨⟨x0, s0⟩, z0⟩ := HF1.slot hlt (q := 0) (by omega)
      obtain ⟨⟨x1, s1⟩, z1⟩ := HF1.slot hlt (q := 1) (by omega)
      obtain ⟨⟨x2, s2⟩, z2⟩ := HF1.slot hlt (q := 2) (by omega)
      rw [Nat.add_zero] at s0 z0
      have HF2 := HF1.put (R' := TyR (w1.setCells w.heap.size (j * 3) [.string l[j].name, .slice a' l[j].of.length cap', .bool l[j].must]) (w.heap.size + 1) k) hlt [.string l[j].name, .slice a' l[j].of.length cap', .bool l[j].must] rfl
        (TyR.keeps (Keeps.setCells (Nat.lt_succ_self _) _ _ (Keeps.refl _ _)) k)
        (TyR.keeps (Keeps.setCells (Nat.lt_succ_self _) _ _ (Keeps.refl _ _)) k _ _ (TyR.base hlt0 k _ _ hR1))
      have HB2 : Hid (Below w.heap.size w (w1.setCells w.heap.size (j * 3) [.string l[j].name, .slice a' l[j].of.length cap', .bool l[j].must])) :=
        Below.setCells (Nat.le_refl _) _ _ (hb.trans (hb1.mono hb.size))
      have HF2 : Hid _ := HF2
      clear HF1 HF HR hb1 hR1 c0 c1 c2 hk hb
      go_wp2_with fail
      exact ⟨⟨j + 1, by omega, by go_num, HF2, HB2⟩, by simp [intOf]; omega⟩
    · obtain rfl : j = l.length := by omega
      go_wp2_with fail
      go_ret
      exact ⟨_, rfl, HF.row (Nat.le_refl _) hw (by unfold maxLen; omega) (TyR.base (Nat.le_succ _) k), hb⟩

set_option maxHeartbeats 400000 in
theorem toType_step (k : Nat) (hS : ToTyS k) : ToTy (k + 1) := by
  intro t v w ht
  obtain ⟨v', hv, hn, hrow⟩ := ht
  simp only [List.cons.injEq, true_and, and_true] at hv
  subst hv
  go_enter Try.func6, Try.ntmps6
  have HR : Hid (∀ o1 o2 o3, Row (((w.alloc o1).alloc o2).alloc o3) 0 3 48 (TyR (((w.alloc o1).alloc o2).alloc o3) 0 k) t.of v) := fun o1 o2 o3 => TyRow.keeps ((((Keeps.refl _ _).alloc o1).alloc o2).alloc o3) hrow
  clear hrow
  go_wp2_with fail
  refine (hS t.of v _ (HR.out _ _ _)).mono ?_
  rintro e w1 ⟨v', rfl, hR1, hb1⟩
  obtain ⟨a', cap', rfl, hw1, _⟩ := hR1.len
  obtain ⟨hc, hf⟩ := bcell hb1
  have hz : w.heap.size + 1 + 1 < w1.heap.size := by have := hb1.size; simp at this; omega
  have HR1 : Hid (Row w1 (w.heap.size + 3) 3 48 (TyR w1 (w.heap.size + 3) k) t.of (.slice a' t.of.length cap')) := TyRow.base (by simp) hR1
  have HB : Hid (Below w.heap.size w w1) := ((((Below.refl _ _).alloc (Nat.le_refl _) _).alloc (by simp) _).alloc (by simp; omega) _).trans (hb1.mono (by simp; omega))
  clear HR hR1 hb1
  go_wp2_with fail
  refine bodyPost_ret (v := .agg #[.string t.name, .slice a' t.of.length cap', .bool t.must]) (by simp [results, Try.results6, go_sem, hc, hz]) rfl ⟨_, rfl, ⟨_, rfl, hn, ?_⟩, ?_⟩
  · refine TyRow.base (base := w.heap.size + 3) (by omega) (TyRow.keeps ?_ HR1.out)
    exact ((((Keeps.refl _ _).setCell (by simp; try omega) _).setCell (by simp; try omega) _).setCell (by simp; try omega) _).setCell (by simp; try omega) _ |>.setCell (by simp; try omega) _
  · exact ((((HB.out.setCell (by simp; try omega) _).setCell (by simp; try omega) _).setCell (by simp; try omega) _).setCell (by simp; try omega) _).setCell (by simp; try omega) _

theorem to_all : ∀ k : Nat, ToTy k ∧ ToTyS k
  | 0 => ⟨fun _ _ _ h => h.elim, toTypeS_step 0 (fun _ _ _ h => h.elim)⟩
  | k + 1 => ⟨toType_step k (to_all k).2, toTypeS_step (k + 1) (toType_step k (to_all k).2)⟩

end Go.Proofs.Ytlmldkkodfgomaa
