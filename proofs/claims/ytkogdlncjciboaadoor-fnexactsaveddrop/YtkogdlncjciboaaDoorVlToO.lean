
/-
  DERIVED. THE WALKS OF laws.toStringS, laws.toValue, laws.toValueS: a copy that owns its memory.
-/
import Derived.Test.YtkogdlncjciboaaDoorStrW
import Derived.Test.YtkogdlncjciboaaDoorVlOwn
namespace Go.Proofs.YtkogdlncjciboaaDoor
open Go.RowKit
set_option linter.unusedVariables false
set_option linter.unusedSimpArgs false

set_option maxHeartbeats 1000000 in
theorem toStringS_own (l : List ByteArray) (v : Value) (w : World) (hrow : StrRow w 0 l v) :
    Calls Tryd.prog 28 #[v] w fun e w' => ∃ v', e = .returned v' ∧ OwnRow w' 9 1 16 StrO 0 0 l v' ∧ (∀ b, At v' b → b = w.heap.size ∧ w.heap.size < w'.heap.size) ∧ Below w.heap.size w w' := by
  obtain ⟨a, cap, rfl, hw, hrest⟩ := hrow.len
  have hlen : (l.length : Int) ≤ 140737488351232 := by omega
  obtain ⟨i, hi, hz, hs, hby⟩ := info_string
  have hmk := run_make (P := Tryd.prog) w 27 9 i _ Tryd.underlying27 hi hz .i64 .i64 (l.length : Int) (l.length : Int) (by omega) (by omega) (by rw [hby]; omega) (by omega)
  rw [hs, Int.toNat_natCast] at hmk
  clear hi hz hs hby hrow
  go_enter Tryd.func28, Tryd.ntmps28
  go_wp2_with fail
  clear hmk
  go_loopw [4] (fun i wr => ∃ j : Nat, j ≤ l.length ∧ i = .int .i64 j ∧ FilledO wr w.heap.size 1 9 StrO 0 0 l j ∧ Below w.heap.size w wr) (fun i _ => l.length - (intOf i).toNat)
  case atStart =>
    refine ⟨0, Nat.zero_le _, rfl, ?_, (Below.refl _ _).alloc (Nat.le_refl _) _⟩
    exact FilledO.made (Owns.made w _ 9) (by simp [size_madeCells]) (Nat.le_refl _)
  case round =>
    obtain ⟨j, hj, rfl, HF, hb⟩ := hrel
    by_cases hlt : j < l.length
    · obtain ⟨b, off, rfl, _, hcs⟩ := hrest (List.ne_nil_of_length_pos (by omega))
      obtain ⟨c0, hs⟩ := hcs j hlt
      have c1 : wr.cell? ⟨b, off + j, none⟩ = some (.string l[j]) := (Keeps.of_below hb (Nat.le_refl _) 0).cell (Nat.zero_le _) c0
      obtain ⟨⟨x0, s0⟩, z0⟩ := HF.slot hlt (q := 0) (by omega)
      rw [Nat.add_zero, Nat.mul_one] at s0 z0
      have HF2 : Hid (FilledO (wr.setCells w.heap.size (j * 1) [.string l[j]]) w.heap.size 1 9 StrO 0 0 l (j + 1)) := HF.put hlt (Nat.le_refl _) [.string l[j]] rfl (fun _ _ _ _ _ _ h => h) (fun _ _ _ => ⟨rfl, hs⟩)
      have HB2 : Hid (Below w.heap.size w (wr.setCells w.heap.size (j * 1) [.string l[j]])) := Below.setCells (Nat.le_refl _) _ _ hb
      rw [Nat.mul_one] at HF2 HB2
      clear hcs hrest c0 HF hb
      go_wp2_with fail
      exact ⟨⟨j + 1, by omega, by go_num, HF2, HB2⟩, by simp [intOf]; omega⟩
    · obtain rfl : j = l.length := by omega
      go_wp2_with fail
      go_ret
      exact ⟨_, rfl, HF.row (Or.inr (Nat.zero_le _)) hw, fun b hb => ⟨hb.eq, HF.lt⟩, hb⟩

theorem setCells_other {b : Nat} : ∀ (cs : List Value) (o : Nat) (w : World) (k : Nat), k ≠ b → (w.setCells b o cs).heap[k]? = w.heap[k]?
  | [], _, _, _, _ => rfl
  | v :: r, o, w, k, h => by
    show ((w.setCell ⟨b, o, none⟩ v).setCells b (o + 1) r).heap[k]? = _
    rw [setCells_other r (o + 1) _ k h, Below.heap_setCell _ _ _ _ h]

theorem size_alloc3 (w : World) (o o' o'' : Obj) : (((w.alloc o).alloc o').alloc o'').heap.size = w.heap.size + 3 := by simp

end Go.Proofs.YtkogdlncjciboaaDoor
