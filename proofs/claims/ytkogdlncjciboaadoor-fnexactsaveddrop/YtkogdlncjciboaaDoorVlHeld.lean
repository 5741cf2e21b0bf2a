
/-
  DERIVED. THE WALKS OF laws.heldStringS, laws.heldValueS, laws.heldValue: what was marked is held.
-/
import Derived.Test.YtkogdlncjciboaaDoorVlMark
namespace Go.Proofs.YtkogdlncjciboaaDoor
open Go.RowKit
set_option linter.unusedVariables false
set_option linter.unusedSimpArgs false

theorem beq_refl_bytes (s : ByteArray) : (s.toList == s.toList) = true := by simp

theorem markText_at (k j : Nat) (w : World) (h1 : 1 ≤ k + j) (h2 : k + j ≤ 99999999) :
    Calls Tryd.prog 45 #[.int .i64 ((k : Int) + (j : Int))] w fun e w' => e = .returned (.string (markB (k + j))) ∧ Below w.heap.size w w' := by
  have h := markText_any (k + j) w h1 h2
  have ek : ((k + j : Nat) : Int) = (k : Int) + (j : Int) := by omega
  rw [ek] at h
  exact h

set_option maxHeartbeats 2000000 in
theorem heldStringS_any (l : List ByteArray) (v : Value) (k : Nat) (w : World) (hrow : StrRow w 0 l v) (hM : MkN k l) (hk1 : 1 ≤ k) (hk2 : k + l.length ≤ 99999990) :
    Calls Tryd.prog 36 #[v, .int .i64 (k : Int)] w fun e w' => e = .returned (.int .i64 ((k + l.length : Nat) : Int)) ∧ Below w.heap.size w w' := by
  obtain ⟨a, cap, rfl, hw, hrest⟩ := hrow.len
  have hlen : (l.length : Int) ≤ 99999990 := by omega
  have hki : (k : Int) ≤ 99999990 := by omega
  have hk0 : (0 : Int) ≤ (k : Int) := by omega
  have HM : Hid (MkN k l) := hM
  clear hrow hw hM
  go_enter Tryd.func36, Tryd.ntmps36
  go_wp2_with fail
  go_loopw [1, 5] (fun n i wr => ∃ j : Nat, j ≤ l.length ∧ i = .int .i64 j ∧ n = .int .i64 ((k : Int) + (j : Int)) ∧ Hid (Below w.heap.size w wr)) (fun _ i _ => l.length - (intOf i).toNat)
  case atStart => exact ⟨0, Nat.zero_le _, rfl, by simp, Below.refl _ _⟩
  case round =>
    obtain ⟨j, hj, rfl, rfl, HB⟩ := hrel
    have hji : (j : Int) ≤ 99999990 := by omega
    have hj0 : (0 : Int) ≤ (j : Int) := by omega
    by_cases hlt : j < l.length
    · obtain ⟨b, off, rfl, _, hcs⟩ := hrest (List.ne_nil_of_length_pos (by omega))
      obtain ⟨c0, hs⟩ := hcs j hlt
      have c1 : wr.cell? ⟨b, off + j, none⟩ = some (.string (markB (k + j))) := by
        rw [← HM.out j hlt]; exact (Keeps.of_below HB.out (Nat.le_refl _) 0).cell (Nat.zero_le _) c0
      have ek : ((k + j : Nat) : Int) = (k : Int) + (j : Int) := by omega
      have hbq := beq_refl_bytes (markB (k + j))
      clear hcs hrest c0
      go_wp2_with fail
      go_region_with (go_at_call 45; refine (markText_at k j _ (by omega) (by omega)).mono ?_; rintro e w1 ⟨rfl, hb1⟩; have y0 := cell_on (W := wr.drew) hb1 c1; have HB1 : Hid _ := hb1; clear hb1)
      all_goals
        have HB2 : Hid (Below w.heap.size w w1) := HB.out.drew.trans (Below.mono HB1.out HB.out.size)
        go_wp2_with fail
        exact ⟨⟨j + 1, by omega, by go_num, by go_num, HB2⟩, by simp [intOf]; omega⟩
    · obtain rfl : j = l.length := by omega
      go_wp2_with fail
      go_ret
      exact ⟨ret_int (by omega), HB.out⟩

theorem markText_two (k : Nat) (w : World) (h2 : k + 2 ≤ 99999999) :
    Calls Tryd.prog 45 #[.int .i64 ((k : Int) + 1 + 1)] w fun e w' => e = .returned (.string (markB (k + 2))) ∧ Below w.heap.size w w' := by
  have h := markText_any (k + 2) w (by omega) h2
  have ek : ((k + 2 : Nat) : Int) = (k : Int) + 1 + 1 := by omega
  rw [ek] at h
  exact h

end Go.Proofs.YtkogdlncjciboaaDoor
