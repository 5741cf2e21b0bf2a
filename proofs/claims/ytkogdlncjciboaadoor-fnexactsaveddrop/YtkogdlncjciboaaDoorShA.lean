
/-
  DERIVED. TURNED WORDS: the walks of spec.l11Turn, math/bits.RotateLeft32, impl.turns.
-/
import Derived.Test.YtkogdlncjciboaaDoorShW
import Derived.Test.YtkogdlncjciboaaDoorRep
import Derived.Test.YtkogdlncjciboaaDoorRows
import Derived.WalkKit
import Derived.WalkSpells
import Derived.WalkLawsBesides
import Derived.Deep.RegionWith
import Derived.BigQuiet
import Derived.BigRegion
namespace Go.Proofs.YtkogdlncjciboaaDoor
open Go.RowKit
set_option linter.unusedVariables false
set_option linter.unusedSimpArgs false

set_option maxHeartbeats 1000000 in
theorem l11Turn_any (x : W32) (n : Nat) (w : World) (h0 : 0 < n) (h1 : n < 32) :
    Calls Tryd.prog 48 #[.int .u32 (wI x), .int .i64 n] w fun e w' => e = .returned (.int .u32 (wI (rotR x n))) ∧ Below w.heap.size w w' := by
  have hn0 : ¬ ((n : Int) < 0) := by omega
  have hn1 : (n : Int) < 32 := by omega
  have hs : (32 : Int) - (n : Int) = ((32 - n : Nat) : Int) := by omega
  have hs0 : ¬ (((32 - n : Nat) : Int) < 0) := by omega
  go_enter Tryd.func48, Tryd.ntmps48
  go_wp2_with fail
  go_region
  all_goals
    go_wp2_with fail
    go_ret
    exact ⟨by rw [wI_shr', wI_shl', wI_or]; rfl, (Below.refl _ _).drew⟩

set_option maxHeartbeats 1000000 in
theorem rotateLeft32_any (x : W32) (n : Nat) (w : World) (h0 : 0 < n) (h1 : n < 32) :
    Calls Tryd.prog 57 #[.int .u32 (wI x), .int .i64 (-(n : Int))] w fun e w' => e = .returned (.int .u32 (wI (rotR x n))) ∧ Below w.heap.size w w' := by
  have hk : bits .and .u64 (IntKind.u64.wrap (-(n : Int))) 31 = ((32 - n : Nat) : Int) := by
    have e : IntKind.u64.wrap (-(n : Int)) = ((18446744073709551616 - n : Nat) : Int) := by simp [IntKind.wrap, IntKind.bits, IntKind.signed]; omega
    rw [e]
    have h := u64_and_nat (18446744073709551616 - n) 31 (by omega) (by omega)
    rw [show ((31 : Nat) : Int) = 31 by rfl] at h
    rw [h, show (31 : Nat) = 2 ^ 5 - 1 by rfl, Nat.and_two_pow_sub_one_eq_mod]
    omega
  have hs : (32 : Int) - ((32 - n : Nat) : Int) = (n : Int) := by omega
  have hn1 : (n : Int) < 32 := by omega
  have hs1 : ((32 - n : Nat) : Int) < 32 := by omega
  have hk2 : ((32 - n : Nat) : Int) ≤ 18446744073709551615 := by omega
  go_enter Tryd.func57, Tryd.ntmps57
  go_wp2_with fail
  go_ret
  exact ⟨by rw [wI_shr', wI_shl', wI_or, rotR_comm]; rfl, Below.refl _ _⟩

/-- What differs between a word turned by each count. -/
def turnsW (x : W32) (ns : List Nat) : W32 := ns.foldl (fun o n => o ^^^ rotR x n) 0#32
theorem turnsW_snoc {x : W32} {ns : List Nat} {j : Nat} (h : j < ns.length) : turnsW x (ns.take (j + 1)) = turnsW x (ns.take j) ^^^ rotR x ns[j] := by
  rw [List.take_succ_eq_append_getElem h, turnsW, List.foldl_append]
  rfl

set_option maxHeartbeats 1000000 in
theorem turns_any (x : W32) (ns : List Nat) (g cap : Nat) (w : World) (hns : ∀ n ∈ ns, 0 < n ∧ n < 32) (hl : ns.length ≤ 3) (hc : ∀ (i : Nat) (h : i < ns.length), w.cell? ⟨g, i, none⟩ = some (.int .i64 (ns[i] : Int))) :
    Calls Tryd.prog 49 #[.int .u32 (wI x), .slice (some ⟨g, 0, none⟩) ns.length cap] w fun e w' => e = .returned (.int .u32 (wI (turnsW x ns))) ∧ Below w.heap.size w w' := by
  have HC : Hid (∀ (i : Nat) (h : i < ns.length), w.cell? ⟨g, i, none⟩ = some (.int .i64 (ns[i] : Int))) := hc
  have HN : Hid (∀ n ∈ ns, 0 < n ∧ n < 32) := hns
  have hlen : (ns.length : Int) ≤ 3 := by omega
  have h00 : (0 : Int) = wI (turnsW x (ns.take 0)) := by simp [turnsW, wI]
  clear hc hns
  go_enter Tryd.func49, Tryd.ntmps49
  go_wp2_with fail
  go_loopw [5, 10] (fun acc i wr => ∃ j : Nat, j ≤ ns.length ∧ i = .int .i64 j ∧ acc = .int .u32 (wI (turnsW x (ns.take j))) ∧ Hid (Below w.heap.size w wr)) (fun _ i _ => ns.length - (intOf i).toNat)
  case atStart => exact ⟨0, Nat.zero_le _, rfl, congrArg _ h00, Below.refl _ _⟩
  case round =>
    obtain ⟨j, hj, rfl, rfl, HB⟩ := hrel
    by_cases hlt : j < ns.length
    · have hlti : (j : Int) < (ns.length : Int) := by omega
      have c0 := (Keeps.of_below HB.out (Nat.le_refl _) 0).cell (p := ⟨g, j, none⟩) (Nat.zero_le _) (HC.out j hlt)
      obtain ⟨n, hn⟩ : ∃ n, ns[j] = n := ⟨_, rfl⟩
      obtain ⟨hn0, hn1⟩ := HN.out ns[j] (List.getElem_mem _)
      have HS : Hid (wI (turnsW x (ns.take j) ^^^ rotR x n) = wI (turnsW x (ns.take (j + 1)))) := by show _ = _; rw [turnsW_snoc hlt, hn]
      rw [hn] at c0 hn0 hn1
      have hni : (n : Int) < 32 := by omega
      clear hn
      obtain ⟨acc, hacc⟩ : ∃ acc, turnsW x (ns.take j) = acc := ⟨_, rfl⟩
      rw [hacc] at HS ⊢
      clear hacc h00
      go_wp2_with fail
      refine (rotateLeft32_any x n wr hn0 hn1).mono ?_
      rintro e w1 ⟨rfl, hb1⟩
      have HB1 : Hid (Below w.heap.size w w1) := HB.out.trans (hb1.mono HB.out.size)
      clear hb1 c0
      go_wp2_with fail
      exact ⟨⟨j + 1, by omega, by go_num, by rw [wI_xor, HS.out], HB1⟩, by simp [intOf]; omega⟩
    · obtain rfl : j = ns.length := by omega
      have HS : Hid (turnsW x (ns.take ns.length) = turnsW x ns) := by show _ = _; rw [List.take_length]
      rw [HS.out]
      clear h00 HS
      go_wp2_with fail
      go_ret
      exact ⟨rfl, HB.out⟩

theorem turnsW_two (x : W32) (a b : Nat) : turnsW x [a, b] = rotR x a ^^^ rotR x b := by simp [turnsW]
theorem turnsW_three (x : W32) (a b c : Nat) : turnsW x [a, b, c] = rotR x a ^^^ rotR x b ^^^ rotR x c := by simp [turnsW]

end Go.Proofs.YtkogdlncjciboaaDoor
