
/-
  DERIVED. THE WALKS OF THE DRAWS: a reader of a code that tells numbers below a bound, whatever the code is.
-/
import Derived.Test.YtdaohfeajicamaaNames
import Derived.Test.YtdaohfeajicamaaTyOwn
import Derived.Deep.RegionWith
import Derived.BigQuiet
import Derived.Deep.QuietTactic
namespace Go.Proofs.Ytdaohfeajicamaa
open Go.RowKit
set_option linter.unusedVariables false
set_option linter.unusedSimpArgs false

theorem ret_int {k : IntKind} {a b : Int} (h : a = b) : Ending.returned (.int k a) = .returned (.int k b) := by rw [h]

theorem bits_xor_i64 (a b : Nat) (ha : a < 4611686018427387904) (hb : b < 4611686018427387904) : bits .xor .i64 (a : Int) (b : Int) = ((a ^^^ b : Nat) : Int) := by
  have hx : a ^^^ b < 2 ^ 62 := Nat.xor_lt_two_pow (by omega) (by omega)
  have h1 : (BitVec.ofInt 64 (a : Int)).toNat = a := by
    rw [BitVec.ofInt_natCast, BitVec.toNat_ofNat]; exact Nat.mod_eq_of_lt (by omega)
  have h2 : (BitVec.ofInt 64 (b : Int)).toNat = b := by
    rw [BitVec.ofInt_natCast, BitVec.toNat_ofNat]; exact Nat.mod_eq_of_lt (by omega)
  show IntKind.i64.wrap ((BitVec.ofInt 64 (a : Int) ^^^ BitVec.ofInt 64 (b : Int)).toNat : Int) = _
  rw [BitVec.toNat_xor, h1, h2, IntKind.wrap_i64]
  omega

theorem mixed (X : Int) (m : Nat) (h0 : 0 ≤ X) (h1 : X < 4611686018427387904) (hm : 1 ≤ m) : ∃ x : Nat, x < m ∧ (bits .xor .i64 X (X / 64)).tmod (m : Int) = (x : Int) := by
  obtain ⟨n, rfl⟩ := Int.eq_ofNat_of_zero_le h0
  rw [show ((n : Int) / 64) = ((n / 64 : Nat) : Int) by omega, bits_xor_i64 n (n / 64) (by omega) (by omega)]
  refine ⟨(n ^^^ n / 64) % m, Nat.mod_lt _ (by omega), ?_⟩
  rw [Int.tmod_eq_emod_of_nonneg (by omega)]
  exact (Int.natCast_emod _ _).symm

/-- A reader at place p of a code of n bytes, in block rb. -/
structure RdAt (w : World) (rb : Nat) (a : Option Addr) (n c p : Nat) : Prop where
  own : Owns w rb #[.slice a n c, .int .i64 (p : Int)] 96
  len : n ≤ 2000
  byte : ∀ i, i < n → ∃ b off z, a = some ⟨b, off, none⟩ ∧ b ≠ rb ∧ z < 256 ∧ w.cell? ⟨b, off + i, none⟩ = some (.int .u8 ((z : Nat) : Int))

def PickC (m : Nat) (rb : Nat) (a : Option Addr) (n c p : Nat) (w : World) (e : Ending) (w' : World) : Prop :=
  ∃ x : Nat, x < m ∧ e = .returned (.int .i64 (x : Int)) ∧ RdAt w' rb a n c (p + 1) ∧ Turns [rb] w w'

theorem RdAt.next {w : World} {rb : Nat} {a : Option Addr} {n c p : Nat} (h : RdAt w rb a n c p) : RdAt (w.setCell ⟨rb, 1, none⟩ (.int .i64 ((p : Int) + 1))) rb a n c (p + 1) := by
  refine ⟨?_, h.len, fun i hi => ?_⟩
  · have := h.own.set 1 (.int .i64 ((p : Int) + 1))
    exact this
  · obtain ⟨b, off, z, h1, h2, h3, h4⟩ := h.byte i hi
    refine ⟨b, off, z, h1, h2, h3, ?_⟩
    rw [World.cell?_of_block (w := w) (Below.heap_setCell _ _ _ _ h2)]
    exact h4

theorem RdAt.drewN {w : World} {rb : Nat} {a : Option Addr} {n c p : Nat} (h : RdAt w rb a n c p) (k : Nat) : RdAt (w.drewN k) rb a n c p := ⟨h.own, h.len, h.byte⟩
theorem Turns.drewN {bs : List Nat} {a w : World} (h : Turns bs a w) (k : Nat) : Turns bs a (w.drewN k) := ⟨h.os, h.tape, h.output, h.size, h.block⟩

set_option maxHeartbeats 2000000 in
set_option maxRecDepth 100000 in
theorem pick_any (m rb : Nat) (a : Option Addr) (n c p : Nat) (w : World) (hm1 : 1 ≤ m) (hm2 : m ≤ 100000) (hp : p ≤ 1000000) (hR : RdAt w rb a n c p) :
    Calls Try.prog 56 #[.pointer (some ⟨rb, 0, none⟩), .int .i64 (m : Int)] w (PickC m rb a n c p w) := by
  have q0 : w.cell? ⟨rb, 0, none⟩ = some (.slice a n c) := by rw [hR.own.cell]; rfl
  have q1 : w.cell? ⟨rb, 1, none⟩ = some (.int .i64 (p : Int)) := by rw [hR.own.cell]; rfl
  have z0 := fun o => hR.own.frozen o
  have hn := hR.len
  have hmi1 : (1 : Int) ≤ (m : Int) := by omega
  have hmi2 : (m : Int) ≤ 100000 := by omega
  have hpi : (p : Int) ≤ 1000000 := by omega
  have hni : (n : Int) ≤ 2000 := by omega
  have hmd : decide ((m : Int) < 1) = false := decide_eq_false (by omega)
  have HN : Hid (RdAt (w.setCell ⟨rb, 1, none⟩ (.int .i64 ((p : Int) + 1))) rb a n c (p + 1)) := hR.next
  have HT : Hid (Turns [rb] w (w.setCell ⟨rb, 1, none⟩ (.int .i64 ((p : Int) + 1)))) := (Turns.refl _ _).setCell List.mem_cons_self _
  by_cases hn0 : n = 0
  · have hnb : ((n : Int) == 0) = true := beq_iff_eq.2 (by omega)
    clear hR
    go_enter Try.func56, Try.ntmps56
    go_wp2_with fail
    go_ret
    exact ⟨0, by omega, rfl, HN.out, HT.out⟩
  have hnb : ((n : Int) == 0) = false := beq_eq_false_iff_ne.2 (by omega)
  obtain ⟨b, off, _, rfl, hbr, _, _⟩ := hR.byte 0 (by omega)
  by_cases hpn : p < n
  · obtain ⟨b', off', z, h1, _, hz, hc⟩ := hR.byte p hpn
    simp only [Option.some.injEq, Addr.mk.injEq, and_true] at h1
    obtain ⟨rfl, rfl⟩ := h1
    have hpni : (p : Int) < (n : Int) := by omega
    have hzi : (z : Int) < 256 := by omega
    have hc' : (w.setCell ⟨rb, 1, none⟩ (.int .i64 ((p : Int) + 1))).cell? ⟨b, off + p, none⟩ = some (.int .u8 (z : Int)) := by
      rw [World.cell?_of_block (w := w) (Below.heap_setCell _ _ _ _ hbr)]; exact hc
    clear hR hc
    go_enter Try.func56, Try.ntmps56
    go_wp2_with fail
    go_ret
    exact ⟨z % m, Nat.mod_lt _ (by omega), ret_int (by simp), HN.out, HT.out⟩
  · have hpni : ¬ (p : Int) < (n : Int) := by omega
    have hj : ∀ k : Nat, ∃ j z : Nat, j < n ∧ (k : Int) % (n : Int) = (j : Int) ∧ z < 256 ∧ (w.setCell ⟨rb, 1, none⟩ (.int .i64 ((p : Int) + 1))).cell? ⟨b, off + j, none⟩ = some (.int .u8 (z : Int)) := by
      intro k
      have hkn : k % n < n := Nat.mod_lt _ (by omega)
      obtain ⟨b', off', z, h1, _, hz, hc⟩ := hR.byte (k % n) hkn
      simp only [Option.some.injEq, Addr.mk.injEq, and_true] at h1
      obtain ⟨rfl, rfl⟩ := h1
      refine ⟨k % n, z, hkn, (Int.natCast_emod _ _).symm, hz, ?_⟩
      rw [World.cell?_of_block (w := w) (Below.heap_setCell _ _ _ _ hbr)]
      exact hc
    obtain ⟨j1, z1, hj1, m1, hz1, c1⟩ := hj p
    obtain ⟨j2, z2, hj2, m2, hz2, c2⟩ := hj (p * 7 + 3)
    rw [show (((p * 7 + 3 : Nat) : Int)) = (p : Int) * 7 + 3 by omega] at m2
    obtain ⟨d1, m3, hd1⟩ : ∃ d1 : Nat, (p : Int) / (n : Int) = (d1 : Int) ∧ d1 ≤ p := ⟨p / n, (Int.natCast_ediv _ _).symm, Nat.div_le_self _ _⟩
    have hj1i : (j1 : Int) < (n : Int) := by omega
    have hj2i : (j2 : Int) < (n : Int) := by omega
    have hd1i : (d1 : Int) ≤ (p : Int) := by omega
    have hz1i : (z1 : Int) < 256 := by omega
    have hz2i : (z2 : Int) < 256 := by omega
    have hnpos : (0 : Int) < (n : Int) := by omega
    clear hR hj
    go_enter Try.func56, Try.ntmps56
    go_wp2_with fail
    go_quiet (fail)
    go_wp2_with fail
    go_ret
    obtain ⟨x, hx, he⟩ := mixed ((z1 : Int) * 131 + z2 * 1117 + p * 29 + d1 * 53) m (by omega) (by omega) hm1
    exact ⟨x, hx, ret_int he, HN.out.drewN _, HT.out.drewN _⟩

end Go.Proofs.Ytdaohfeajicamaa
