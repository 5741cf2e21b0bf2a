
/-
  DERIVED. spec.DrawDocSum: what texts are drawn; laws.FnDocSum: its walk.
-/
import Derived.Test.YtkogdlncjciboaaDoorDsK
import Derived.Test.YtkogdlncjciboaaDoorSiG
import Derived.Test.YtkogdlncjciboaaDoorDrawOf
import Derived.WalkSpells
import Derived.WalkLawsBesides
import Derived.Deep.LoopGhost
namespace Go.Proofs.YtkogdlncjciboaaDoor
open Go.RowKit
set_option linter.unusedVariables false
set_option linter.unusedSimpArgs false

set_option maxHeartbeats 1000000 in
theorem l1Many_less (s : ByteArray) (n : Nat) (w : World) (hs : s.size ≤ 1) (hn : n ≤ 1000) :
    Calls Tryd.prog 26 #[.string s, .int .i64 (n : Int)] w fun e w' => ∃ r : ByteArray, e = .returned (.string r) ∧ r.size ≤ 1000 ∧ w' = w := by
  go_enter Tryd.func26, Tryd.ntmps26
  go_wp2_with fail
  go_loopg [0, 1, 5] n (fun k a b c wr => ∃ (sa sc : ByteArray), a = .string sa ∧ b = .int .i64 (k : Int) ∧ c = .string sc ∧ wr = w ∧ k ≤ 1000 ∧ Hid (sc.size + sa.size * k ≤ 1000))
  case atStart =>
    refine ⟨s, ⟨#[]⟩, rfl, rfl, rfl, rfl, hn, ?_⟩
    show (⟨#[]⟩ : ByteArray).size + s.size * n ≤ 1000
    have h1 : s.size * n ≤ 1 * n := Nat.mul_le_mul_right _ hs
    have h2 : (⟨#[]⟩ : ByteArray).size = 0 := rfl
    omega
  case round =>
    rename Nat => k
    obtain ⟨sa, sc, rfl, rfl, rfl, rfl, hk, HZ⟩ := hrel
    by_cases hz : k = 0
    · subst hz
      have h1 : sc.size ≤ 1000 := by have := HZ.out; omega
      go_wp2_with fail
      go_ret
      exact ⟨sc, rfl, h1, rfl⟩
    · have hk1 : (0 : Int) < (k : Int) := by omega
      have hk2 : (k : Int) ≤ 1000 := by omega
      have hsa : sa.size ≤ 1000 := by
        have h1 := HZ.out
        have h2 : sa.size * 1 ≤ sa.size * k := Nat.mul_le_mul_left _ (by omega)
        omega
      have hsc : sc.size ≤ 1000 := by have := HZ.out; omega
      obtain ⟨m, hdiv, HM⟩ : ∃ m : Nat, (k : Int) / 2 = (m : Int) ∧ Hid (m = k / 2) := ⟨k / 2, by omega, rfl⟩
      by_cases hodd : k % 2 = 1
      · have hmod : (k : Int) % 2 = 1 := by omega
        have HZ2 : Hid ((sc ++ sa).size + (sa ++ sa).size * m ≤ 1000) := by
          show _ ≤ _
          have hm := HM.out
          rw [hm]
          have h1 := HZ.out
          rw [ByteArray.size_append, ByteArray.size_append]
          have h2 : k = 2 * (k / 2) + 1 := by omega
          have h3 : sa.size * k = (sa.size + sa.size) * (k / 2) + sa.size := by
            conv => lhs; rw [h2]
            rw [Nat.mul_add, Nat.mul_one, ← Nat.mul_assoc, Nat.mul_two]
          omega
        go_wp2_with fail
        go_roundg m
        case rel => exact ⟨sa ++ sa, sc ++ sa, rfl, rfl, rfl, rfl, by have := HM.out; omega, HZ2⟩
        case measure => have := HM.out; omega
      · have hmod : (k : Int) % 2 = 0 := by omega
        have HZ2 : Hid (sc.size + (sa ++ sa).size * m ≤ 1000) := by
          show _ ≤ _
          have hm := HM.out
          rw [hm]
          have h1 := HZ.out
          rw [ByteArray.size_append]
          have h2 : k = 2 * (k / 2) := by omega
          have h3 : sa.size * k = (sa.size + sa.size) * (k / 2) := by
            conv => lhs; rw [h2]
            rw [← Nat.mul_assoc, Nat.mul_two]
          omega
        go_wp2_with fail
        go_roundg m
        case rel => exact ⟨sa ++ sa, sc, rfl, rfl, rfl, rfl, by have := HM.out; omega, HZ2⟩
        case measure => have := HM.out; omega

theorem RdAt.allocD {w : World} {rb : Nat} {a : Option Addr} {n c p : Nat} (h : RdAt w rb a n c p) (o : Obj) : RdAt (w.alloc o) rb a n c p := by
  refine ⟨h.own.below (B := w.heap.size) ((Below.refl _ _).alloc (Nat.le_refl _) o) h.own.lt, h.len, fun i hi => ?_⟩
  obtain ⟨b, off, z, h1, h2, h3, h4⟩ := h.byte i hi
  exact ⟨b, off, z, h1, h2, h3, (World.cell?_alloc_lt _ _ _ (cell_lt h4)).trans h4⟩
theorem strs_made (w : World) (l : List ByteArray) (e : TypeId) (i : Nat) (h : i < l.length) : (w.alloc (.cells (l.map Value.string).toArray e)).cell? ⟨w.heap.size, i, none⟩ = some (.string l[i]) := by
  rw [(Owns.made w _ e).cell]
  simp [h]
theorem below_turnsD {rb : Nat} {w a b : World} (h : Below w.heap.size w a) (ht : Turns [rb] a b) (hr : w.heap.size ≤ rb) : Below w.heap.size w b :=
  ⟨ht.os.trans h.os, ht.tape.trans h.tape, ht.output.trans h.output, Nat.le_trans h.size ht.size, fun k hk => (ht.block k (Nat.lt_of_lt_of_le hk h.size) (by simp; omega)).trans (h.block k hk)⟩

set_option maxHeartbeats 4000000 in
theorem drawDS_any (a : Option Addr) (len cap : Nat) (w : World) (hl : len ≤ 1048576) (hcap : len ≤ cap) (hc : CodeAt w a len) :
    Calls Tryd.prog 9 #[.slice a len cap] w fun e w' => ∃ s : ByteArray, e = .returned (.string s) ∧ s.size ≤ 1000 ∧ Below w.heap.size w w' := by
  have HC : Hid (CodeAt w a len) := hc
  clear hc
  go_enter Tryd.func9, Tryd.ntmps9
  go_wp2_with fail
  refine (l1Open_any a len cap w hl hcap HC.out).mono ?_
  rintro e w1 ⟨n, rfl, hR, hb⟩
  have HR : Hid (RdAt w1 w.heap.size a n cap 0) := hR
  have HB : Hid (Below w.heap.size w w1) := hb
  have hlt : w.heap.size < w1.heap.size := hR.own.lt
  clear hR hb
  go_wp2_with fail
  refine (l1Many_less ⟨#[120]⟩ 55 w1 (by decide) (by omega)).mono ?_
  rintro e w2 ⟨x, rfl, hx, rfl⟩
  go_wp2_with fail
  refine (l1Many_less ⟨#[120]⟩ 64 w2 (by decide) (by omega)).mono ?_
  rintro e w3 ⟨y, rfl, hy, rfl⟩
  go_wp2_with fail
  refine (of_any [⟨#[]⟩, ⟨#[97, 98, 99]⟩, ⟨#[123, 109, 101, 123, 110, 97, 109, 101, 125, 125]⟩, x, y] w3.heap.size 5 w.heap.size a n cap 0 _ (by simp) (by simp) (by omega) (HR.out.allocD _) (by omega) (fun i h => strs_made w3 [⟨#[]⟩, ⟨#[97, 98, 99]⟩, ⟨#[123, 109, 101, 123, 110, 97, 109, 101, 125, 125]⟩, x, y] _ i h)).mono ?_
  rintro e w4 ⟨i, hi, rfl, hR2, hT⟩
  have HB2 : Hid (Below w.heap.size w w4) := below_turnsD (HB.out.alloc HB.out.size _) hT (Nat.le_refl _)
  have hsz : ([⟨#[]⟩, ⟨#[97, 98, 99]⟩, ⟨#[123, 109, 101, 123, 110, 97, 109, 101, 125, 125]⟩, x, y][i]'hi : ByteArray).size ≤ 1000 := by
    have h1 : ∀ z ∈ [(⟨#[]⟩ : ByteArray), ⟨#[97, 98, 99]⟩, ⟨#[123, 109, 101, 123, 110, 97, 109, 101, 125, 125]⟩, x, y], z.size ≤ 1000 := by
      intro z hz
      simp only [List.mem_cons, List.not_mem_nil, or_false] at hz
      rcases hz with rfl | rfl | rfl | rfl | rfl
      · decide
      · decide
      · decide
      · exact hx
      · exact hy
    exact h1 _ (List.getElem_mem hi)
  obtain ⟨s, hs⟩ : ∃ s, ([⟨#[]⟩, ⟨#[97, 98, 99]⟩, ⟨#[123, 109, 101, 123, 110, 97, 109, 101, 125, 125]⟩, x, y][i]'hi : ByteArray) = s := ⟨_, rfl⟩
  rw [hs] at hsz
  rw [hs]
  clear hR2 hT hs hx hy
  go_wp2_with fail
  go_ret
  exact ⟨s, rfl, hsz, HB2.out⟩

set_option maxHeartbeats 4000000 in
theorem ds_main (a : Option Addr) (n c : Nat) (w : World) (hn : n ≤ 1048576) (hc : n ≤ c) (h1 : CodeAt w a n) (hk : KTab w) :
    Calls Tryd.prog 4 #[.slice a n c] w fun e w' => e = .returned (.bool true) ∧ Below w.heap.size w w' := by
  have b1 : decide ((1048576 : Int) < (n : Int)) = false := decide_eq_false (by omega)
  have H1 : Hid (CodeAt w a n) := h1
  have HK : Hid (KTab w) := hk
  clear h1 hk
  go_enter Tryd.func4, Tryd.ntmps4
  go_wp2_with fail
  refine (drawDS_any a n c w hn hc H1.out).mono ?_
  rintro e w1 ⟨s, rfl, hs, hb1⟩
  have HB1 : Hid (Below w.heap.size w w1) := hb1
  obtain ⟨t, ht⟩ : ∃ t, docSum s = t := ⟨_, rfl⟩
  have hq : (t.toList == t.toList) = true := by simp
  have htz : (t.size : Int) = 16 := by rw [← ht, docSum_size]; rfl
  have hkz : t.size = 16 := by rw [← ht, docSum_size]
  clear hb1
  go_wp2_with fail
  refine (implDocSum_any s w1 (HK.out.on HB1.out) (by omega)).mono ?_
  rintro e w2 ⟨rfl, hb2⟩
  rw [ht]
  have HB2 : Hid (Below w.heap.size w w2) := HB1.out.trans (hb2.mono HB1.out.size)
  clear hb2
  go_wp2_with fail
  refine (specDocSum_any s w2 (by omega)).mono ?_
  rintro e w3 ⟨rfl, hb3⟩
  rw [ht]
  have HB3 : Hid (Below w.heap.size w w3) := HB2.out.trans (hb3.mono HB2.out.size)
  clear hb3
  go_wp2_with fail
  refine (implDocSum_any ⟨#[97, 98, 99]⟩ w3 (HK.out.on HB3.out) (by decide)).mono ?_
  rintro e w4 ⟨rfl, hb4⟩
  rw [docSum_abc]
  have HB4 : Hid (Below w.heap.size w w4) := HB3.out.trans (hb4.mono HB3.out.size)
  clear hb4
  go_wp2_with fail
  refine (implDocSum_any s w4 (HK.out.on HB4.out) (by omega)).mono ?_
  rintro e w5 ⟨rfl, hb5⟩
  rw [ht]
  have HB5 : Hid (Below w.heap.size w w5) := HB4.out.trans (hb5.mono HB4.out.size)
  clear hb5 ht
  go_wp2_with fail
  go_ret
  exact ⟨rfl, HB5.out⟩

end Go.Proofs.YtkogdlncjciboaaDoor
