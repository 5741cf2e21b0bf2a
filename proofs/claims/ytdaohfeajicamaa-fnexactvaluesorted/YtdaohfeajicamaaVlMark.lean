
/-
  DERIVED. THE WALKS OF laws.markStringS, laws.markValueS, laws.markValue.
-/
import Derived.Test.YtdaohfeajicamaaVlMkP
import Derived.Test.YtdaohfeajicamaaVlOwn
import Derived.Test.YtdaohfeajicamaaStrW
import Derived.Deep.RegionWith
import Derived.BigQuiet
namespace Go.Proofs.Ytdaohfeajicamaa
open Go.RowKit
set_option linter.unusedVariables false
set_option linter.unusedSimpArgs false

theorem ret_int {k : IntKind} {a b : Int} (h : a = b) : Ending.returned (.int k a) = .returned (.int k b) := by rw [h]

set_option maxHeartbeats 2000000 in
theorem markStringS_any (l : List ByteArray) (v : Value) (k : Nat) (w : World) (hrow : OwnRow w 9 1 16 StrO 0 0 l v) (hk1 : 1 ≤ k) (hk2 : k + l.length ≤ 99999990) :
    Calls Try.prog 40 #[v, .int .i64 (k : Int)] w fun e w' => e = .returned (.int .i64 ((k + l.length : Nat) : Int)) ∧ ∃ l', l'.length = l.length ∧ MkN k l' ∧ OwnRow w' 9 1 16 StrO 0 0 l' v ∧ TurnsP (At v) w w' := by
  obtain ⟨a, rfl, hw⟩ := hrow.len
  have hlen : (l.length : Int) ≤ 99999990 := by omega
  have hki : (k : Int) ≤ 99999990 := by omega
  have hk0 : (0 : Int) ≤ (k : Int) := by omega
  have HW : Hid (l.length * 16 ≤ 140737488351232) := hw
  clear hw
  go_enter Try.func40, Try.ntmps40
  go_wp2_with fail
  go_loopw [1, 5] (fun n i wr => ∃ (j : Nat) (m : List ByteArray), j ≤ l.length ∧ i = .int .i64 j ∧ n = .int .i64 ((k : Int) + (j : Int)) ∧ Hid (m.length = l.length) ∧ Hid (∀ (q : Nat) (h : q < m.length), q < j → m[q] = markB (k + q)) ∧ Hid (OwnRow wr 9 1 16 StrO 0 0 m (.slice a l.length l.length)) ∧ Hid (TurnsP (At (.slice a l.length l.length)) w wr)) (fun _ i _ => l.length - (intOf i).toNat)
  case atStart => exact ⟨0, l, Nat.zero_le _, rfl, by simp, rfl, fun q h hq => absurd hq (Nat.not_lt_zero _), hrow, TurnsP.refl _ _⟩
  case round =>
    obtain ⟨j, m, hj, rfl, rfl, HML, HM, HO, HT⟩ := hrel
    have hji : (j : Int) ≤ 99999990 := by omega
    have hj0 : (0 : Int) ≤ (j : Int) := by omega
    by_cases hlt : j < l.length
    · rcases HO.out with ⟨h0, _⟩ | ⟨b, c, p, hv, h1, h2, h3, h4, h5, h6, h7, h8⟩
      · have := HML.out; rw [h0] at this; simp at this; omega
      have hml := HML.out
      rw [hml] at hv h3 h6
      simp only [Value.slice.injEq, and_true] at hv
      subst hv
      have hsz := h2.lt
      have hf := fun o => h2.frozen o
      have hx : ∃ x, wr.cell? ⟨b, j, none⟩ = some x := ⟨c[j]'(by omega), by rw [h2.cell]; exact Array.getElem?_eq_getElem _⟩
      obtain ⟨x, hx⟩ := hx
      have ek : ((k + j : Nat) : Int) = (k : Int) + (j : Int) := by omega
      have HC : Hid (Owns wr b c 9 ∧ c.size = l.length * 1 ∧ ∀ (q : Nat) (h : q < m.length), ∃ cs, cs.length = 1 ∧ (∀ r, r < 1 → c[q * 1 + r]? = cs[r]?) ∧ StrR m[q] cs) := ⟨h2, h3, h8⟩
      have HAt : Hid (At (.slice (some ⟨b, 0, none⟩) l.length l.length) b) := At.mk _ _ _
      clear h1 h2 h3 h4 h5 h6 h7 h8 hml HO
      go_wp2_with fail
      have hcall := markText_any (k + j) wr (by omega) (by omega)
      rw [ek] at hcall
      refine hcall.mono ?_
      rintro e w1 ⟨rfl, hb1⟩
      have hx1 := cell_on hb1 hx
      have hf1 : ∀ o, w1.frozen? ⟨b, o, none⟩ = false := fun o => by rw [hb1.frozen (p := ⟨b, o, none⟩) hsz]; exact hf o
      have HT1 : Hid (∀ u, TurnsP (At (.slice (some ⟨b, 0, none⟩) l.length l.length)) w (w1.setCell ⟨b, j, none⟩ u)) := fun u => (HT.out.trans (TurnsP.of_below hb1 (Nat.le_refl _))).setCell HAt.out u
      have HO1 : Hid (OwnRow (w1.setCell ⟨b, j, none⟩ (.string (markB (k + j)))) 9 1 16 StrO 0 0 (m.set j (markB (k + j))) (.slice (some ⟨b, 0, none⟩) l.length l.length)) := by
        obtain ⟨h2, h3, h8⟩ := HC.out
        have hml := HML.out
        have h2' := (h2.below hb1 hsz).set j (.string (markB (k + j)))
        have hgo := OwnRow.set (w := wr) (R := StrO) (R' := StrO) (n := 1) (wide := 16) (q0 := 0) (q1 := 0) (l := m) (c := c) (p := fun _ => 0) (i := j) (x := markB (k + j)) (cs' := [.string (markB (k + j))]) (by omega) (by rw [hml]; exact HW.out) h2' (by simp; rw [h3, hml]; simp) (Or.inr (Nat.zero_le _)) (Nat.le_refl _) (Nat.le_refl _) (fun _ _ => Nat.le_refl _)
          (fun q hq hne => by
            obtain ⟨cs, a1, a2, a3⟩ := h8 q hq
            refine ⟨cs, a1, fun r hr => ?_, a3⟩
            rw [← a2 r hr, Array.getElem?_setIfInBounds_ne (by omega)])
          ⟨rfl, fun r hr => by
            obtain rfl : r = 0 := by omega
            rw [Nat.mul_one, Nat.add_zero, Array.getElem?_setIfInBounds, if_pos rfl, if_pos (by omega)]
            rfl, rfl, markB_size _⟩
        rw [hml] at hgo
        exact hgo
      have hz1 : b < w1.heap.size := Nat.lt_of_lt_of_le hsz hb1.size
      clear hcall hb1 hx hf HT HC HAt
      go_wp2_with fail
      refine ⟨⟨j + 1, m.set j (markB (k + j)), by omega, by go_num, ?_, by rw [List.length_set]; exact HML.out, fun q hq hqj => ?_, HO1.out, HT1.out _⟩, by simp [intOf]; omega⟩
      · go_num
      · rw [List.length_set] at hq
        by_cases hqe : q = j
        · subst hqe; rw [List.getElem_set_self]
        · rw [List.getElem_set_ne (by omega)]; exact HM.out q hq (by omega)
    · obtain rfl : j = l.length := by omega
      go_wp2_with fail
      go_ret
      exact ⟨ret_int (by omega), m, HML.out, fun q hq => HM.out q hq (by have := HML.out; omega), HO.out, HT.out⟩

end Go.Proofs.Ytdaohfeajicamaa
