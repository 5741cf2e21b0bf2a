
/-
  DERIVED. laws.FnExactPointerText: its walk out of the contracts.
-/
import Derived.Test.YtedeeckbgjalcaaDoorPtW
namespace Go.Proofs.YtedeeckbgjalcaaDoor
open Go.RowKit
set_option linter.unusedVariables false
set_option linter.unusedSimpArgs false

set_option maxHeartbeats 400000 in
/-- Texts that are not too great together. -/
theorem szStringS_szT (l : List ByteArray) (v : Value) (left : Int) (w : World) (hrow : StrRow w 0 l v) (h0 : 0 ≤ left) (h1 : left ≤ 1048576) :
    Calls Tryd.prog 19 #[v, .int .i64 left] w fun e w' => ∃ r : Int, e = .returned (.int .i64 r) ∧ -1 ≤ r ∧ r ≤ left ∧ (0 ≤ r → (szT l : Int) + r = left) ∧ Below w.heap.size w w' := by
  obtain ⟨a, cap, rfl, hw, hrest⟩ := hrow.len
  have hlen : (l.length : Int) ≤ 140737488351232 := by omega
  clear hrow
  by_cases hneg : left - (l.length : Int) < 0
  · go_enter Tryd.func19, Tryd.ntmps19
    go_wp2_with fail
    go_ret
    exact ⟨_, rfl, by omega, by omega, by omega, Below.refl _ _⟩
  · go_enter Tryd.func19, Tryd.ntmps19
    go_wp2_with fail
    go_loop [1, 5] (fun lf i => ∃ (j : Nat) (r : Int), j ≤ l.length ∧ i = .int .i64 j ∧ lf = .int .i64 r ∧ 0 ≤ r ∧ r ≤ left - (l.length : Int) ∧ Hid ((szT (l.take j) : Int) + r = left - (l.length : Int) + (j : Int))) (fun _ i => l.length - (intOf i).toNat)
    case atStart => exact ⟨0, _, Nat.zero_le _, rfl, rfl, by omega, by omega, by show _ = _; simp [szT]⟩
    case round =>
      obtain ⟨j, r, hj, rfl, rfl, hr0, hr1, HS⟩ := hrel
      by_cases hlt : j < l.length
      · obtain ⟨b, off, rfl, _, hcs⟩ := hrest (List.ne_nil_of_length_pos (by omega))
        obtain ⟨c0, hs⟩ := hcs j hlt
        have HSN : Hid (szT (l.take (j + 1)) = szT (l.take j) + l[j].size + 1) := szT_snoc hlt
        clear hcs hrest
        by_cases hn : r - (l[j].size : Int) < 0
        · go_wp2_with fail
          go_ret
          exact ⟨_, rfl, by omega, by omega, by omega, Below.refl _ _⟩
        · go_wp2_with fail
          refine ⟨⟨j + 1, _, by omega, by go_num, rfl, by omega, by omega, ?_⟩, by simp [intOf]; omega⟩
          show (_ : Int) = _
          have h1 := HS.out
          have h2 := HSN.out
          omega
      · obtain rfl : j = l.length := by omega
        have HS2 : Hid ((szT l : Int) + r = left) := by have := HS.out; rw [List.take_length] at this; show _ = _; omega
        clear HS
        go_wp2_with fail
        go_ret
        exact ⟨_, rfl, by omega, by omega, (fun _ => HS2.out), Below.refl _ _⟩

set_option maxHeartbeats 2000000 in
theorem law_walk (l : List ByteArray) (v : Value) (w : World) (hrow : StrRow w 0 l v) (hm : ML w) :
    Calls Tryd.prog 5 #[v] w fun e w' => e = .returned (.bool true) ∧ Below w.heap.size w w' := by
  obtain ⟨a, cap, rfl, hw, hrest⟩ := hrow.len
  have HR : Hid (∀ W, Keeps 0 w W → StrRow W 0 l (.slice a l.length cap)) := fun W h => hrow.keeps h
  have HM : Hid (ML w) := hm
  clear hrow hm hrest
  go_enter Tryd.func5, Tryd.ntmps5
  go_wp2_with fail
  refine (szStringS_szT l _ _ _ (HR.out _ (Keeps.refl _ _)) (by omega) (by omega)).mono ?_
  rintro e w1 ⟨r1, rfl, hr1, hr2, hr3, hb1⟩
  have HB1 : Hid (Below w.heap.size w w1) := hb1
  have HS : Hid (0 ≤ r1 → (szT l : Int) + r1 = 1048576) := hr3
  clear hb1 hr3
  by_cases hneg : r1 < 0
  · go_wp2_with fail
    go_ret
    exact ⟨rfl, HB1.out⟩
  · have HZ : Hid (szT l ≤ 3000000) := by show _ ≤ _; have := HS.out (by omega); omega
    clear HS
    go_wp2_with fail
    refine (toStringS_any l _ _ (HR.out _ (Keeps.of_below HB1.out (Nat.le_refl _) _))).mono ?_
    rintro e w2 ⟨v2, rfl, hR2, hb2⟩
    obtain ⟨a2, c2, rfl, _, _⟩ := hR2.len
    have HB2 : Hid (Below w.heap.size w w2) := HB1.out.trans (hb2.mono HB1.out.size)
    have HR2 : Hid (StrRow w2 0 l (.slice a2 l.length c2)) := hR2.base (Nat.zero_le _)
    clear hb2 HB1 hR2
    go_wp2_with fail
    refine (specPointerText_any l _ _ HR2.out HZ.out).mono ?_
    rintro e w3 ⟨rfl, hb3⟩
    have HB3 : Hid (Below w.heap.size w w3) := HB2.out.trans (hb3.mono HB2.out.size)
    obtain ⟨T, hT⟩ : ∃ T, mkP (ptL l) = T := ⟨_, rfl⟩
    rw [hT]
    have HT : Hid (mkP (ptL l) = T) := hT
    have htt : (T.toList != T.toList) = false := by simp
    have htq : (T.toList == T.toList) = true := by simp
    clear hb3 HB2 HR2 hT
    go_wp2_with fail
    refine (toStringS_any l _ _ (HR.out _ (Keeps.of_below HB3.out (Nat.le_refl _) _))).mono ?_
    rintro e w4 ⟨v4, rfl, hR4, hb4⟩
    obtain ⟨a4, c4, rfl, _, _⟩ := hR4.len
    have HB4 : Hid (Below w.heap.size w w4) := HB3.out.trans (hb4.mono HB3.out.size)
    have HR4 : Hid (∀ W, Keeps 0 w4 W → StrRow W 0 l (.slice a4 l.length c4)) := fun W h => (hR4.base (Nat.zero_le _)).keeps h
    clear hb4 HB3 hR4
    go_wp2_with fail
    refine (implPointerText_any l _ _ (HR4.out _ (Keeps.refl _ _)) HZ.out (HM.out.on HB4.out)).mono ?_
    rintro e w5 ⟨rfl, hb5⟩
    have HB5 : Hid (Below w.heap.size w w5) := HB4.out.trans (hb5.mono HB4.out.size)
    have HK5 : Hid (Keeps 0 w4 w5) := Keeps.of_below hb5 (Nat.le_refl _) _
    rw [HT.out]
    clear hb5 HB4
    go_wp2_with fail
    refine (toStringS_any l _ _ (HR.out _ (Keeps.of_below HB5.out (Nat.le_refl _) _))).mono ?_
    rintro e w6 ⟨v6, rfl, hR6, hb6⟩
    obtain ⟨a6, c6, rfl, _, _⟩ := hR6.len
    have HB6 : Hid (Below w.heap.size w w6) := HB5.out.trans (hb6.mono HB5.out.size)
    have HR6 : Hid (StrRow w6 0 l (.slice a6 l.length c6)) := hR6.base (Nat.zero_le _)
    have HK6 : Hid (Keeps 0 w4 w6) := HK5.out.trans (Keeps.of_below hb6 (Nat.le_refl _) _)
    clear hb6 HB5 hR6 HK5
    go_wp2_with fail
    refine (eqStringS_any l _ _ _ (HR4.out _ HK6.out) HR6.out).mono ?_
    rintro e w7 ⟨rfl, hb7⟩
    have HB7 : Hid (Below w.heap.size w w7) := HB6.out.trans (hb7.mono HB6.out.size)
    clear hb7
    go_wp2_with fail
    go_ret
    exact ⟨rfl, HB7.out⟩

end Go.Proofs.YtedeeckbgjalcaaDoor
