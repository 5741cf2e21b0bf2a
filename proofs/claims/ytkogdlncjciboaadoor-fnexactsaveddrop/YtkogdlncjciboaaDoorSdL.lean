
/-
  DERIVED. laws.FnExactSavedDrop: its walk out of the contracts.
-/
import Derived.Test.YtkogdlncjciboaaDoorSdC
namespace Go.Proofs.YtkogdlncjciboaaDoor
open Go.RowKit
set_option linter.unusedVariables false
set_option linter.unusedSimpArgs false

theorem szX_len : ∀ l : List ByteArray, l.length ≤ szX l
  | [] => Nat.le_refl _
  | x :: r => by have := szX_len r; simp only [szX, List.length_cons]; omega

set_option maxHeartbeats 4000000 in
theorem drop_walk (l : List ByteArray) (v : Value) (sum : ByteArray) (w : World) (hrow : StrRow w 0 l v) (hk : KTab w) :
    Calls Tryd.prog 6 #[.agg #[v], .string sum] w fun e w' => e = .returned (.bool true) ∧ Below w.heap.size w w' := by
  obtain ⟨a1, c1, rfl, _, _⟩ := hrow.len
  have HR : Hid (∀ W, Below w.heap.size w W → StrRow W 0 l (.slice a1 l.length c1)) := fun W h => hrow.keeps (Keeps.of_below h (Nat.le_refl _) 0)
  have HK : Hid (∀ W, Below w.heap.size w W → KTab W) := fun W h => hk.on h
  clear hrow hk
  have e1 : decide ((1048576 : Int) < (sum.size : Int)) = !decide (sum.size ≤ 1048576) := by rw [Bool.eq_iff_iff]; simp; omega
  by_cases h1 : sum.size ≤ 1048576
  · rw [decide_eq_true h1] at e1
    simp only [Bool.not_true, Bool.not_false] at e1
    go_enter Tryd.func6, Tryd.ntmps6
    go_wp2_with fail
    refine (szSaved_any l _ _ _ (HR.out _ ((Below.refl _ _).alloc (Nat.le_refl _) (.cells #[.slice a1 l.length c1] 29))) (by omega) (by omega)).mono ?_
    rintro e w1 ⟨r1, rfl, hr1, hr2, hr3, hb1⟩
    have HB1 : Hid (Below w.heap.size w w1) := ((Below.refl _ _).alloc (Nat.le_refl _) _).trans (hb1.mono (by simp))
    have b0 : w1.cell? ⟨w.heap.size, 0, none⟩ = some (.slice a1 l.length c1) := cell_on hb1 (p := ⟨w.heap.size, 0, none⟩) (by simp)
    have HSZ : Hid (0 ≤ r1 → (szX l : Int) ≤ 1048576) := hr3
    clear hb1 hr3
    by_cases hneg : r1 < 0
    · go_wp2_with fail
      go_ret
      exact ⟨rfl, HB1.out⟩
    · have HL : Hid (∀ t ∈ l, t.size ≤ 67108864) := fun t ht => by have h1 := szX_mem ht; have h2 := HSZ.out (by omega); omega
      have hll : l.length ≤ 1048576 := by have h1 := szX_len l; have h2 := HSZ.out (by omega); omega
      have hnl : (dropS l sum).length ≤ 1048576 := Nat.le_trans (dropS_le l sum) hll
      obtain ⟨N, hN⟩ : ∃ N, dropS l sum = N := ⟨_, rfl⟩
      obtain ⟨F, hF⟩ : ∃ F, fewS l sum = F := ⟨_, rfl⟩
      rw [hN] at hnl
      have hll2 : l.length ≤ 2000000 := by omega
      have hnl2 : N.length ≤ 2000000 := by omega
      have HSP : Hid (∀ W v, StrRow W 0 l v → Calls Tryd.prog 15 #[.agg #[v], .string sum] W fun e w' => ∃ v', e = .returned (.tuple #[.agg #[v'], .bool F]) ∧ StrRow w' 0 N v' ∧ Below W.heap.size W w') := fun W v h => by
        have h2 := specSavedDrop_any l v sum W h HL.out
        rw [hN, hF] at h2; exact h2
      have HIM : Hid (∀ W v, StrRow W 0 l v → Below w.heap.size w W → Calls Tryd.prog 16 #[.agg #[v], .string sum] W fun e w' => ∃ v', e = .returned (.tuple #[.agg #[v'], .bool F]) ∧ TxO w' N v' ∧ (∀ b, At v' b → W.heap.size ≤ b) ∧ Below W.heap.size W w') := fun W v h hb => by
        have h2 := implSavedDrop_any l v sum W h (HK.out W hb) HL.out
        rw [hN, hF] at h2; exact h2
      have hne : (F != F) = false := by simp
      clear HSZ HL hN hF HK hnl hll
      go_wp2_with fail
      refine (toSaved_own l _ _ (HR.out _ HB1.out)).mono ?_
      rintro e w2 ⟨v2, rfl, hR2, _, hb2⟩
      have HB2 : Hid (Below w.heap.size w w2) := HB1.out.trans (hb2.mono HB1.out.size)
      replace b0 := cell_on hb2 b0
      have HR2 : Hid (StrRow w2 0 l v2) := hR2.row
      clear HB1 hb2 hR2
      go_wp2_with fail
      refine (HSP.out _ _ HR2.out).mono ?_
      rintro e w3 ⟨v3, rfl, hR3, hb3⟩
      obtain ⟨a3, c3, rfl, _, _⟩ := hR3.len
      have HB3 : Hid (Below w.heap.size w w3) := HB2.out.trans (hb3.mono HB2.out.size)
      replace b0 := cell_on hb3 b0
      have HR3 : Hid (∀ W, Below w3.heap.size w3 W → StrRow W 0 N (.slice a3 N.length c3)) := fun W h => hR3.keeps (Keeps.of_below h (Nat.le_refl _) 0)
      have h03 : w.heap.size < w3.heap.size := cell_lt b0
      clear HB2 hb3 HR2 hR3 HSP
      go_wp2_with fail
      obtain ⟨W3, hW3⟩ : ∃ W, W = w3.alloc (.cells #[.slice a3 N.length c3] 33) := ⟨_, rfl⟩
      have HKW : Hid (Below w3.heap.size w3 W3) := by rw [hW3]; exact (Below.refl _ _).alloc (Nat.le_refl _) _
      have HBW : Hid (Below w.heap.size w W3) := HB3.out.trans (HKW.out.mono HB3.out.size)
      have b6 : W3.cell? ⟨w3.heap.size, 0, none⟩ = some (.slice a3 N.length c3) := by rw [hW3]; simp
      have hs3 : W3.heap.size = w3.heap.size + 1 := by rw [hW3]; simp
      replace b0 := cell_on HKW.out b0
      rw [← hW3]
      clear hW3
      refine (toSaved_own l _ _ (HR.out _ HBW.out)).mono ?_
      rintro e w4 ⟨vx, rfl, hX4, hA4, hb4⟩
      obtain ⟨ax, cx, rfl, _⟩ := hX4.len
      have HB4 : Hid (Below w.heap.size w w4) := HBW.out.trans (hb4.mono HBW.out.size)
      have HK4 : Hid (Below w3.heap.size w3 w4) := HKW.out.trans (hb4.mono HKW.out.size)
      have HX4 : Hid (TxO w4 l (.slice ax l.length cx)) := hX4
      have HAX : Hid (∀ b, At (.slice ax l.length cx) b → w3.heap.size + 1 ≤ b ∧ b < w4.heap.size) := fun b hb => ⟨by have := hA4 b hb; omega, hX4.lt hb⟩
      replace b0 := cell_on hb4 b0
      replace b6 := cell_on hb4 b6
      have h34 : w3.heap.size < w4.heap.size := cell_lt b6
      clear hX4 hA4 hb4 HBW HKW hs3
      go_wp2_with fail
      obtain ⟨W4, hW4⟩ : ∃ W, W = w4.alloc (.cells #[.slice ax l.length cx] 33) := ⟨_, rfl⟩
      have hbW4 : Below w4.heap.size w4 W4 := by rw [hW4]; exact (Below.refl _ _).alloc (Nat.le_refl _) _
      have HBW4 : Hid (Below w.heap.size w W4) := HB4.out.trans (hbW4.mono HB4.out.size)
      have HKW4 : Hid (Below w3.heap.size w3 W4) := HK4.out.trans (hbW4.mono HK4.out.size)
      have HXW4 : Hid (TxO W4 l (.slice ax l.length cx)) := HX4.out.below hbW4
      have b8 : W4.cell? ⟨w4.heap.size, 0, none⟩ = some (.slice ax l.length cx) := by rw [hW4]; simp
      have hs4 : W4.heap.size = w4.heap.size + 1 := by rw [hW4]; simp
      replace b0 := cell_on hbW4 b0
      replace b6 := cell_on hbW4 b6
      rw [← hW4]
      clear hW4 hbW4 HB4 HK4 HX4
      refine (HIM.out W4 _ HXW4.out.row HBW4.out).mono ?_
      rintro e w5 ⟨vg, rfl, hG5, hA5, hb5⟩
      obtain ⟨ag, cg, rfl, _⟩ := hG5.len
      have HB5 : Hid (Below w.heap.size w w5) := HBW4.out.trans (hb5.mono HBW4.out.size)
      have HK5 : Hid (Below w3.heap.size w3 w5) := HKW4.out.trans (hb5.mono HKW4.out.size)
      have HX5 : Hid (TxO w5 l (.slice ax l.length cx)) := HXW4.out.below hb5
      have HG5 : Hid (TxO w5 N (.slice ag N.length cg)) := hG5
      have HAG : Hid (∀ b, At (.slice ag N.length cg) b → w4.heap.size + 1 ≤ b ∧ b < w5.heap.size) := fun b hb => ⟨by have := hA5 b hb; omega, hG5.lt hb⟩
      replace b0 := cell_on hb5 b0
      replace b6 := cell_on hb5 b6
      replace b8 := cell_on hb5 b8
      have h45 : w4.heap.size < w5.heap.size := cell_lt b8
      have b6a := cell_al b6 (.cells #[.slice ag N.length cg] 33)
      clear hG5 hA5 hb5 HBW4 HKW4 HXW4 hs4
      go_wp2_with fail
      clear b6a
      obtain ⟨W5, hW5⟩ : ∃ W, W = w5.alloc (.cells #[.slice ag N.length cg] 33) := ⟨_, rfl⟩
      have hbW5 : Below w5.heap.size w5 W5 := by rw [hW5]; exact (Below.refl _ _).alloc (Nat.le_refl _) _
      have HBW5 : Hid (Below w.heap.size w W5) := HB5.out.trans (hbW5.mono HB5.out.size)
      have HKW5 : Hid (Below w3.heap.size w3 W5) := HK5.out.trans (hbW5.mono HK5.out.size)
      have HXW5 : Hid (TxO W5 l (.slice ax l.length cx)) := HX5.out.below hbW5
      have HGW5 : Hid (TxO W5 N (.slice ag N.length cg)) := HG5.out.below hbW5
      have b9 : W5.cell? ⟨w5.heap.size, 0, none⟩ = some (.slice ag N.length cg) := by rw [hW5]; simp
      replace b0 := cell_on hbW5 b0
      replace b6 := cell_on hbW5 b6
      replace b8 := cell_on hbW5 b8
      rw [← hW5]
      clear hW5 hbW5 HB5 HK5 HX5 HG5
      refine (eqSaved_any N _ _ _ HGW5.out.row (HR3.out _ HKW5.out)).mono ?_
      rintro e w6 ⟨rfl, hb6⟩
      have HB6 : Hid (Below w.heap.size w w6) := HBW5.out.trans (hb6.mono HBW5.out.size)
      have HK6 : Hid (Below w3.heap.size w3 w6) := HKW5.out.trans (hb6.mono HKW5.out.size)
      have HX6 : Hid (TxO w6 l (.slice ax l.length cx)) := HXW5.out.below hb6
      have HG6 : Hid (TxO w6 N (.slice ag N.length cg)) := HGW5.out.below hb6
      replace b0 := cell_on hb6 b0
      replace b6 := cell_on hb6 b6
      replace b8 := cell_on hb6 b8
      replace b9 := cell_on hb6 b9
      clear hb6 HBW5 HKW5 HXW5 HGW5
      go_wp2_with fail
      go_region_with (first | (go_at_call 12; refine (toSaved_own l _ w6.drew (HR.out _ HB6.out.drew)).mono ?_; rintro e w7 ⟨v7, rfl, hR7, _, hb7⟩; have y8 := cell_on (W := w6.drew) hb7 b8; have HR7 : Hid (StrRow w7 0 l v7) := hR7.row; have HB7 : Hid (Below w6.drew.heap.size w6.drew w7) := hb7; clear hR7 hb7) | (go_at_call 14; refine (eqSaved_any l _ _ _ (TxO.row (TxO.below (w := w6.drew) (TxO.same HX6.out (fun _ _ => rfl)) HB7.out)) HR7.out).mono ?_; rintro e w8 ⟨rfl, hb8⟩; have HB8 : Hid (Below w7.heap.size w7 w8) := hb8; clear hb8))
      all_goals
        have hb68 : Below w6.heap.size w6 w8 := ((Below.refl w6.heap.size w6).drew.trans (HB7.out.mono (Nat.le_refl _))).trans (HB8.out.mono HB7.out.size)
        have HBq : Hid (Below w.heap.size w w8) := HB6.out.trans (hb68.mono HB6.out.size)
        have HKq : Hid (Below w3.heap.size w3 w8) := HK6.out.trans (hb68.mono HK6.out.size)
        have HXq : Hid (TxO w8 l (.slice ax l.length cx)) := HX6.out.below hb68
        have HGq : Hid (TxO w8 N (.slice ag N.length cg)) := HG6.out.below hb68
        replace b0 := cell_on hb68 b0
        replace b6 := cell_on hb68 b6
        replace b8 := cell_on hb68 b8
        replace b9 := cell_on hb68 b9
        clear y8 hb68 HB7 HB8 HR7 HB6 HK6 HX6 HG6
        have hli : (l.length : Int) ≤ 2000000 := by omega
        have hli0 : (0 : Int) ≤ (l.length : Int) := by omega
        have hni : (N.length : Int) ≤ 2000000 := by omega
        have hni0 : (0 : Int) ≤ (N.length : Int) := by omega
        go_wp2_with fail
        refine (markSaved_any l _ _ HXq.out hll2).mono ?_
        rintro e w9 ⟨rfl, l', hl', hM, hX9, hT⟩
        have HB9 : Hid (Below w.heap.size w w9) := hT.below HBq.out (fun b hb => by have := HAX.out b hb; omega) HBq.out.size
        have HK9 : Hid (Below w3.heap.size w3 w9) := hT.below HKq.out (fun b hb => by have := HAX.out b hb; omega) HKq.out.size
        have HG9 : Hid (TxO w9 N (.slice ag N.length cg)) := HGq.out.same (fun b hb => hT.block b (HGq.out.lt hb) (fun hx => by have h1 := HAX.out b hx; have h2 := HAG.out b hb; omega))
        replace b0 := hT.cell (p := ⟨w.heap.size, 0, none⟩) (fun hx => by have h1 := (HAX.out w.heap.size hx).1; omega) b0
        replace b6 := hT.cell (p := ⟨w3.heap.size, 0, none⟩) (fun hx => by have h1 := (HAX.out w3.heap.size hx).1; omega) b6
        replace b9 := hT.cell (p := ⟨w5.heap.size, 0, none⟩) (fun hx => by have h1 := (HAX.out w5.heap.size hx).2; omega) b9
        clear b8 hl' hM hX9 hT HBq HKq HXq HGq
        go_wp2_with fail
        refine (eqSaved_any N _ _ _ HG9.out.row (HR3.out _ HK9.out)).mono ?_
        rintro e w10 ⟨rfl, hb10⟩
        have HB10 : Hid (Below w.heap.size w w10) := HB9.out.trans (hb10.mono HB9.out.size)
        have HK10 : Hid (Below w3.heap.size w3 w10) := HK9.out.trans (hb10.mono HK9.out.size)
        have HG10 : Hid (TxO w10 N (.slice ag N.length cg)) := HG9.out.below hb10
        replace b0 := cell_on hb10 b0
        replace b6 := cell_on hb10 b6
        replace b9 := cell_on hb10 b9
        clear hb10 HB9 HK9 HG9
        go_wp2_with fail
        refine (markSaved_any N _ _ HG10.out hnl2).mono ?_
        rintro e w11 ⟨rfl, N', hn', hM, hG11, hT⟩
        have HB11 : Hid (Below w.heap.size w w11) := hT.below HB10.out (fun b hb => by have := HAG.out b hb; omega) HB10.out.size
        have HK11 : Hid (Below w3.heap.size w3 w11) := hT.below HK10.out (fun b hb => by have := HAG.out b hb; omega) HK10.out.size
        have HG11 : Hid (TxO w11 N' (.slice ag N.length cg)) := hG11
        have HM : Hid (MkN 1 N') := hM
        have HLN : Hid (N'.length = N.length) := hn'
        have hnl3 : N'.length ≤ 2000000 := by omega
        replace b0 := hT.cell (p := ⟨w.heap.size, 0, none⟩) (fun hx => by have h1 := (HAG.out w.heap.size hx).1; omega) b0
        replace b6 := hT.cell (p := ⟨w3.heap.size, 0, none⟩) (fun hx => by have h1 := (HAG.out w3.heap.size hx).1; omega) b6
        replace b9 := hT.cell (p := ⟨w5.heap.size, 0, none⟩) (fun hx => by have h1 := (HAG.out w5.heap.size hx).2; omega) b9
        clear hn' hM hG11 hT HB10 HK10 HG10
        go_wp2_with fail
        refine (heldSaved_any N' _ _ HG11.out.row HM.out hnl3).mono ?_
        rintro e w12 ⟨rfl, hb12⟩
        rw [HLN.out]
        have HB12 : Hid (Below w.heap.size w w12) := HB11.out.trans (hb12.mono HB11.out.size)
        have HK12 : Hid (Below w3.heap.size w3 w12) := HK11.out.trans (hb12.mono HK11.out.size)
        have HG12 : Hid (TxO w12 N' (.slice ag N.length cg)) := HG11.out.below hb12
        replace b0 := cell_on hb12 b0
        replace b6 := cell_on hb12 b6
        replace b9 := cell_on hb12 b9
        clear hb12 HB11 HK11 HG11
        go_wp2_with fail
        refine (toSaved_own l _ _ (HR.out _ HB12.out)).mono ?_
        rintro e w13 ⟨v13, rfl, hR13, _, hb13⟩
        have HB13 : Hid (Below w.heap.size w w13) := HB12.out.trans (hb13.mono HB12.out.size)
        have HK13 : Hid (Below w3.heap.size w3 w13) := HK12.out.trans (hb13.mono HK12.out.size)
        have HG13 : Hid (TxO w13 N' (.slice ag N.length cg)) := HG12.out.below hb13
        have HR13 : Hid (StrRow w13 0 l v13) := hR13.row
        replace b6 := cell_on hb13 b6
        replace b9 := cell_on hb13 b9
        clear b0 hb13 hR13 HB12 HK12 HG12
        go_wp2_with fail
        refine (HIM.out w13 _ HR13.out HB13.out).mono ?_
        rintro e w14 ⟨v14, rfl, hH14, _, hb14⟩
        obtain ⟨ah, ch, rfl, _⟩ := hH14.len
        have HB14 : Hid (Below w.heap.size w w14) := HB13.out.trans (hb14.mono HB13.out.size)
        have HK14 : Hid (Below w3.heap.size w3 w14) := HK13.out.trans (hb14.mono HK13.out.size)
        have HG14 : Hid (TxO w14 N' (.slice ag N.length cg)) := HG13.out.below hb14
        have HH14 : Hid (TxO w14 N (.slice ah N.length ch)) := hH14
        replace b6 := cell_on hb14 b6
        replace b9 := cell_on hb14 b9
        have b6a := cell_al b6 (.cells #[.slice ah N.length ch] 33)
        clear hb14 hH14 HB13 HK13 HG13 HR13 HIM HR
        go_wp2_with fail
        have hbW : Below w14.heap.size w14 (w14.alloc (.cells #[.slice ah N.length ch] 33)) := (Below.refl _ _).alloc (Nat.le_refl _) _
        refine (eqSaved_any N _ _ _ (HH14.out.below hbW).row (HR3.out _ (HK14.out.trans (hbW.mono HK14.out.size)))).mono ?_
        rintro e w15 ⟨rfl, hb15⟩
        have hb1415 : Below w14.heap.size w14 w15 := hbW.trans (hb15.mono hbW.size)
        have HB15 : Hid (Below w.heap.size w w15) := HB14.out.trans (hb1415.mono HB14.out.size)
        have HG15 : Hid (TxO w15 N' (.slice ag N.length cg)) := HG14.out.below hb1415
        replace b9 := cell_on hb1415 b9
        clear b6 b6a hb15 hbW hb1415 HB14 HK14 HG14 HH14 HR3
        go_wp2_with fail
        refine (heldSaved_any N' _ _ HG15.out.row HM.out hnl3).mono ?_
        rintro e w16 ⟨rfl, hb16⟩
        rw [HLN.out]
        have HB16 : Hid (Below w.heap.size w w16) := HB15.out.trans (hb16.mono HB15.out.size)
        clear hb16
        go_wp2_with fail
        go_ret
        exact ⟨rfl, HB16.out⟩
  · rw [decide_eq_false h1] at e1
    simp only [Bool.not_true, Bool.not_false] at e1
    clear h1
    go_enter Tryd.func6, Tryd.ntmps6
    go_wp2_with fail
    go_ret
    exact ⟨rfl, (Below.refl _ _).alloc (Nat.le_refl _) _⟩

end Go.Proofs.YtkogdlncjciboaaDoor
