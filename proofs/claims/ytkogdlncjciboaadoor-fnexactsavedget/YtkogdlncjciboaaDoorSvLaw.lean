
/-
  laws.FnExactSavedGet returns true at every saved documents and every sum that it is given, and leaves them as they were: impl.SavedGet answers as spec.SavedGet. Its condition: the program's table of constants (impl.sumTable) holds what the program's text lays (the card ties it).
  DERIVED. The walk out of the contracts, and the row's statement.
-/
import Derived.Test.YtkogdlncjciboaaDoorSvB
import Derived.Test.YtkogdlncjciboaaDoorSiT
import Derived.Test.YtkogdlncjciboaaDoorSvT
namespace Go.Proofs.YtkogdlncjciboaaDoor
open Go.ChangeShapes Go.WideShapes Go.ChangeAt Go.RowKit Go.Deep
open Go.ChangeMaps (open_string shut_string)
set_option linter.unusedVariables false
set_option linter.unusedSimpArgs false

theorem toldS_ret {o : Option ByteArray} {s : ByteArray} {b : Bool} (h1 : o.getD ByteArray.empty = s) (h2 : o.isSome = b) : toldS o = .tuple #[.string s, .bool b] := by unfold toldS; rw [h1, h2]

set_option maxHeartbeats 2000000 in
theorem law_walk (l : List ByteArray) (v : Value) (sum : ByteArray) (w : World) (hrow : StrRow w 0 l v) (hk : KTab w) :
    Calls Tryd.prog 5 #[.agg #[v], .string sum] w fun e w' => e = .returned (.bool true) ∧ Below w.heap.size w w' := by
  obtain ⟨a1, c1, rfl, _, _⟩ := hrow.len
  have HR : Hid (∀ W, Keeps 0 w W → StrRow W 0 l (.slice a1 l.length c1)) := fun W h => hrow.keeps h
  have HK : Hid (∀ W, Below w.heap.size w W → KTab W) := fun W h => hk.on h
  clear hrow hk
  have e1 : decide ((1048576 : Int) < (sum.size : Int)) = !decide (sum.size ≤ 1048576) := by rw [Bool.eq_iff_iff]; simp; omega
  by_cases h1 : sum.size ≤ 1048576
  · rw [decide_eq_true h1] at e1
    simp only [Bool.not_true, Bool.not_false] at e1
    go_enter Tryd.func5, Tryd.ntmps5
    go_wp2_with fail
    refine (szSaved_any l _ _ _ (HR.out _ ((Keeps.refl 0 w).alloc (.cells #[.slice a1 l.length c1] 29))) (by omega) (by omega)).mono ?_
    rintro e w1 ⟨r1, rfl, hr1, hr2, hr3, hb1⟩
    have HB1 : Hid (Below w.heap.size w w1) := ((Below.refl _ _).alloc (Nat.le_refl _) _).trans (hb1.mono (by simp))
    have b0 : w1.cell? ⟨w.heap.size, 0, none⟩ = some (.slice a1 l.length c1) := cell_on hb1 (p := ⟨w.heap.size, 0, none⟩) (by simp)
    have HSZ : Hid (0 ≤ r1 → (szX l : Int) ≤ 1048576) := hr3
    clear hb1 hr3
    by_cases hneg : r1 < 0
    · go_wp2_with fail
      go_ret
      exact ⟨rfl, HB1.out⟩
    · have HL : Hid (∀ t ∈ l, t.size ≤ 67108864) := fun t ht => by have h1 := szX_mem ht; have h2 := HSZ.out (by omega); omega
      clear HSZ
      go_wp2_with fail
      refine (toSaved_any l _ _ (HR.out _ (Keeps.of_below HB1.out (Nat.le_refl _) 0))).mono ?_
      rintro e w2 ⟨v2, rfl, hR2, hb2⟩
      have HB2 : Hid (Below w.heap.size w w2) := HB1.out.trans (hb2.mono HB1.out.size)
      replace b0 := cell_on hb2 b0
      have HR2 : Hid (StrRow w2 0 l v2) := hR2.base (Nat.zero_le _)
      clear HB1 hb2 hR2
      go_wp2_with fail
      refine (specSavedGet_any l _ sum _ HR2.out HL.out).mono ?_
      rintro e w3 ⟨rfl, hb3⟩
      have HB3 : Hid (Below w.heap.size w w3) := HB2.out.trans (hb3.mono HB2.out.size)
      replace b0 := cell_on hb3 b0
      obtain ⟨s, hs⟩ : ∃ s, (getS l sum).getD ByteArray.empty = s := ⟨_, rfl⟩
      obtain ⟨ok, hok⟩ : ∃ ok, (getS l sum).isSome = ok := ⟨_, rfl⟩
      have HTS : Hid (toldS (getS l sum) = .tuple #[.string s, .bool ok]) := toldS_ret hs hok
      rw [HTS.out]
      clear HB2 hb3 HR2 hs hok
      go_wp2_with fail
      refine (toSaved_any l _ _ (HR.out _ (Keeps.of_below HB3.out (Nat.le_refl _) 0))).mono ?_
      rintro e w4 ⟨v4, rfl, hR4, hb4⟩
      obtain ⟨a4, c4, rfl, _, _⟩ := hR4.len
      have HB4 : Hid (Below w.heap.size w w4) := HB3.out.trans (hb4.mono HB3.out.size)
      replace b0 := cell_on hb4 b0
      have HR4 : Hid (∀ W, Keeps 0 w4 W → StrRow W 0 l (.slice a4 l.length c4)) := fun W h => (hR4.base (Nat.zero_le _)).keeps h
      clear HB3 hb4 hR4
      go_wp2_with fail
      have HB4a : Hid (Below w.heap.size w (w4.alloc (.cells #[.slice a4 l.length c4] 33))) := HB4.out.alloc HB4.out.size _
      refine (implSavedGet_any l _ sum _ (HR4.out _ ((Keeps.refl 0 w4).alloc (.cells #[.slice a4 l.length c4] 33))) (HK.out _ HB4a.out) HL.out).mono ?_
      rintro e w5 ⟨rfl, hb5⟩
      have HB5 : Hid (Below w.heap.size w w5) := HB4a.out.trans (hb5.mono HB4a.out.size)
      have HK5 : Hid (Keeps 0 w4 w5) := ((Keeps.refl _ _).alloc _).trans (Keeps.of_below hb5 (Nat.le_refl _) _)
      replace b0 := cell_on hb5 ((World.cell?_alloc_lt _ _ _ (cell_lt b0)).trans b0)
      have x0 := cell_on hb5 (p := ⟨w4.heap.size, 0, none⟩) (by simp; rfl)
      rw [HTS.out]
      have hne : (ok != ok) = false := by simp
      have hq : (s.toList == s.toList) = true := by simp
      clear hb5 HB4a
      go_wp2_with fail
      go_region_with (first | (go_at_call 12; refine (toSaved_any l _ w5.drew (HR.out _ (Keeps.of_below HB5.out (Nat.le_refl _) _).drew)).mono ?_; rintro e w6 ⟨v6, rfl, hR6, hb6⟩; have y0 := cell_on (W := w5.drew) hb6 x0; have HR6 : Hid _ := hR6; have HB6 : Hid _ := hb6; clear hR6 hb6) | (go_at_call 14; refine (eqSaved_any l _ _ _ (HR4.out _ (HK5.out.drew.trans (Keeps.of_below HB6.out (Nat.le_refl _) _))) (StrRow.base (Nat.zero_le _) HR6.out)).mono ?_; rintro e w7 ⟨rfl, hb7⟩; have HB7 : Hid _ := hb7; clear hb7))
      all_goals
        go_wp2_with fail
        go_ret
        exact ⟨rfl, (HB5.out.drew.trans (HB6.out.mono HB5.out.size)).trans (HB7.out.mono (Nat.le_trans HB5.out.size HB6.out.size))⟩
  · rw [decide_eq_false h1] at e1
    simp only [Bool.not_true, Bool.not_false] at e1
    clear h1
    go_enter Tryd.func5, Tryd.ntmps5
    go_wp2_with fail
    go_ret
    exact ⟨rfl, (Below.refl _ _).alloc (Nat.le_refl _) _⟩

set_option maxRecDepth 100000 in
theorem lifted (os : Os) (started : os.Started) (H : Type) (enc : TypeId × Value → H) :
    ReturnsInHanded {} Tryd.checked os 5 .any (fun w args => (Rows.fnExactSavedGetSpec.pre enc Tryd.prog Tryd.f5 [] false w args ∧ laidMetH Tryd.prog laidL w) ∧ sizedMet enc Tryd.prog Tryd.f5 (OpenSpec.ofChange Rows.fnExactSavedGetSpec) false w args)
      (Rows.fnExactSavedGetSpec.post enc Tryd.prog Tryd.f5 false true false false) := by
  refine returnsInHanded_of_change_and (C := Tryd.checked) (X := fun w _ => laidMetH Tryd.prog laidL w) (fun _ _ _ hh h => h.of_heap hh) own started (by kernel_rfl) Tryd.func5
    (ChangeSpec.witness_shaped (enc := enc) (C := Tryd.checked) (os := os) (X := fun w _ => laidMetH Tryd.prog laidL w) false (World.doorLaid Tryd.prog 400 os) #[.agg #[.slice none 0 0], .string ByteArray.empty] 8 rfl (World.shaped_of_RefB (by kernel_rfl) (by kernel_rfl)) (by kernel_rfl) (by kernel_rfl) (by kernel_rfl) (door_met os _)) ?_
  intro W base args ds gs before hval0 hW hcnd hsz0 hL _
  have hval : ∀ (j : Nat) t v, Tryd.f5.params[j]? = some t → args[j]? = some v → Value.okWide Tryd.prog W .any base t v := hval0
  have hW' := hW
  obtain ⟨p, q, hA0, hV, rfl, hfz, hnd⟩ := hW
  have hA : DataW.TrodAll enc Tryd.prog W 0 (fun _ => true) true Tryd.f5.params.toList args.toList ds p := hA0
  have hsz : (DataW.weightsEach Tryd.prog (Tryd.f5.params.toList ++ Rows.fnExactSavedGetSpec.plain.varTypes Tryd.prog) (ds ++ gs)).all (· ≤ reachBytes) = true := hsz0
  rw [Tryd.params5] at hA hval hsz
  obtain ⟨v0, vs0, d0, ds0, p0, q0, hargs, rfl, rfl, h0, r0⟩ := trodAll_cons hA
  obtain ⟨v1, vs1, d1, ds1, p1, q1, rfl, rfl, rfl, h1, r1⟩ := trodAll_cons r0
  obtain ⟨rfl, rfl, rfl⟩ := trodAll_nil r1
  obtain rfl : args = #[v0, v1] := by cases args; simp_all
  have hV' : DataW.TrodVars enc Tryd.prog W (fun _ => true) ["loop.example/pergola/impl.sumTable"] gs q := hV
  obtain ⟨gv, gt, gcs, gfuel, gd, gp, rfl, -, -, -, -, -⟩ := trodVars_one hV'
  have k0 := h0
  have lt0 : ∀ x ∈ p0, x.block < W.heap.size := by obtain ⟨m, hm⟩ := k0; exact DataW.trod_lt m _ _ _ hm
  obtain ⟨fuel, hf⟩ := h0
  obtain ⟨k, v, hv, hrk⟩ := saved_of_trod hf (fun m hm => by
    have h1 := List.all_eq_true.1 hsz m (DataW.weights_mem_each (j := 0) (t := 29) (d := d0) rfl rfl m hm)
    exact of_decide_eq_true h1)
  obtain ⟨cs, rfl, hcs⟩ := okWide_struct Tryd.underlying29 (hval 0 29 v0 rfl rfl)
  obtain rfl : cs = #[v] := by
    have h1 : cs.toList = [v] := by simpa [Value.cells] using hv
    exact Array.toList_inj.1 h1
  obtain ⟨s1, rfl, rfl, rfl, hs1⟩ := open_string Tryd.underlying9 (hval 1 9 v1 rfl rfl) h1
  clear hA0 hval0
  refine (law_walk k v s1 W hrk (ktab_of hL)).mono fun e W' ⟨he, bel⟩ => ?_
  subst he
  exact ⟨_, rfl, _, _, _, _, _, _, hW', trodAll_mk1 (shut_bool Tryd.underlying4 _), (trodAll_cons_mk (Below.trod laidOut (by kernel_rfl) (of_decide_eq_true (by kernel_rfl)) k0 bel lt0) (trodAll_cons_mk (shut_string Tryd.underlying9 hs1) trodAll_mk0)), bel.trodVars laidOut rowed hV', bel.frame _, fun h => by cases h⟩

theorem fnExactSavedGet_holds : Rows.FnExactSavedGetSaid :=
  OpenClaim.holds_of_wide 5 Tryd.f5 rfl rfl rfl rfl rfl rfl rfl ⟨rfl, rfl, rfl, rfl, rfl⟩ rfl rfl rfl rfl rfl (by kernel_rfl) Tryd.func5 (by kernel_rfl)
    (of_decide_eq_true (by kernel_rfl)) (by unfold Func.isWrapper; first | (rw [if_pos (by decide +kernel)]; kernel_rfl) | (rw [if_neg (by decide +kernel)]; exact ⟨rfl, rfl⟩))
    (fun os started H enc _ => lifted os started H enc)

theorem card_holds : Rows.FnExactSavedGetCardSaid :=
  Claim7.holds_tied_plain_at .later [] [.data] true (true, "471533e35f8b7d13ba8479b3c9ed85d53a72209b9151f9fd366ef788b675318f") false
    fnExactSavedGet_holds (fun _ h => by cases h) (by kernel_rfl) (fun _ h => by cases h) fnExactSavedGet_row_tie rfl ⟨rfl, rfl⟩ (by kernel_rfl) rfl
    (fun f fn hf hfn => by
      obtain rfl : f = 5 := Option.some.inj ((show Tryd.prog.funcNamed "loop.example/pergola/laws.FnExactSavedGet" = some 5 by kernel_rfl).symm.trans hf) |>.symm
      obtain rfl : fn = Tryd.f5 := (Option.some.inj (Tryd.func5.symm.trans hfn)).symm
      exact ⟨by kernel_rfl, fun j t ht => by
        rw [Tryd.params5] at ht
        have hm : t ∈ [29, 9] := by simpa using Array.mem_of_getElem? ht
        have hall : ([29, 9].all fun u => !Tryd.prog.wantsStandIn u) = true := by kernel_rfl
        exact (show Tryd.prog.wantsStandIn t = false by simpa using List.all_eq_true.1 hall t hm)⟩)
    (by kernel_rfl)

end Go.Proofs.YtkogdlncjciboaaDoor
