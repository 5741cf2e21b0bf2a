
/-
  laws.FnExactCacheOk returns true at every cache that it is given, and leaves it as it was: impl.CacheOk answers as spec.CacheOk. No condition.
  DERIVED. The walk out of the contracts, and the row's statement.
-/
import Derived.Test.YtkogdlncjciboaaCcB
import Derived.Test.YtkogdlncjciboaaReadA
import Derived.ProofKit
import Derived.SizedLaws
import Derived.ChangeOld
import Derived.OpenShut
namespace Go.Proofs.Ytkogdlncjciboaa
open Go.ChangeShapes Go.WideShapes Go.ChangeAt Go.RowKit Go.Deep
set_option linter.unusedVariables false
set_option linter.unusedSimpArgs false

set_option maxHeartbeats 2000000 in
theorem law_walk (k a : List ByteArray) (v va : Value) (w : World) (hk : StrRow w 0 k v) (ha : StrRow w 0 a va) :
    Calls Try.prog 3 #[.agg #[v, va]] w fun e w' => e = .returned (.bool true) ∧ Below w.heap.size w w' := by
  obtain ⟨a1, c1, rfl, _, _⟩ := hk.len
  obtain ⟨a2, c2, rfl, _, _⟩ := ha.len
  have HR : Hid (∀ W, Keeps 0 w W → StrRow W 0 k (.slice a1 k.length c1) ∧ StrRow W 0 a (.slice a2 a.length c2)) := fun W h => ⟨hk.keeps h, ha.keeps h⟩
  clear hk ha
  go_enter Try.func3, Try.ntmps3
  go_wp2_with fail
  have HR0 := HR.out _ ((Keeps.refl 0 w).alloc (.cells #[.slice a1 k.length c1, .slice a2 a.length c2] 24))
  refine (szCache_any k a _ _ _ _ HR0.1 HR0.2 (by omega) (by omega)).mono ?_
  rintro e w1 ⟨r1, rfl, hr1, hr2, hb1⟩
  have HB1 : Hid (Below w.heap.size w w1) := ((Below.refl _ _).alloc (Nat.le_refl _) _).trans (hb1.mono (by simp))
  have b0 : w1.cell? ⟨w.heap.size, 0, none⟩ = some (.slice a1 k.length c1) := cell_on hb1 (p := ⟨w.heap.size, 0, none⟩) (by simp)
  have b1 : w1.cell? ⟨w.heap.size, 1, none⟩ = some (.slice a2 a.length c2) := cell_on hb1 (p := ⟨w.heap.size, 1, none⟩) (by simp)
  clear hb1 HR0
  by_cases hneg : r1 < 0
  · go_wp2_with fail
    go_ret
    exact ⟨rfl, HB1.out⟩
  · go_wp2_with fail
    have HR1 := HR.out _ (Keeps.of_below HB1.out (Nat.le_refl _) 0)
    refine (toCache_any k a _ _ _ HR1.1 HR1.2).mono ?_
    rintro e w2 ⟨v2, va2, rfl, hR2, hRa2, hb2⟩
    have HB2 : Hid (Below w.heap.size w w2) := HB1.out.trans (hb2.mono HB1.out.size)
    replace b0 := cell_on hb2 b0
    replace b1 := cell_on hb2 b1
    have HR2 : Hid (StrRow w2 0 k v2 ∧ StrRow w2 0 a va2) := ⟨hR2.base (Nat.zero_le _), hRa2.base (Nat.zero_le _)⟩
    clear HR1 HB1 hb2 hR2 hRa2
    go_wp2_with fail
    refine (specCacheOk_any k a _ _ _ HR2.out.1 HR2.out.2).mono ?_
    rintro e w3 ⟨rfl, hb3⟩
    have HB3 : Hid (Below w.heap.size w w3) := HB2.out.trans (hb3.mono HB2.out.size)
    replace b0 := cell_on hb3 b0
    replace b1 := cell_on hb3 b1
    obtain ⟨ok, hok⟩ : ∃ ok, okK k a = ok := ⟨_, rfl⟩
    rw [hok]
    have HOK : Hid (okK k a = ok) := hok
    clear HB2 hb3 HR2 hok
    go_wp2_with fail
    have HR3 := HR.out _ (Keeps.of_below HB3.out (Nat.le_refl _) 0)
    refine (toCache_any k a _ _ _ HR3.1 HR3.2).mono ?_
    rintro e w4 ⟨v4, va4, rfl, hR4, hRa4, hb4⟩
    obtain ⟨a4, c4, rfl, _, _⟩ := hR4.len
    obtain ⟨a4', c4', rfl, _, _⟩ := hRa4.len
    have HB4 : Hid (Below w.heap.size w w4) := HB3.out.trans (hb4.mono HB3.out.size)
    replace b0 := cell_on hb4 b0
    replace b1 := cell_on hb4 b1
    have HR4 : Hid (∀ W, Keeps 0 w4 W → StrRow W 0 k (.slice a4 k.length c4) ∧ StrRow W 0 a (.slice a4' a.length c4')) := fun W h => ⟨(hR4.base (Nat.zero_le _)).keeps h, (hRa4.base (Nat.zero_le _)).keeps h⟩
    clear HB3 hb4 hR4 hRa4 HR3
    go_wp2_with fail
    have HR5 := HR4.out _ ((Keeps.refl 0 w4).alloc (.cells #[.slice a4 k.length c4, .slice a4' a.length c4'] 27))
    refine (implCacheOk_any k a _ _ _ HR5.1 HR5.2).mono ?_
    rintro e w5 ⟨rfl, hb5⟩
    have HB5 : Hid (Below w.heap.size w w5) := (HB4.out.alloc HB4.out.size _).trans (hb5.mono (by have := HB4.out.size; simp; omega))
    have HK5 : Hid (Keeps 0 w4 w5) := ((Keeps.refl _ _).alloc _).trans (Keeps.of_below hb5 (Nat.le_refl _) _)
    replace b0 := cell_on hb5 ((World.cell?_alloc_lt _ _ _ (cell_lt b0)).trans b0)
    replace b1 := cell_on hb5 ((World.cell?_alloc_lt _ _ _ (cell_lt b1)).trans b1)
    have x0 := cell_on hb5 (p := ⟨w4.heap.size, 0, none⟩) (by simp; rfl)
    have x1 := cell_on hb5 (p := ⟨w4.heap.size, 1, none⟩) (by simp; rfl)
    rw [HOK.out]
    have hne : (ok != ok) = false := by simp
    clear hb5 HR5
    go_wp2_with fail
    go_region_with (first | (go_at_call 6; refine (toCache_any k a _ _ _ (HR.out _ (Keeps.of_below HB5.out (Nat.le_refl _) _).drew).1 (HR.out _ (Keeps.of_below HB5.out (Nat.le_refl _) _).drew).2).mono ?_; rintro e w6 ⟨v6, va6, rfl, hR6, hRa6, hb6⟩; have y0 := cell_on (W := w5.drew) hb6 x0; have y1 := cell_on (W := w5.drew) hb6 x1; have HR6 : Hid _ := hR6; have HRa6 : Hid _ := hRa6; have HB6 : Hid _ := hb6; clear hR6 hRa6 hb6) | (go_at_call 8; refine (eqCache_any k a _ _ _ _ _ (HR4.out _ (HK5.out.drew.trans (Keeps.of_below HB6.out (Nat.le_refl _) _))).1 (HR4.out _ (HK5.out.drew.trans (Keeps.of_below HB6.out (Nat.le_refl _) _))).2 (StrRow.base (Nat.zero_le _) HR6.out) (StrRow.base (Nat.zero_le _) HRa6.out)).mono ?_; rintro e w7 ⟨rfl, hb7⟩; have HB7 : Hid _ := hb7; clear hb7))
    all_goals
      go_wp2_with fail
      go_ret
      exact ⟨rfl, (HB5.out.drew.trans (HB6.out.mono HB5.out.size)).trans (HB7.out.mono (Nat.le_trans HB5.out.size HB6.out.size))⟩

theorem own : ownKnob Try.prog.godebug = none := by kernel_rfl
theorem laidOut : laidOutB Try.prog = true := by kernel_rfl
theorem cells_Cache : Try.prog.cellsOf 24 = 2 := by kernel_rfl
theorem cells_stringS : Try.prog.cellsOf 22 = 1 := by kernel_rfl
theorem cells_string : Try.prog.cellsOf 9 = 1 := by kernel_rfl
theorem bytes_string : Try.prog.bytesOf 9 = 16 := by kernel_rfl
theorem strRow_of_trod {H : Type} {enc : TypeId × Value → H} {W : World} {fuel : Nat} {cs : List Value} {x : DataW H × List MemPlace} (h : DataW.trod enc Try.prog W 0 (fun _ => true) true fuel 22 cs = some x)
    (hsz : ∀ m ∈ x.1.weights Try.prog 22, m ≤ 140737488351232) : ∃ l v, cs = [v] ∧ StrRow W 0 l v :=
  row_of_trod (R := StrR) Try.underlying22 cells_string (by omega) bytes_string h hsz (fun n cs' y _ hy hm => by
    obtain ⟨s, rfl, rfl, _⟩ := DataW.trod_string Try.underlying9 hy
    exact ⟨s, rfl, by have := hm s.data.toList.length (by simp [DataW.weights]); simpa using this⟩)
theorem cache_of_trod {H : Type} {enc : TypeId × Value → H} {W : World} {fuel : Nat} {cs : List Value} {x : DataW H × List MemPlace} (h : DataW.trod enc Try.prog W 0 (fun _ => true) true fuel 24 cs = some x)
    (hsz : ∀ m ∈ x.1.weights Try.prog 24, m ≤ 140737488351232) : ∃ k a v va, cs = [v, va] ∧ StrRow W 0 k v ∧ StrRow W 0 a va := by
  obtain ⟨xs, n, rfl, rfl, hl, hlen, hf⟩ := DataW.trod_struct Try.underlying24 h
  have q0 : DataW.trod enc Try.prog W 0 (fun _ => true) true n 22 ((cs.drop 0).take (Try.prog.cellsOf 22)) = xs[0]? := hf 0 _ rfl
  have q1 : DataW.trod enc Try.prog W 0 (fun _ => true) true n 22 ((cs.drop 1).take (Try.prog.cellsOf 22)) = xs[1]? := hf 1 _ rfl
  rw [cells_Cache] at hl
  simp only [cells_stringS] at q0 q1
  match cs, hl, xs, hlen with
  | [c0, c1], _, [y0, y1], _ =>
  simp only [List.drop_zero, List.drop_succ_cons, List.take_succ_cons, List.take_zero, List.getElem?_cons_zero, List.getElem?_cons_succ] at q0 q1
  have hw : ∀ m, (m ∈ y0.1.weights Try.prog 22 ∨ m ∈ y1.1.weights Try.prog 22) → m ≤ 140737488351232 := by
    intro m hm
    apply hsz
    simp only [DataW.weights, Try.underlying24, List.map_cons, List.map_nil, DataW.weightsEach, List.mem_append]
    rcases hm with hm | hm
    · exact Or.inl hm
    · exact Or.inr (Or.inl hm)
  obtain ⟨k, v, hv, hrow⟩ := strRow_of_trod q0 (fun m hm => hw m (Or.inl hm))
  obtain ⟨a, v', hv', hrow'⟩ := strRow_of_trod q1 (fun m hm => hw m (Or.inr hm))
  simp only [List.cons.injEq, and_true] at hv hv'
  subst hv hv'
  exact ⟨k, a, _, _, rfl, hrow, hrow'⟩

set_option maxRecDepth 100000 in
theorem lifted (os : Os) (started : os.Started) (H : Type) (enc : TypeId × Value → H) :
    ReturnsInHanded {} Try.checked os 3 .any (Rows.fnExactCacheOkSpec.pre6 enc Try.prog Try.f3 Rows.fnExactCacheOkRow.domain false) (Rows.fnExactCacheOkSpec.post enc Try.prog Try.f3 false true false false) := by
  refine returnsInHanded_of_change_sized (C := Try.checked) own started (by kernel_rfl) Try.func3
    (ChangeSpec.witness6 (enc := enc) (C := Try.checked) false ⟨#[], #[.agg #[.slice none 0 0, .slice none 0 0]], []⟩ 8 (by kernel_rfl) (by kernel_rfl) (by kernel_rfl) (by kernel_rfl)) ?_
  intro W base args ds gs before hval0 hW hcnd hsz0 _
  have hval : ∀ (j : Nat) t v, Try.f3.params[j]? = some t → args[j]? = some v → Value.okWide Try.prog W .any base t v := hval0
  have hW' := hW
  obtain ⟨p, q, hA0, hV, rfl, hfz, hnd⟩ := hW
  have hA : DataW.TrodAll enc Try.prog W 0 (fun _ => true) true Try.f3.params.toList args.toList ds p := hA0
  have hsz : (DataW.weightsEach Try.prog (Try.f3.params.toList ++ Rows.fnExactCacheOkSpec.plain.varTypes Try.prog) (ds ++ gs)).all (· ≤ reachBytes) = true := hsz0
  rw [Try.params3] at hA hval hsz
  obtain ⟨v0, vs0, d0, ds0, p0, q0, hargs, rfl, rfl, h0, r0⟩ := trodAll_cons hA
  obtain ⟨rfl, rfl, rfl⟩ := trodAll_nil r0
  obtain rfl : args = #[v0] := by cases args; simp_all
  obtain ⟨rfl, rfl⟩ := trodVars_none hV
  have k0 := h0
  have lt0 : ∀ x ∈ p0, x.block < W.heap.size := by obtain ⟨m, hm⟩ := k0; exact DataW.trod_lt m _ _ _ hm
  obtain ⟨fuel, hf⟩ := h0
  obtain ⟨k, a, v, va, hv, hrk, hra⟩ := cache_of_trod hf (fun m hm => by
    have h1 := List.all_eq_true.1 hsz m (DataW.weights_mem_each (j := 0) (t := 24) (d := d0) rfl rfl m hm)
    exact of_decide_eq_true h1)
  obtain ⟨cs, rfl, hcs⟩ := okWide_struct Try.underlying24 (hval 0 24 v0 rfl rfl)
  obtain rfl : cs = #[v, va] := by
    have h1 : cs.toList = [v, va] := by simpa [Value.cells] using hv
    exact Array.toList_inj.1 h1
  clear hA0 hval0
  refine (law_walk k a v va W hrk hra).mono fun e W' ⟨he, bel⟩ => ?_
  subst he
  exact ⟨_, rfl, _, _, _, [], _, [], hW', trodAll_mk1 (shut_bool Try.underlying4 _), (trodAll_cons_mk (Below.trod laidOut (by kernel_rfl) (of_decide_eq_true (by kernel_rfl)) k0 bel lt0) trodAll_mk0), rfl, bel.frame _, fun h => by cases h⟩

theorem fnExactCacheOk_holds : Rows.FnExactCacheOkSaid :=
  OpenClaim.holds_of_wide 3 Try.f3 rfl rfl rfl rfl rfl rfl rfl ⟨rfl, rfl, rfl, rfl, rfl⟩ rfl rfl rfl rfl rfl (by kernel_rfl) Try.func3 (by kernel_rfl)
    (of_decide_eq_true (by kernel_rfl)) (by unfold Func.isWrapper; first | (rw [if_pos (by decide +kernel)]; kernel_rfl) | (rw [if_neg (by decide +kernel)]; exact ⟨rfl, rfl⟩))
    (fun os started H enc _ => lifted os started H enc)

end Go.Proofs.Ytkogdlncjciboaa
