
/-
  DERIVED. laws.FnPointer: its walk out of the contracts.
-/
import Derived.Test.YtedeeckbgjalcaaDoorPntD
import Derived.Test.YtedeeckbgjalcaaDoorPgLaw
namespace Go.Proofs.YtedeeckbgjalcaaDoor
open Go.RowKit
set_option linter.unusedVariables false
set_option linter.unusedSimpArgs false

theorem ptLL_of_pgO {L : List UInt8} {ts : List (List UInt8)} (h : pgO L = some ts) : ptLL ts = L := by
  cases L with
  | nil => simp [pgO] at h; subst h; rfl
  | cons x r =>
    by_cases hx : x = 47
    · subst hx
      rw [pgO_slash] at h
      split at h
      · rename_i he
        simp only [Option.some.injEq] at h
        rw [← h]; exact he
      · exact absurd h (by simp)
    · simp [pgO, hx] at h
theorem szN_le {m : Nat} : ∀ (ns : List (List UInt8)), (∀ x ∈ ns, x.length ≤ m) → szN ns ≤ ns.length * (m + 1)
  | [], _ => by simp [szN]
  | x :: r, h => by
    have h1 := h x List.mem_cons_self
    have h2 := szN_le r (fun y hy => h y (List.mem_cons_of_mem _ hy))
    simp only [szN, List.length_cons, Nat.succ_mul]
    omega
theorem szN_ptLL : ∀ ns : List (List UInt8), szN ns ≤ (ptLL ns).length
  | [] => Nat.le_refl _
  | n :: r => by
    have h1 := szN_ptLL r
    have h2 : n.length ≤ (escL n).length := by
      induction n with
      | nil => simp
      | cons x t ih =>
        have h3 : escL (x :: t) = escC x ++ escL t := rfl
        have h4 : 1 ≤ (escC x).length := by
          unfold escC
          repeat' split
          all_goals simp
        rw [h3, List.length_append, List.length_cons]
        omega
    simp only [szN, ptLL, List.length_append, List.length_cons]
    omega

set_option maxHeartbeats 4000000 in
theorem pnt_main (a a' : Option Addr) (n n' c c' : Nat) (w : World) (hn : n ≤ 1048576) (hn' : n' ≤ 1048576) (hc : n ≤ c) (hc' : n' ≤ c') (h1 : CodeAt w a n) (h2 : CodeAt w a' n') (hm : ML w) :
    Calls Tryd.prog 3 #[.slice a n c, .slice a' n' c'] w fun e w' => e = .returned (.bool true) ∧ Below w.heap.size w w' := by
  have b1 : decide ((1048576 : Int) < (n : Int)) = false := decide_eq_false (by omega)
  have b2 : decide ((1048576 : Int) < (n' : Int)) = false := decide_eq_false (by omega)
  have H2 : Hid (CodeAt w a' n') := h2
  have H1 : Hid (CodeAt w a n) := h1
  have HM : Hid (ML w) := hm
  clear h1 h2 hm
  go_enter Tryd.func3, Tryd.ntmps3
  go_wp2_with fail
  refine (drawPT_any a n c w hn hc H1.out).mono ?_
  rintro e w1 ⟨ns, g, cp, rfl, hg, ⟨B, hN⟩, hl3, hx20, hb1⟩
  have hzs := szN_le ns hx20
  have hz : szN ns ≤ 63 := by
    have : ns.length * (20 + 1) ≤ 3 * (20 + 1) := Nat.mul_le_mul_right _ hl3
    omega
  have HB1 : Hid (Below w.heap.size w w1) := hb1
  have HP : Hid (∀ W, Keeps 0 w1 W → StrRow W 0 (ns.map mkP) (.slice (some ⟨g, 0, none⟩) ns.length cp)) := fun W h => (hN.row (by omega) (fun x hx => by have := hx20 x hx; omega)).keeps h
  have HZ : Hid (szT (ns.map mkP) ≤ 3000000) := by show _ ≤ _; rw [szT_map]; omega
  have HPT : Hid (ptL (ns.map mkP) = ptLL ns) := ptL_map ns
  have HT : Hid ((mkP (ptLL ns)).data.toList = ptLL ns) := rfl
  have hts : (mkP (ptLL ns)).size ≤ 1048576 := by
    rw [mkP_size, ← ptL_map]
    have := ptL_length (ns.map mkP)
    rw [szT_map] at this
    omega
  have HPG : Hid (pgO (ptLL ns) = some ns) := pgO_ptLL ns
  have HGN : Hid (pgN (ptLL ns) = ns.map mkP) := by show _ = _; unfold pgN; rw [HPG.out]
  have hnl : ((ns.map mkP).length : Int) ≤ 3 := by simp; omega
  have hnli : (ns.length : Int) ≤ 3 := by omega
  clear hb1 hN hg hx20 hzs hz
  go_wp2_with fail
  refine (implPointerText_any _ _ w1 (HP.out _ (Keeps.refl _ _)) HZ.out (HM.out.on HB1.out)).mono ?_
  rintro e w2 ⟨rfl, hb2⟩
  rw [HPT.out]
  have HB2 : Hid (Below w.heap.size w w2) := HB1.out.trans (hb2.mono HB1.out.size)
  have HK2 : Hid (Keeps 0 w1 w2) := Keeps.of_below hb2 (Nat.le_refl _) _
  obtain ⟨T, hT⟩ : ∃ T, mkP (ptLL ns) = T := ⟨_, rfl⟩
  rw [hT] at HT hts ⊢
  have HTT : Hid (mkP (ptLL ns) = T) := hT
  have htt : (T.toList == T.toList) = true := by simp
  clear hb2 hT HB1
  go_wp2_with fail
  have hcg := implPointerGet_one T w2 (HM.out.on HB2.out) hts
  rw [HT.out, HGN.out, HPG.out] at hcg
  refine hcg.mono ?_
  rintro e w3 ⟨v1, rfl, hO1, _, hb3⟩
  obtain ⟨a1, rfl, _⟩ := hO1.len
  have HB3 : Hid (Below w.heap.size w w3) := HB2.out.trans (hb3.mono HB2.out.size)
  have HK3 : Hid (Keeps 0 w1 w3) := HK2.out.trans (Keeps.of_below hb3 (Nat.le_refl _) _)
  have HX : Hid (∀ W, Keeps 0 w3 W → StrRow W 0 (ns.map mkP) (.slice a1 (ns.map mkP).length (ns.map mkP).length)) := fun W h => (strO_row hO1).keeps h
  simp only [Option.isSome_some]
  clear hb3 hO1 hcg HB2 HK2 HPG HGN HT
  go_wp2_with fail
  refine (specPointerText_any _ _ w3 (HP.out _ HK3.out) HZ.out).mono ?_
  rintro e w4 ⟨rfl, hb4⟩
  rw [HPT.out, HTT.out]
  have HB4 : Hid (Below w.heap.size w w4) := HB3.out.trans (hb4.mono HB3.out.size)
  have HK4 : Hid (Keeps 0 w1 w4) := HK3.out.trans (Keeps.of_below hb4 (Nat.le_refl _) _)
  have HK34 : Hid (Keeps 0 w3 w4) := Keeps.of_below hb4 (Nat.le_refl _) _
  clear hb4 HB3 HK3
  go_wp2_with fail
  have hcp := pgTexts_any (ns.map mkP) (.slice a1 (ns.map mkP).length (ns.map mkP).length) (.slice (some ⟨g, 0, none⟩) ns.length cp) w4 (HX.out _ HK34.out) (HP.out _ HK4.out)
  rw [List.length_map] at hcp
  first
  | (refine hcp.mono ?_)
  | (simp only [List.length_map]; refine hcp.mono ?_)
  rintro e w5 ⟨rfl, hb5⟩
  have HB5 : Hid (Below w.heap.size w w5) := HB4.out.trans (hb5.mono HB4.out.size)
  clear hb5 hcp HB4 HK4 HK34 HX HP HZ HPT HTT hts htt
  go_wp2_with fail
  refine (drawPG_any a' n' c' w5 hn' hc' (code_below H2.out HB5.out)).mono ?_
  rintro e w6 ⟨s, rfl, hs20, hb6⟩
  have HB6 : Hid (Below w.heap.size w w6) := HB5.out.trans (hb6.mono HB5.out.size)
  have hs1 : s.size ≤ 1048576 := by omega
  clear hb6 HB5
  go_wp2_with fail
  refine (implPointerGet_one s w6 (HM.out.on HB6.out) hs1).mono ?_
  rintro e w7 ⟨v7, rfl, hO7, _, hb7⟩
  have HB7 : Hid (Below w.heap.size w w7) := HB6.out.trans (hb7.mono HB6.out.size)
  obtain ⟨a7, rfl, _⟩ := hO7.len
  have HY : Hid (∀ W, Keeps 0 w7 W → StrRow W 0 (pgN s.data.toList) (.slice a7 (pgN s.data.toList).length (pgN s.data.toList).length)) := fun W h => (strO_row hO7).keeps h
  clear hb7 hO7 HB6
  have hnl7 : (pgN s.data.toList).length ≤ 21 := by have h1 := pgN_length s.data.toList; have h2 : s.data.toList.length = s.size := by simp
                                                    omega
  have hni7 : ((pgN s.data.toList).length : Int) ≤ 21 := by omega
  go_wp2_with fail
  refine (specPointerGet_any s w7 hs1).mono ?_
  rintro e w8 ⟨hb8, v8, rfl, hR8⟩
  obtain ⟨a8, c8, rfl, _, _⟩ := hR8.len
  have HB8 : Hid (Below w.heap.size w w8) := HB7.out.trans (hb8.mono HB7.out.size)
  have HK8 : Hid (Keeps 0 w7 w8) := Keeps.of_below hb8 (Nat.le_refl _) _
  have HWN : Hid (∀ W, Keeps 0 w8 W → StrRow W 0 (pgN s.data.toList) (.slice a8 (pgN s.data.toList).length c8)) := fun W h => hR8.keeps h
  have HFIN : Hid ((pgO s.data.toList).isSome = true → ∀ W, Keeps 0 w7 W → ML W → Calls Tryd.prog 8 #[.slice a7 (pgN s.data.toList).length (pgN s.data.toList).length] W fun e w' => e = .returned (.string s) ∧ Below W.heap.size W w') := fun h W hk hml => by
    obtain ⟨ts, hts⟩ := Option.isSome_iff_exists.1 h
    have h1 := ptLL_of_pgO hts
    have h2 : pgN s.data.toList = ts.map mkP := by unfold pgN; rw [hts]
    have h3 := szN_ptLL ts
    rw [h1] at h3
    have h4 : s.data.toList.length = s.size := by simp
    have h5 := implPointerText_any (pgN s.data.toList) _ W (HY.out W hk) (by rw [h2, szT_map]; omega) hml
    have h6 : mkP (ptL (pgN s.data.toList)) = s := by rw [h2, ptL_map, h1, mkP_data]
    rw [h6] at h5
    exact h5
  generalize pgN s.data.toList = N at *
  generalize (pgO s.data.toList).isSome = F at *
  have hss : (s.toList == s.toList) = true := by simp
  clear hb8 hR8 HB7 hs20
  cases F
  · go_wp2_with fail
    refine (pgTexts_any N _ _ w8 (HY.out _ HK8.out) (HWN.out _ (Keeps.refl _ _))).mono ?_
    rintro e w9 ⟨rfl, hb9⟩
    have HB9 : Hid (Below w.heap.size w w9) := HB8.out.trans (hb9.mono HB8.out.size)
    clear hb9
    go_wp2_with fail
    go_ret
    exact ⟨rfl, HB9.out⟩
  · go_wp2_with fail
    refine (pgTexts_any N _ _ w8 (HY.out _ HK8.out) (HWN.out _ (Keeps.refl _ _))).mono ?_
    rintro e w9 ⟨rfl, hb9⟩
    have HB9 : Hid (Below w.heap.size w w9) := HB8.out.trans (hb9.mono HB8.out.size)
    have HK9 : Hid (Keeps 0 w7 w9) := HK8.out.trans (Keeps.of_below hb9 (Nat.le_refl _) _)
    have HCP : Hid (Calls Tryd.prog 8 #[.slice a7 N.length N.length] w9 fun e w' => e = .returned (.string s) ∧ Below w9.heap.size w9 w') := HFIN.out (by first | rfl | trivial) w9 HK9.out (HM.out.on HB9.out)
    clear hb9 HFIN
    go_wp2_with fail
    refine (Hid.out HCP).mono ?_
    rintro e w10 ⟨rfl, hb10⟩
    have HB10 : Hid (Below w.heap.size w w10) := HB9.out.trans (hb10.mono HB9.out.size)
    clear hb10
    go_wp2_with fail
    go_ret
    exact ⟨rfl, HB10.out⟩

end Go.Proofs.YtedeeckbgjalcaaDoor
