
/-
  DERIVED. CACHES: what a key twice is; the walks of laws.szCache, laws.toCache, laws.eqCache, spec.CacheOk.
-/
import Derived.Test.YtkogdlncjciboaaStrW
import Derived.Test.YtkogdlncjciboaaPlainV
import Derived.Test.YtkogdlncjciboaaNames
import Derived.BigQuiet
namespace Go.Proofs.Ytkogdlncjciboaa
open Go.RowKit
set_option linter.unusedVariables false
set_option linter.unusedSimpArgs false

/-- None of the first n texts is there twice. -/
def distP (l : List ByteArray) : Nat → Bool
  | 0 => true
  | n + 1 => distP l n && !hasB (l.take n) (l.getD n ByteArray.empty)
theorem distP_step {l : List ByteArray} {j : Nat} (h : j < l.length) : distP l (j + 1) = (distP l j && !hasB (l.take j) l[j]) := by
  simp [distP, List.getD_eq_getElem?_getD, h]
theorem distP_down {l : List ByteArray} : ∀ {m n : Nat}, m ≤ n → distP l m = false → distP l n = false
  | m, 0, h, hf => by obtain rfl : m = 0 := by omega
                      exact hf
  | m, n + 1, h, hf => by
    rcases Nat.lt_or_ge n m with h1 | h1
    · obtain rfl : m = n + 1 := by omega
      exact hf
    · simp [distP, distP_down h1 hf]
/-- A cache is ok. -/
def okK (k a : List ByteArray) : Bool := distP k k.length && decide (k.length = a.length) && decide (k.length ≤ 4)

theorem szCache_any (k a : List ByteArray) (v va : Value) (left : Int) (w : World) (hk : StrRow w 0 k v) (ha : StrRow w 0 a va) (h0 : 0 ≤ left) (h1 : left ≤ 1048576) :
    Calls Try.prog 4 #[.agg #[v, va], .int .i64 left] w (SzPost left w) := by
  obtain ⟨a1, c1, rfl, _, _⟩ := hk.len
  obtain ⟨a2, c2, rfl, _, _⟩ := ha.len
  have HK : Hid (∀ W, Keeps 0 w W → StrRow W 0 k (.slice a1 k.length c1)) := fun W h => hk.keeps h
  have HA : Hid (∀ W, Keeps 0 w W → StrRow W 0 a (.slice a2 a.length c2)) := fun W h => ha.keeps h
  clear hk ha
  go_enter Try.func4, Try.ntmps4
  go_wp2_with fail
  refine (szStringS_any k _ _ _ (HK.out _ ((Keeps.refl _ _).alloc _)) h0 h1).mono ?_
  rintro e w1 ⟨r1, rfl, hr1, hr2, hb1⟩
  have HB1 : Hid (Below w.heap.size w w1) := ((Below.refl _ _).alloc (Nat.le_refl _) _).trans (hb1.mono (by simp))
  have x0 : w1.cell? ⟨w.heap.size, 0, none⟩ = some (.slice a1 k.length c1) := cell_on hb1 (p := ⟨w.heap.size, 0, none⟩) (by simp)
  have x1 : w1.cell? ⟨w.heap.size, 1, none⟩ = some (.slice a2 a.length c2) := cell_on hb1 (p := ⟨w.heap.size, 1, none⟩) (by simp)
  clear hb1
  by_cases hneg : r1 < 0
  · go_wp2_with fail
    go_ret
    exact ⟨_, rfl, by omega, by omega, HB1.out⟩
  · go_wp2_with fail
    refine (szStringS_any a _ _ _ (HA.out _ (Keeps.of_below HB1.out (Nat.le_refl _) _)) (by omega) (by omega)).mono ?_
    rintro e w2 ⟨r2, rfl, hr3, hr4, hb2⟩
    have HB2 : Hid (Below w.heap.size w w2) := HB1.out.trans (hb2.mono HB1.out.size)
    clear hb2
    by_cases hneg2 : r2 < 0
    all_goals
      go_wp2_with fail
      go_ret
      exact ⟨_, rfl, by omega, by omega, HB2.out⟩

theorem szA3 (w : World) (a b c : Obj) : (((w.alloc a).alloc b).alloc c).heap.size = w.heap.size + 3 := by simp

set_option maxHeartbeats 1000000 in
theorem toCache_any (k a : List ByteArray) (v va : Value) (w : World) (hk : StrRow w 0 k v) (ha : StrRow w 0 a va) :
    Calls Try.prog 6 #[.agg #[v, va]] w fun e w' => ∃ v' va', e = .returned (.agg #[v', va']) ∧ StrRow w' w.heap.size k v' ∧ StrRow w' w.heap.size a va' ∧ Below w.heap.size w w' := by
  obtain ⟨a1, c1, rfl, _, _⟩ := hk.len
  obtain ⟨a2, c2, rfl, _, _⟩ := ha.len
  have HK : Hid (∀ W, Keeps 0 w W → StrRow W 0 k (.slice a1 k.length c1)) := fun W h => hk.keeps h
  have HA : Hid (∀ W, Keeps 0 w W → StrRow W 0 a (.slice a2 a.length c2)) := fun W h => ha.keeps h
  clear hk ha
  go_enter Try.func6, Try.ntmps6
  go_wp2_with fail
  refine (toStringS_any k _ _ (HK.out _ ((((Keeps.refl _ _).alloc _).alloc _).alloc _))).mono ?_
  rintro e w1 ⟨v1, rfl, hr1, hb1⟩
  obtain ⟨b1, d1, rfl, _, _⟩ := hr1.len
  rw [szA3] at hr1
  have HR1 : Hid (StrRow w1 (w.heap.size + 3) k (.slice b1 k.length d1)) := hr1
  have HB1 : Hid (Below w.heap.size w w1) := ((((Below.refl _ _).alloc (Nat.le_refl _) _).alloc (by simp) _).alloc (by simp; omega) _).trans (hb1.mono (by simp; omega))
  have o0 : Owns w1 w.heap.size #[.slice a1 k.length c1, .slice a2 a.length c2] 24 := (((Owns.made w _ _).below ((Below.refl _ _).alloc (Nat.le_refl _) _) (by simp)).below ((Below.refl _ _).alloc (Nat.le_refl _) _) (by simp; omega)).below hb1 (by simp; omega)
  have o1 : Owns w1 (w.heap.size + 1) #[.slice none 0 0, .slice none 0 0] 27 := by
    have := ((Owns.made (w.alloc (.cells #[.slice a1 k.length c1, .slice a2 a.length c2] 24)) #[.slice none 0 0, .slice none 0 0] 27).below ((Below.refl _ _).alloc (Nat.le_refl _) (.cells #[.slice none 0 0, .slice none 0 0] 27)) (by simp)).below hb1 (by simp)
    simpa using this
  have o2 : Owns w1 (w.heap.size + 1 + 1) #[.slice none 0 0, .slice none 0 0] 27 := by
    have := (Owns.made ((w.alloc (.cells #[.slice a1 k.length c1, .slice a2 a.length c2] 24)).alloc (.cells #[.slice none 0 0, .slice none 0 0] 27)) #[.slice none 0 0, .slice none 0 0] 27).below hb1 (by simp)
    simpa using this
  have p0 := o0.cell 0
  have p1 := o0.cell 1
  have q0 := o2.cell 0
  have qf := o2.frozen 0
  simp at p0 p1 q0
  have hz : w.heap.size + 3 ≤ w1.heap.size := by have := hb1.size; simp at this; omega
  clear hb1 hr1
  go_wp2_with fail
  obtain ⟨W1, hW1⟩ : ∃ W, W = w1.setCell ⟨w.heap.size + 1 + 1, 0, none⟩ (.slice b1 k.length d1) := ⟨_, rfl⟩
  have HBW : Hid (Below w.heap.size w W1) := by rw [hW1]; exact HB1.out.setCell (by simp; omega) _
  have HRW : Hid (StrRow W1 (w.heap.size + 3) k (.slice b1 k.length d1)) := by rw [hW1]; exact HR1.out.keeps ((Keeps.refl _ _).setCell (by simp) _)
  have oW0 : Owns W1 w.heap.size #[.slice a1 k.length c1, .slice a2 a.length c2] 24 := by rw [hW1]; exact o0.other (by omega) _ _
  have oW1 : Owns W1 (w.heap.size + 1) #[.slice none 0 0, .slice none 0 0] 27 := by rw [hW1]; exact o1.other (by omega) _ _
  have oW2 : Owns W1 (w.heap.size + 1 + 1) #[.slice b1 k.length d1, .slice none 0 0] 27 := by rw [hW1]; simpa using o2.set 0 (.slice b1 k.length d1)
  have hzW : w.heap.size + 3 ≤ W1.heap.size := by rw [hW1]; simpa [World.setCell] using hz
  rw [← hW1]
  clear hW1 p0 p1 q0 qf o0 o1 o2 hz HR1 HB1
  refine (toStringS_any a _ W1 (HA.out _ (Keeps.of_below HBW.out (Nat.le_refl _) _))).mono ?_
  rintro e w2 ⟨v2, rfl, hr2, hb2⟩
  obtain ⟨b2, d2, rfl, _, _⟩ := hr2.len
  have HB2 : Hid (Below w.heap.size w w2) := HBW.out.trans (hb2.mono HBW.out.size)
  have HRK : Hid (StrRow w2 (w.heap.size + 3) k (.slice b1 k.length d1)) := HRW.out.keeps (Keeps.of_below hb2 (Nat.le_refl _) _)
  have HRA : Hid (StrRow w2 (w.heap.size + 3) a (.slice b2 a.length d2)) := hr2.base (by omega)
  have o1 := oW1.below hb2 (by omega)
  have o2 := oW2.below hb2 (by omega)
  have q0 := o2.cell 0
  have q1 := o2.cell 1
  have qf := fun o => o2.frozen o
  have r0 := o1.cell 0
  have r1 := o1.cell 1
  have rf := fun o => o1.frozen o
  have hz : w.heap.size + 3 ≤ w2.heap.size := by have := hb2.size; omega
  have hz1 : w.heap.size + 1 < w2.heap.size := by omega
  simp at q0 q1 r0 r1
  clear hb2 hr2 oW0 oW1 oW2 HRW HBW o1 o2
  go_wp2_with fail
  have HE : Hid (StrRow w2 (w.heap.size + 3) k (.slice b1 k.length d1) ∧ StrRow w2 (w.heap.size + 3) a (.slice b2 a.length d2)) := ⟨HRK.out, HRA.out⟩
  refine bodyPost_ret (v := .agg #[.slice b1 k.length d1, .slice b2 a.length d2]) (by simp [results, Try.results6, go_sem, q0, q1, r0, r1, hz1]) rfl ⟨_, _, rfl, ?_, ?_, ?_⟩
  · exact (HRK.out.keeps ((((Keeps.refl _ _).setCell (by simp) _).setCell (by simp) _).setCell (by simp) _)).base (by omega)
  · exact (HRA.out.keeps ((((Keeps.refl _ _).setCell (by simp) _).setCell (by simp) _).setCell (by simp) _)).base (by omega)
  · iterate 3 (refine Below.setCell ?_ (by simp <;> omega) _)
    exact HB2.out

theorem eqCache_any (k a : List ByteArray) (v va v' va' : Value) (w : World) (hk : StrRow w 0 k v) (ha : StrRow w 0 a va) (hk' : StrRow w 0 k v') (ha' : StrRow w 0 a va') :
    Calls Try.prog 8 #[.agg #[v, va], .agg #[v', va']] w fun e w' => e = .returned (.bool true) ∧ Below w.heap.size w w' := by
  obtain ⟨a1, c1, rfl, _, _⟩ := hk.len
  obtain ⟨a2, c2, rfl, _, _⟩ := ha.len
  obtain ⟨a3, c3, rfl, _, _⟩ := hk'.len
  obtain ⟨a4, c4, rfl, _, _⟩ := ha'.len
  have HK : Hid (∀ W, Keeps 0 w W → StrRow W 0 k (.slice a1 k.length c1) ∧ StrRow W 0 a (.slice a2 a.length c2) ∧ StrRow W 0 k (.slice a3 k.length c3) ∧ StrRow W 0 a (.slice a4 a.length c4)) := fun W h => ⟨hk.keeps h, ha.keeps h, hk'.keeps h, ha'.keeps h⟩
  clear hk ha hk' ha'
  go_enter Try.func8, Try.ntmps8
  go_wp2_with fail
  have HK2 := HK.out _ (((Keeps.refl 0 w).alloc (.cells #[.slice a1 k.length c1, .slice a2 a.length c2] 27)).alloc (.cells #[.slice a3 k.length c3, .slice a4 a.length c4] 27))
  refine (eqStringS_any k _ _ _ HK2.1 HK2.2.2.1).mono ?_
  rintro e w1 ⟨rfl, hb1⟩
  have HB1 : Hid (Below w.heap.size w w1) := (((Below.refl _ _).alloc (Nat.le_refl _) _).alloc (by simp) _).trans (hb1.mono (by simp; omega))
  have o0 : Owns w1 w.heap.size #[.slice a1 k.length c1, .slice a2 a.length c2] 27 := ((Owns.made w _ _).below ((Below.refl _ _).alloc (Nat.le_refl _) _) (by simp)).below hb1 (by simp; omega)
  have o1 : Owns w1 (w.heap.size + 1) #[.slice a3 k.length c3, .slice a4 a.length c4] 27 := by
    have := (Owns.made (w.alloc (.cells #[.slice a1 k.length c1, .slice a2 a.length c2] 27)) #[.slice a3 k.length c3, .slice a4 a.length c4] 27).below hb1 (by simp)
    simpa using this
  have p1 := o0.cell 1
  have q1 := o1.cell 1
  simp at p1 q1
  clear hb1 HK2
  go_wp2_with fail
  have HK3 := HK.out _ (Keeps.of_below HB1.out (Nat.le_refl _) _)
  refine (eqStringS_any a _ _ _ HK3.2.1 HK3.2.2.2).mono ?_
  rintro e w2 ⟨rfl, hb2⟩
  have HB2 : Hid (Below w.heap.size w w2) := HB1.out.trans (hb2.mono HB1.out.size)
  clear hb2 HK3
  go_wp2_with fail
  go_ret
  exact ⟨rfl, HB2.out⟩

set_option maxHeartbeats 1000000 in
theorem specCacheOk_any (k a : List ByteArray) (v va : Value) (w : World) (hk : StrRow w 0 k v) (ha : StrRow w 0 a va) :
    Calls Try.prog 5 #[.agg #[v, va]] w fun e w' => e = .returned (.bool (okK k a)) ∧ Below w.heap.size w w' := by
  obtain ⟨a1, c1, rfl, _, hrest⟩ := hk.len
  obtain ⟨a2, c2, rfl, _, _⟩ := ha.len
  have hlen : (k.length : Int) ≤ 140737488351232 := by omega
  clear hk ha
  go_enter Try.func5, Try.ntmps5
  go_wp2_with fail
  go_loopw [3] (fun i wr => ∃ j : Nat, j ≤ k.length ∧ i = .int .i64 j ∧ Hid (distP k j = true) ∧ Hid (Owns wr w.heap.size #[.slice a1 k.length c1, .slice a2 a.length c2] 27) ∧ Hid (Below w.heap.size w wr)) (fun i _ => k.length - (intOf i).toNat)
  case atStart => exact ⟨0, Nat.zero_le _, rfl, rfl, Owns.made w _ _, (Below.refl _ _).alloc (Nat.le_refl _) _⟩
  case round =>
    obtain ⟨j, hj, rfl, HD, HO, HB⟩ := hrel
    by_cases hlt : j < k.length
    · have hlti : (j : Int) < (k.length : Int) := by omega
      have hr2 := hrest
      obtain ⟨b, off, rfl, _, hcs⟩ := hr2 (List.ne_nil_of_length_pos (by omega))
      have o0 := HO.out.cell 0
      simp at o0
      go_wp2_with fail
      clear o0
      go_loopw [4] (fun i wi => ∃ m : Nat, m ≤ j ∧ i = .int .i64 m ∧ Hid (hasB (k.take m) k[j] = false) ∧ Hid (Owns wi w.heap.size #[.slice (some ⟨b, off, none⟩) k.length c1, .slice a2 a.length c2] 27) ∧ Hid (Below w.heap.size w wi)) (fun i _ => j - (intOf i).toNat)
      case atStart => exact ⟨0, Nat.zero_le _, rfl, rfl, HO, HB⟩
      case round =>
        obtain ⟨m, hm, rfl, HH, HOi, HBi⟩ := hrel
        by_cases hmj : m < j
        · have hmji : (m : Int) < (j : Int) := by omega
          have hmk : (m : Int) < (k.length : Int) := by omega
          have hmkn : m < k.length := by omega
          obtain ⟨x0, _⟩ := hcs j hlt
          obtain ⟨y0, _⟩ := hcs m hmkn
          have hk : Keeps 0 w wr := Keeps.of_below HBi.out (Nat.le_refl _) _
          have cj := hk.cell (p := ⟨b, off + j, none⟩) (Nat.zero_le _) x0
          have cm := hk.cell (p := ⟨b, off + m, none⟩) (Nat.zero_le _) y0
          have o0 := HOi.out.cell 0
          simp at o0
          clear hcs hrest x0 y0 hk
          cases he : (k[m].toList == k[j].toList)
          · have HN : Hid (hasB (k.take (m + 1)) k[j] = false) := by show _ = _; rw [hasB_snoc hmkn, HH.out, he]; rfl
            have HO2 : Hid (Owns wr.drew w.heap.size #[.slice (some ⟨b, off, none⟩) k.length c1, .slice a2 a.length c2] 27) := HOi.out
            have HB2 : Hid (Below w.heap.size w wr.drew) := HBi.out.drew
            clear HH
            go_wp2_with fail
            go_region_with (fail)
            all_goals
              go_wp2_with fail
              exact ⟨⟨m + 1, by omega, by go_num, HN, HO2, HB2⟩, by simp [intOf]; omega⟩
          · have HF : Hid (okK k a = false) := by
              show _ = _
              have h1 : distP k (j + 1) = false := by rw [distP_step hlt, hasB_at hmkn hmj he]; simp
              rw [okK, distP_down (by omega) h1]
              rfl
            have HB2 : Hid (Below w.heap.size w wr.drew) := HBi.out.drew
            clear HH
            go_wp2_with fail
            go_region_with (fail)
            all_goals
              go_wp2_with fail
              go_ret
              exact ⟨ret_bool HF.out.symm, HB2.out⟩
        · obtain rfl : m = j := by omega
          have HN : Hid (distP k (m + 1) = true) := by show _ = _; rw [distP_step hlt, HD.out, HH.out]; rfl
          clear HD HH HO HB hcs
          go_wp2_with fail
          exact ⟨⟨m + 1, by omega, by go_num, HN, HOi, HBi⟩, by simp [intOf]; omega⟩
    · obtain rfl : j = k.length := by omega
      have o0 := HO.out.cell 0
      have o1 := HO.out.cell 1
      simp at o0 o1
      have HK : Hid (okK k a = (decide (k.length = a.length) && decide (k.length ≤ 4))) := by show _ = _; rw [okK, HD.out]; rfl
      clear hrest HD
      by_cases h1 : k.length = a.length
      · by_cases h2 : k.length ≤ 4
        · have HR : Hid (okK k a = true) := by show _ = _; rw [HK.out]; simp [h1]; omega
          have e1 : ((k.length : Int) == (a.length : Int)) = true := by simp; omega
          have e2 : decide ((k.length : Int) ≤ 4) = true := by simp; omega
          clear HK h1
          go_wp2_with fail
          go_ret
          exact ⟨ret_bool HR.out.symm, HB.out⟩
        · have HR : Hid (okK k a = false) := by show _ = _; rw [HK.out]; simp; omega
          have e1 : ((k.length : Int) == (a.length : Int)) = true := by simp; omega
          have e2 : decide ((k.length : Int) ≤ 4) = false := by simp; omega
          clear HK h1
          go_wp2_with fail
          go_ret
          exact ⟨ret_bool HR.out.symm, HB.out⟩
      · have HR : Hid (okK k a = false) := by show _ = _; rw [HK.out]; simp [h1]
        have e1 : ((k.length : Int) == (a.length : Int)) = false := by simp; omega
        clear HK h1
        go_wp2_with fail
        go_ret
        exact ⟨ret_bool HR.out.symm, HB.out⟩

end Go.Proofs.Ytkogdlncjciboaa
