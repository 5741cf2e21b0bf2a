
/-
  DERIVED. DOCUMENTS THAT ARE SAVED: the walks of impl.SavedDrop, spec.SavedDrop.
-/
import Derived.Test.YtkogdlncjciboaaDoorSdB
import Derived.Laws.AppendOwn
import Derived.BigRegion
namespace Go.Proofs.YtkogdlncjciboaaDoor
open Go.RowKit
set_option linter.unusedVariables false
set_option linter.unusedSimpArgs false

/-- Whether fewer are left. -/
def fewS (l : List ByteArray) (sum : ByteArray) : Bool := decide ((dropS l sum).length < l.length)
theorem few_int (l : List ByteArray) (sum : ByteArray) : decide (((dropS l sum).length : Int) < (l.length : Int)) = fewS l sum := by
  unfold fewS
  rw [Bool.eq_iff_iff]
  simp

set_option maxHeartbeats 2000000 in
theorem implSavedDrop_any (l : List ByteArray) (v : Value) (sum : ByteArray) (w : World) (hrow : StrRow w 0 l v) (hk : KTab w) (hl : ∀ t ∈ l, t.size ≤ 67108864) :
    Calls Tryd.prog 16 #[.agg #[v], .string sum] w fun e w' => ∃ v', e = .returned (.tuple #[.agg #[v'], .bool (fewS l sum)]) ∧ TxO w' (dropS l sum) v' ∧ (∀ b, At v' b → w.heap.size ≤ b) ∧ Below w.heap.size w w' := by
  obtain ⟨a1, c1, rfl, _, _⟩ := hrow.len
  have hlen : (l.length : Int) ≤ 140737488351232 := by omega
  have HR : Hid (∀ W, Keeps 0 w W → StrRow W 0 l (.slice a1 l.length c1)) := fun W h => hrow.keeps h
  have HZ : Hid (∀ t ∈ l, t.size ≤ 67108864) := hl
  have HK : Hid (KTab w) := hk
  have h0 : 0 < w.heap.size := cell_lt (hk 0 (by omega))
  have HF : Hid (decide (((dropS l sum).length : Int) < (l.length : Int)) = fewS l sum) := few_int l sum
  clear hrow hk hl
  go_enter Tryd.func16, Tryd.ntmps16
  go_wp2_with fail
  have HB0 : Below w.heap.size w (((w.alloc (.cells #[.slice a1 l.length c1] 33)).alloc (.cells #[.string sum] 9)).alloc (.cells #[.slice none 0 0] 33)) := (((Below.refl _ _).alloc (Nat.le_refl _) _).alloc (by simp) _).alloc (by simp; omega) _
  refine (clone_any l _ _ (HR.out _ (Keeps.of_below HB0 (Nat.le_refl _) 0))).mono ?_
  rintro e w1 ⟨v1, rfl, hto, hat, hb1⟩
  have HB1 : Hid (Below w.heap.size w w1) := HB0.trans (hb1.mono (by simp; omega))
  rw [szA3] at hat
  have o0 : Owns w1 w.heap.size #[.slice a1 l.length c1] 33 := (((Owns.made w _ _).below ((Below.refl _ _).alloc (Nat.le_refl _) _) (by simp)).below ((Below.refl _ _).alloc (Nat.le_refl _) _) (by simp; omega)).below hb1 (by simp; omega)
  have o1 : Owns w1 (w.heap.size + 1) #[.string sum] 9 := by
    have := ((Owns.made (w.alloc (.cells #[.slice a1 l.length c1] 33)) #[.string sum] 9).below ((Below.refl _ _).alloc (Nat.le_refl _) (.cells #[.slice none 0 0] 33)) (by simp)).below hb1 (by simp)
    simpa using this
  have o2 : Owns w1 (w.heap.size + 1 + 1) #[.slice none 0 0] 33 := by
    have := (Owns.made ((w.alloc (.cells #[.slice a1 l.length c1] 33)).alloc (.cells #[.string sum] 9)) #[.slice none 0 0] 33).below hb1 (by simp)
    simpa using this
  have HO : Hid (Owns w1 w.heap.size #[.slice a1 l.length c1] 33 ∧ Owns w1 (w.heap.size + 1) #[.string sum] 9 ∧ Owns w1 (w.heap.size + 1 + 1) #[.slice none 0 0] 33) := ⟨o0, o1, o2⟩
  have HT : Hid (TxO w1 l v1) := hto
  have HA : Hid (∀ b, At v1 b → w.heap.size + 3 ≤ b) := hat
  have k1 := o1.cell 0
  simp at k1
  clear o0 o1 o2 hto hat hb1 HB0
  go_wp2_with fail
  refine (deleteFunc_any l v1 sum (w.heap.size + 1) w1 HT.out (fun b hb => by have := HA.out b hb; omega) k1 (HK.out.on HB1.out) HZ.out).mono ?_
  rintro e w2 ⟨v2, rfl, hto2, hat2, hT2⟩
  obtain ⟨a2, c2, rfl, _⟩ := hto2.len
  have HB2 : Hid (Below w.heap.size w w2) := hT2.below HB1.out (fun b hb => by have := HA.out b hb; omega) HB1.out.size
  have p0 : w2.cell? ⟨w.heap.size, 0, none⟩ = some (.slice a1 l.length c1) := hT2.cell (fun hb => by have := HA.out _ hb; simp at this; omega) (by rw [HO.out.1.cell]; rfl)
  have p2 : w2.cell? ⟨w.heap.size + 1 + 1, 0, none⟩ = some (.slice none 0 0) := hT2.cell (fun hb => by have := HA.out _ hb; simp at this; omega) (by rw [HO.out.2.2.cell]; rfl)
  have o2 : Owns w2 (w.heap.size + 1 + 1) #[.slice none 0 0] 33 := HO.out.2.2.same (hT2.block _ HO.out.2.2.lt (fun hb => by have := HA.out _ hb; omega))
  have f2 := fun o => o2.frozen o
  have hz2 := o2.lt
  have HT2 : Hid (TxO w2 (dropS l sum) (.slice a2 (dropS l sum).length c2)) := hto2
  have HA2 : Hid (∀ b, At (.slice a2 (dropS l sum).length c2) b → w.heap.size + 3 ≤ b) := fun b hb => HA.out b (hat2 b hb)
  clear hto2 hat2 hT2 HT HA HO k1 HB1 o2
  go_wp2_with fail
  go_region
  all_goals
    go_wp2_with fail
    refine bodyPost_ret (v := .tuple #[.agg #[.slice a2 (dropS l sum).length c2], .bool (fewS l sum)]) (by simp [results, Tryd.results16, go_sem, p2, hz2, fewS]) rfl ⟨_, rfl, ?_, ?_, ?_⟩
    · exact HT2.out.same fun b hb => by have := HA2.out b hb; exact Below.heap_setCell _ _ _ _ (by show b ≠ w.heap.size + 1 + 1; omega)
    · exact fun b hb => by have := HA2.out b hb; omega
    · have hb := Below.setCell HB2.out (p := ⟨w.heap.size + 1 + 1, 0, none⟩) (by show w.heap.size ≤ w.heap.size + 1 + 1; omega) (.slice a2 (dropS l sum).length c2)
      exact ⟨hb.os, hb.tape, hb.output, hb.size, hb.block⟩

/-- A row of texts while it grows. -/
def NS (B : Nat) (w : World) (g cp : Nat) (l : List ByteArray) : Prop := w.ownsRow B 9 1 (.slice (some ⟨g, 0, none⟩) l.length cp) l.length (l.map Value.string)
theorem NS.same {B g cp : Nat} {w w' : World} {l : List ByteArray} (h : NS B w g cp l) (hs : w'.heap[g]? = w.heap[g]?) : NS B w' g cp l := by
  refine ⟨h.1, ?_⟩
  rcases h.2 with q | ⟨g', cap, cur, q1, q2, q3, q4⟩
  · exact Or.inl q
  · obtain rfl : g' = g := by
      simp only [Value.slice.injEq, Option.some.injEq, Addr.mk.injEq, and_true] at q1
      exact q1.1.symm
    exact Or.inr ⟨g', cap, cur, q1, q2, by rw [hs]; exact q3, q4⟩

set_option maxHeartbeats 4000000 in
theorem specSavedDrop_any (l : List ByteArray) (v : Value) (sum : ByteArray) (w : World) (hrow : StrRow w 0 l v) (hl : ∀ t ∈ l, t.size ≤ 67108864) :
    Calls Tryd.prog 15 #[.agg #[v], .string sum] w fun e w' => ∃ v', e = .returned (.tuple #[.agg #[v'], .bool (fewS l sum)]) ∧ StrRow w' 0 (dropS l sum) v' ∧ Below w.heap.size w w' := by
  obtain ⟨i0, hi0, hz0, hz1, hz2⟩ := info_string
  obtain ⟨a1, c1, rfl, h16, hrest⟩ := hrow.len
  have hlen : (l.length : Int) ≤ 140737488351232 := by omega
  have HZ : Hid (∀ t ∈ l, t.size ≤ 67108864) := hl
  have HF : Hid (decide (((dropS l sum).length : Int) < (l.length : Int)) = fewS l sum) := few_int l sum
  clear hrow hl
  go_enter Tryd.func15, Tryd.ntmps15
  go_wp2_with fail
  go_loopw [6, 7] (fun sv i wr => ∃ (j g cp : Nat) (m : List ByteArray), j ≤ l.length ∧ i = .int .i64 j ∧ sv = .slice (some ⟨g, 0, none⟩) m.length cp ∧ m.length ≤ j ∧ Hid (m = dropS (l.take j) sum) ∧ Hid (NS (w.heap.size + 2) wr g cp m) ∧ Hid (Owns wr w.heap.size #[.slice a1 l.length c1] 33 ∧ Owns wr (w.heap.size + 1) #[.slice none 0 0] 33) ∧ Hid (Below w.heap.size w wr)) (fun _ i _ => l.length - (intOf i).toNat)
  case atStart =>
    refine ⟨0, w.heap.size + 2, 0, [], Nat.zero_le _, rfl, by simp, Nat.zero_le _, rfl, ?_, ⟨?_, ?_⟩, (((Below.refl _ _).alloc (Nat.le_refl _) _).alloc (by simp) _).alloc (by simp; omega) _⟩
    · have h := World.ownsRow_made (base := w.heap.size + 2) (e := 9) (size := 1) ((w.alloc (.cells #[.slice a1 l.length c1] 33)).alloc (.cells #[.slice none 0 0] 33)) #[] 0 (by simp) (Nat.zero_le _) rfl
      have e : ((w.alloc (.cells #[.slice a1 l.length c1] 33)).alloc (.cells #[.slice none 0 0] 33)).heap.size = w.heap.size + 2 := by simp
      rw [e] at h
      exact h
    · exact ((Owns.made w _ _).below ((Below.refl _ _).alloc (Nat.le_refl _) _) (by simp)).below ((Below.refl _ _).alloc (Nat.le_refl _) _) (by simp; omega)
    · have := (Owns.made (w.alloc (.cells #[.slice a1 l.length c1] 33)) #[.slice none 0 0] 33).below ((Below.refl _ _).alloc (Nat.le_refl _) (.cells #[] 9)) (by simp)
      simpa using this
  case round =>
    obtain ⟨j, g, cp, m, hj, rfl, rfl, hmj, HM, HN, HO, HB⟩ := hrel
    have o0 := HO.out.1.cell 0
    simp at o0
    by_cases hlt : j < l.length
    · have hlti : (j : Int) < (l.length : Int) := by omega
      obtain ⟨b, off, rfl, _, hcs⟩ := hrest (List.ne_nil_of_length_pos (by omega))
      obtain ⟨x0, _⟩ := hcs j hlt
      have cj := (Keeps.of_below HB.out (Nat.le_refl _) 0).cell (p := ⟨b, off + j, none⟩) (Nat.zero_le _) x0
      have hz := HZ.out l[j] (List.getElem_mem hlt)
      obtain ⟨t, ht⟩ : ∃ t, l[j] = t := ⟨_, rfl⟩
      rw [ht] at cj hz
      have HT : Hid (l[j] = t) := ht
      clear hcs x0 ht
      go_wp2_with fail
      refine (specDocSum_any t wr hz).mono ?_
      rintro e w1 ⟨rfl, hb1⟩
      have HB1 : Hid (Below w.heap.size w w1) := HB.out.trans (hb1.mono HB.out.size)
      have HO1 : Hid (Owns w1 w.heap.size #[.slice (some ⟨b, off, none⟩) l.length c1] 33 ∧ Owns w1 (w.heap.size + 1) #[.slice none 0 0] 33) := ⟨HO.out.1.below hb1 HO.out.1.lt, HO.out.2.below hb1 HO.out.2.lt⟩
      have HN1 : Hid (NS (w.heap.size + 2) w1 g cp m) := HN.out.same (hb1.block g (World.ownsRow.lt HN.out g rfl).2)
      have hs1 : w.heap.size + 2 ≤ w1.heap.size := by have h1 := (World.ownsRow.lt HN.out g rfl).1; have h2 := (World.ownsRow.lt HN.out g rfl).2; have := hb1.size; omega
      have o1 := HO1.out.1.cell 0
      simp at o1
      replace cj := cell_on hb1 cj
      clear hb1 HB HO o0 HN
      cases he : hitS sum t
      · have HM2 : Hid (m ++ [t] = dropS (l.take (j + 1)) sum) := by show _ = _; rw [dropS_snoc hlt, HT.out, he, HM.out]; rfl
        have he' : ((docSum t).toList == sum.toList) = false := he
        clear he HM
        go_wp2_with (at_builtin; refine wpList_append_own _ rfl _ _ 27 rfl (w.heap.size + 2) 9 i0 (.string ByteArray.empty) 1 16 Tryd.underlying27 hi0 hz0 hz1 hz2 rfl (by decide) _ _ _ rfl (World.ownsRow.alloc HN1.out _) ⟨w1.heap.size, 0, none⟩ 1 1 [.string t] rfl rfl (World.news_of_block (cs := #[.string t]) (t := 9) (fr := (0, 0)) (heap_alloc_new w1 _)) (by simp [Value.oneCell']) (by unfold maxLen; omega) (by omega) (by simp; omega) ?_)
        intro v' w4 hown hgrow hnn
        have HN4 : ∃ g' cp', v' = .slice (some ⟨g', 0, none⟩) (m ++ [t]).length cp' ∧ NS (w.heap.size + 2) w4 g' cp' (m ++ [t]) := by
          obtain ⟨h1, h2⟩ := hown
          rcases h2 with ⟨e, e0⟩ | ⟨g', cp', cur, rfl, h3⟩
          · omega
          · exact ⟨g', cp', by simp, by rw [NS, List.length_append, List.map_append]; exact ⟨by simp, Or.inr ⟨g', cp', cur, rfl, h3⟩⟩⟩
        obtain ⟨g', cp', rfl, hN4⟩ := HN4
        have HN4 : Hid (NS (w.heap.size + 2) w4 g' cp' (m ++ [t])) := hN4
        have hB4 : Below (w.heap.size + 2) w1 w4 := ((Below.refl _ _).alloc hs1 _).grown hgrow (by simp; omega) (fun k hk => (World.ownsRow.lt HN1.out k hk).1)
        have HB4 : Hid (Below w.heap.size w w4) := HB1.out.trans (hB4.mono (by omega))
        have HO4 : Hid (Owns w4 w.heap.size #[.slice (some ⟨b, off, none⟩) l.length c1] 33 ∧ Owns w4 (w.heap.size + 1) #[.slice none 0 0] 33) := ⟨HO1.out.1.below hB4 (by omega), HO1.out.2.below hB4 (by omega)⟩
        have HLL : Hid (m.length + 1 = (m ++ [t]).length) := by show _ = _; simp
        clear hown hgrow hnn hN4 hB4 HN1 HB1 HO1
        go_wp2_with fail
        exact ⟨⟨j + 1, g', cp', m ++ [t], by omega, by go_num, rfl, by simp; omega, HM2, HN4, HO4, HB4⟩, by simp [intOf]; omega⟩
      · have HM2 : Hid (m = dropS (l.take (j + 1)) sum) := by show _ = _; rw [dropS_snoc hlt, HT.out, he, HM.out]; simp
        have he' : ((docSum t).toList == sum.toList) = true := he
        clear he HM
        go_wp2_with fail
        exact ⟨⟨j + 1, g, cp, m, by omega, by go_num, rfl, by omega, HM2, HN1, HO1, HB1⟩, by simp [intOf]; omega⟩
    · obtain rfl : j = l.length := by omega
      have hme : m = dropS l sum := by have h := HM.out; rw [List.take_length] at h; exact h
      subst hme
      have p1 := HO.out.2.cell 0
      have f1 := fun o => HO.out.2.frozen o
      have hzz := HO.out.2.lt
      simp at p1
      have HTX : Hid (TxO wr (dropS l sum) (.slice (some ⟨g, 0, none⟩) (dropS l sum).length cp) ∧ ∀ b, At (.slice (some ⟨g, 0, none⟩) (dropS l sum).length cp) b → w.heap.size + 2 ≤ b) :=
        TxO.of_row HN.out rfl (by have := dropS_le l sum; omega) (fun i hi => by
          have h1 : (dropS l sum)[i] ∈ dropS l sum := List.getElem_mem hi
          have h2 := HZ.out _ (List.mem_filter.1 h1).1
          omega)
      clear HM HN HO hrest hlt
      go_wp2_with fail
      go_region
      all_goals
        go_wp2_with fail
        refine bodyPost_ret (v := .tuple #[.agg #[.slice (some ⟨g, 0, none⟩) (dropS l sum).length cp], .bool (fewS l sum)]) (by simp [results, Tryd.results15, go_sem, p1, hzz, fewS]) rfl ⟨_, rfl, ?_, ?_⟩
        · exact (HTX.out.1.same fun b hb => by have := HTX.out.2 b hb; exact Below.heap_setCell _ _ _ _ (by show b ≠ w.heap.size + 1; omega)).row
        · have hb := Below.setCell HB.out (p := ⟨w.heap.size + 1, 0, none⟩) (by show w.heap.size ≤ w.heap.size + 1; omega) (.slice (some ⟨g, 0, none⟩) (dropS l sum).length cp)
          exact ⟨hb.os, hb.tape, hb.output, hb.size, hb.block⟩

end Go.Proofs.YtkogdlncjciboaaDoor
