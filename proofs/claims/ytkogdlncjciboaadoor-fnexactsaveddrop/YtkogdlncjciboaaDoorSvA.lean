
/-
  DERIVED. DOCUMENTS THAT ARE SAVED (a struct of one []string): how great, copied, compared; which is found by its sum.
-/
import Derived.Test.YtkogdlncjciboaaDoorSiG
import Derived.Test.YtkogdlncjciboaaDoorStrW
import Derived.Test.YtkogdlncjciboaaDoorNames
namespace Go.Proofs.YtkogdlncjciboaaDoor
open Go.RowKit
set_option linter.unusedVariables false
set_option linter.unusedSimpArgs false

def szX : List ByteArray → Nat
  | [] => 0
  | s :: r => s.size + 1 + szX r
theorem szX_append (a b : List ByteArray) : szX (a ++ b) = szX a + szX b := by
  induction a with
  | nil => simp [szX]
  | cons s r ih => simp [szX, ih]; omega
theorem szX_snoc {l : List ByteArray} {j : Nat} (h : j < l.length) : szX (l.take (j + 1)) = szX (l.take j) + l[j].size + 1 := by
  rw [List.take_succ_eq_append_getElem h, szX_append]
  simp [szX]; omega
theorem szX_mem {l : List ByteArray} {t : ByteArray} (h : t ∈ l) : t.size ≤ szX l := by
  induction l with
  | nil => cases h
  | cons x r ih =>
    simp only [szX]
    rcases List.mem_cons.1 h with rfl | h
    · omega
    · have := ih h
      omega

set_option maxHeartbeats 400000 in
/-- Texts that are not too great together. -/
theorem szStringS_szX (l : List ByteArray) (v : Value) (left : Int) (w : World) (hrow : StrRow w 0 l v) (h0 : 0 ≤ left) (h1 : left ≤ 1048576) :
    Calls Tryd.prog 27 #[v, .int .i64 left] w fun e w' => ∃ r : Int, e = .returned (.int .i64 r) ∧ -1 ≤ r ∧ r ≤ left ∧ (0 ≤ r → (szX l : Int) + r = left) ∧ Below w.heap.size w w' := by
  obtain ⟨a, cap, rfl, hw, hrest⟩ := hrow.len
  have hlen : (l.length : Int) ≤ 140737488351232 := by omega
  clear hrow
  by_cases hneg : left - (l.length : Int) < 0
  · go_enter Tryd.func27, Tryd.ntmps27
    go_wp2_with fail
    go_ret
    exact ⟨_, rfl, by omega, by omega, by omega, Below.refl _ _⟩
  · go_enter Tryd.func27, Tryd.ntmps27
    go_wp2_with fail
    go_loop [1, 5] (fun lf i => ∃ (j : Nat) (r : Int), j ≤ l.length ∧ i = .int .i64 j ∧ lf = .int .i64 r ∧ 0 ≤ r ∧ r ≤ left - (l.length : Int) ∧ Hid ((szX (l.take j) : Int) + r = left - (l.length : Int) + (j : Int))) (fun _ i => l.length - (intOf i).toNat)
    case atStart => exact ⟨0, _, Nat.zero_le _, rfl, rfl, by omega, by omega, by show _ = _; simp [szX]⟩
    case round =>
      obtain ⟨j, r, hj, rfl, rfl, hr0, hr1, HS⟩ := hrel
      by_cases hlt : j < l.length
      · obtain ⟨b, off, rfl, _, hcs⟩ := hrest (List.ne_nil_of_length_pos (by omega))
        obtain ⟨c0, hs⟩ := hcs j hlt
        have HSN : Hid (szX (l.take (j + 1)) = szX (l.take j) + l[j].size + 1) := szX_snoc hlt
        clear hcs hrest
        by_cases hn : r - (l[j].size : Int) < 0
        · go_wp2_with fail
          go_ret
          exact ⟨_, rfl, by omega, by omega, by omega, Below.refl _ _⟩
        · go_wp2_with fail
          refine ⟨⟨j + 1, _, by omega, by go_num, rfl, by omega, by omega, ?_⟩, by simp [intOf]; omega⟩
          show (_ : Int) = _
          have h1 := HS.out
          have h2 := HSN.out
          omega
      · obtain rfl : j = l.length := by omega
        have HS2 : Hid ((szX l : Int) + r = left) := by have := HS.out; rw [List.take_length] at this; show _ = _; omega
        clear HS
        go_wp2_with fail
        go_ret
        exact ⟨_, rfl, by omega, by omega, (fun _ => HS2.out), Below.refl _ _⟩


theorem szSaved_any (l : List ByteArray) (v : Value) (left : Int) (w : World) (hrow : StrRow w 0 l v) (h0 : 0 ≤ left) (h1 : left ≤ 1048576) :
    Calls Tryd.prog 10 #[.agg #[v], .int .i64 left] w fun e w' => ∃ r : Int, e = .returned (.int .i64 r) ∧ -1 ≤ r ∧ r ≤ left ∧ (0 ≤ r → (szX l : Int) ≤ left) ∧ Below w.heap.size w w' := by
  obtain ⟨a1, c1, rfl, _, _⟩ := hrow.len
  have HR : Hid (∀ W, Keeps 0 w W → StrRow W 0 l (.slice a1 l.length c1)) := fun W h => hrow.keeps h
  clear hrow
  go_enter Tryd.func10, Tryd.ntmps10
  go_wp2_with fail
  refine (szStringS_szX l _ _ _ (HR.out _ ((Keeps.refl _ _).alloc _)) h0 h1).mono ?_
  rintro e w1 ⟨r1, rfl, hr1, hr2, hr3, hb1⟩
  have HB1 : Hid (Below w.heap.size w w1) := ((Below.refl _ _).alloc (Nat.le_refl _) _).trans (hb1.mono (by simp))
  have HR3 : Hid (0 ≤ r1 → (szX l : Int) + r1 = left) := hr3
  clear hb1 hr3
  by_cases hneg : r1 < 0
  · go_wp2_with fail
    go_ret
    exact ⟨_, rfl, by omega, by omega, by omega, HB1.out⟩
  · go_wp2_with fail
    go_ret
    exact ⟨_, rfl, by omega, by omega, fun h => by have := HR3.out h; omega, HB1.out⟩

theorem szA3 (w : World) (a b c : Obj) : (((w.alloc a).alloc b).alloc c).heap.size = w.heap.size + 3 := by simp

set_option maxHeartbeats 1000000 in
theorem toSaved_any (l : List ByteArray) (v : Value) (w : World) (hrow : StrRow w 0 l v) :
    Calls Tryd.prog 12 #[.agg #[v]] w fun e w' => ∃ v', e = .returned (.agg #[v']) ∧ StrRow w' w.heap.size l v' ∧ Below w.heap.size w w' := by
  obtain ⟨a1, c1, rfl, _, _⟩ := hrow.len
  have HK : Hid (∀ W, Keeps 0 w W → StrRow W 0 l (.slice a1 l.length c1)) := fun W h => hrow.keeps h
  clear hrow
  go_enter Tryd.func12, Tryd.ntmps12
  go_wp2_with fail
  refine (toStringS_any l _ _ (HK.out _ ((((Keeps.refl _ _).alloc _).alloc _).alloc _))).mono ?_
  rintro e w1 ⟨v1, rfl, hr1, hb1⟩
  obtain ⟨b1, d1, rfl, _, _⟩ := hr1.len
  rw [szA3] at hr1
  have HR1 : Hid (StrRow w1 (w.heap.size + 3) l (.slice b1 l.length d1)) := hr1
  have HB1 : Hid (Below w.heap.size w w1) := ((((Below.refl _ _).alloc (Nat.le_refl _) _).alloc (by simp) _).alloc (by simp; omega) _).trans (hb1.mono (by simp; omega))
  have o1 : Owns w1 (w.heap.size + 1) #[.slice none 0 0] 33 := by
    have := ((Owns.made (w.alloc (.cells #[.slice a1 l.length c1] 29)) #[.slice none 0 0] 33).below ((Below.refl _ _).alloc (Nat.le_refl _) (.cells #[.slice none 0 0] 33)) (by simp)).below hb1 (by simp)
    simpa using this
  have o2 : Owns w1 (w.heap.size + 1 + 1) #[.slice none 0 0] 33 := by
    have := (Owns.made ((w.alloc (.cells #[.slice a1 l.length c1] 29)).alloc (.cells #[.slice none 0 0] 33)) #[.slice none 0 0] 33).below hb1 (by simp)
    simpa using this
  have q0 := o2.cell 0
  have qf := fun o => o2.frozen o
  have r0 := o1.cell 0
  have rf := fun o => o1.frozen o
  simp at q0 r0
  have hz : w.heap.size + 3 ≤ w1.heap.size := by have := hb1.size; simp at this; omega
  have hz1 : w.heap.size + 1 < w1.heap.size := by omega
  clear hb1 hr1 o1 o2
  go_wp2_with fail
  refine bodyPost_ret (v := .agg #[.slice b1 l.length d1]) (by simp [results, Tryd.results12, go_sem, q0, r0, hz1]) rfl ⟨_, rfl, ?_, ?_⟩
  · exact (HR1.out.keeps (((Keeps.refl _ _).setCell (by simp) _).setCell (by simp) _)).base (by omega)
  · iterate 2 (refine Below.setCell ?_ (by simp <;> omega) _)
    exact HB1.out

theorem eqSaved_any (l : List ByteArray) (v v' : Value) (w : World) (h1 : StrRow w 0 l v) (h2 : StrRow w 0 l v') :
    Calls Tryd.prog 14 #[.agg #[v], .agg #[v']] w fun e w' => e = .returned (.bool true) ∧ Below w.heap.size w w' := by
  obtain ⟨a1, c1, rfl, _, _⟩ := h1.len
  obtain ⟨a2, c2, rfl, _, _⟩ := h2.len
  have HK : Hid (∀ W, Keeps 0 w W → StrRow W 0 l (.slice a1 l.length c1) ∧ StrRow W 0 l (.slice a2 l.length c2)) := fun W h => ⟨h1.keeps h, h2.keeps h⟩
  clear h1 h2
  go_enter Tryd.func14, Tryd.ntmps14
  go_wp2_with fail
  have HK2 := HK.out _ (((Keeps.refl 0 w).alloc (.cells #[.slice a1 l.length c1] 33)).alloc (.cells #[.slice a2 l.length c2] 33))
  refine (eqStringS_any l _ _ _ HK2.1 HK2.2).mono ?_
  rintro e w1 ⟨rfl, hb1⟩
  have HB1 : Hid (Below w.heap.size w w1) := (((Below.refl _ _).alloc (Nat.le_refl _) _).alloc (by simp) _).trans (hb1.mono (by simp; omega))
  clear hb1 HK2
  go_wp2_with fail
  go_ret
  exact ⟨rfl, HB1.out⟩

/-- Whether a text is the one of that sum. -/
def hitS (sum t : ByteArray) : Bool := (docSum t).toList == sum.toList
/-- The first text of that sum. -/
def getS (l : List ByteArray) (sum : ByteArray) : Option ByteArray := l.find? (hitS sum)
theorem getS_snoc {l : List ByteArray} {sum : ByteArray} {j : Nat} (h : j < l.length) (h1 : getS (l.take j) sum = none) (h2 : hitS sum l[j] = false) : getS (l.take (j + 1)) sum = none := by
  unfold getS at *
  rw [List.take_succ_eq_append_getElem h, List.find?_append, h1]
  simp [h2]
theorem getS_at {l : List ByteArray} {sum : ByteArray} {j : Nat} (h : j < l.length) (h1 : getS (l.take j) sum = none) (h2 : hitS sum l[j] = true) : getS l sum = some l[j] := by
  unfold getS at *
  conv => lhs; rw [← List.take_append_drop j l]
  rw [List.find?_append, h1, Option.none_or, List.drop_eq_getElem_cons h, List.find?_cons, h2]
/-- What is told of it. -/
def toldS (o : Option ByteArray) : Value := .tuple #[.string (o.getD ByteArray.empty), .bool o.isSome]

set_option maxHeartbeats 2000000 in
theorem specSavedGet_any (l : List ByteArray) (v : Value) (sum : ByteArray) (w : World) (hrow : StrRow w 0 l v) (hl : ∀ t ∈ l, t.size ≤ 67108864) :
    Calls Tryd.prog 11 #[.agg #[v], .string sum] w fun e w' => e = .returned (toldS (getS l sum)) ∧ Below w.heap.size w w' := by
  obtain ⟨a1, c1, rfl, _, hrest⟩ := hrow.len
  have hlen : (l.length : Int) ≤ 140737488351232 := by omega
  have HZ : Hid (∀ t ∈ l, t.size ≤ 67108864) := hl
  clear hrow hl
  go_enter Tryd.func11, Tryd.ntmps11
  go_wp2_with fail
  go_loopw [6] (fun i wr => ∃ j : Nat, j ≤ l.length ∧ i = .int .i64 j ∧ Hid (getS (l.take j) sum = none) ∧ Hid (Owns wr w.heap.size #[.slice a1 l.length c1] 33) ∧ Hid (Below w.heap.size w wr)) (fun i _ => l.length - (intOf i).toNat)
  case atStart => exact ⟨0, Nat.zero_le _, rfl, rfl, Owns.made w _ _, (Below.refl _ _).alloc (Nat.le_refl _) _⟩
  case round =>
    obtain ⟨j, hj, rfl, HG, HO, HB⟩ := hrel
    have o0 := HO.out.cell 0
    simp at o0
    by_cases hlt : j < l.length
    · have hlti : (j : Int) < (l.length : Int) := by omega
      obtain ⟨b, off, rfl, _, hcs⟩ := hrest (List.ne_nil_of_length_pos (by omega))
      obtain ⟨x0, _⟩ := hcs j hlt
      have cj := (Keeps.of_below HB.out (Nat.le_refl _) 0).cell (p := ⟨b, off + j, none⟩) (Nat.zero_le _) x0
      have hz := HZ.out l[j] (List.getElem_mem hlt)
      obtain ⟨t, ht⟩ : ∃ t, l[j] = t := ⟨_, rfl⟩
      rw [ht] at cj hz
      have HT : Hid (l[j] = t) := ht
      clear hcs hrest x0 ht
      go_wp2_with fail
      refine (specDocSum_any t wr hz).mono ?_
      rintro e w1 ⟨rfl, hb1⟩
      have HB1 : Hid (Below w.heap.size w w1) := HB.out.trans (hb1.mono HB.out.size)
      have HO1 : Hid (Owns w1 w.heap.size #[.slice (some ⟨b, off, none⟩) l.length c1] 33) := HO.out.below hb1 HO.out.lt
      have o1 := HO1.out.cell 0
      simp at o1
      replace cj := cell_on hb1 cj
      clear hb1 HB HO o0
      cases he : hitS sum t
      · have HN : Hid (getS (l.take (j + 1)) sum = none) := getS_snoc hlt HG.out (by rw [HT.out]; exact he)
        have he' : ((docSum t).toList == sum.toList) = false := he
        clear he HG
        go_wp2_with fail
        exact ⟨⟨j + 1, by omega, by go_num, HN, HO1, HB1⟩, by simp [intOf]; omega⟩
      · have HF : Hid (getS l sum = some t) := by show _ = _; rw [getS_at hlt HG.out (by rw [HT.out]; exact he), HT.out]
        have he' : ((docSum t).toList == sum.toList) = true := he
        clear he HG
        go_wp2_with fail
        exact bodyPost_ret (v := toldS (some t)) (by simp [results, Tryd.results11, go_sem, toldS]) rfl ⟨by rw [HF.out], HB1.out⟩
    · obtain rfl : j = l.length := by omega
      have HF : Hid (getS l sum = none) := by have h := HG.out; rw [List.take_length] at h; exact h
      clear HG hrest
      go_wp2_with fail
      exact bodyPost_ret (v := toldS none) (by simp [results, Tryd.results11, go_sem, toldS]; rfl) rfl ⟨by rw [HF.out], HB.out⟩

end Go.Proofs.YtkogdlncjciboaaDoor
