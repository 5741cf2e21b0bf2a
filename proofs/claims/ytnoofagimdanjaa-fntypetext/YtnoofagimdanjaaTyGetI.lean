/-
  DERIVED. THE WALKS OF impl.readType, impl.TypeGet.
-/
import Derived.Test.YtnoofagimdanjaaTyGetS
import Derived.Test.YtnoofagimdanjaaTyOwn
namespace Go.Proofs.Ytnoofagimdanjaa
open Go.RowKit
set_option linter.unusedVariables false
set_option linter.unusedSimpArgs false

/-- What a reading of a type answers, and that it owns its memory. -/
def TyPostO (k : Nat) (o : Option Ty) (w : World) (e : Ending) (w' : World) : Prop :=
  (match o with
  | some t => ∃ a c, e = .returned (.tuple #[.agg #[.string t.name, .slice a t.of.length c, .bool t.must], .bool true]) ∧ TyR w' w.heap.size k t [.string t.name, .slice a t.of.length c, .bool t.must] ∧
      ∃ bs, bs.length ≤ k ∧ (∀ b ∈ bs, w.heap.size ≤ b) ∧ TyO 25 w' bs t [.string t.name, .slice a t.of.length c, .bool t.must]
  | none => e = .returned (.tuple #[.agg #[.string ByteArray.empty, .slice none 0 0, .bool false], .bool false])) ∧ Below w.heap.size w w'

def ReadI (d : Nat) : Prop := ∀ (s : ByteArray) (w : World), s.size ≤ 140737488351232 → Calls Try.prog 17 #[.string s, .int .i64 (d : Int)] w (TyPostO d (readL d s.data.toList) w)

theorem endOf_size (s : ByteArray) (c : UInt8) : (endOf s c).size ≤ s.size := by
  have h1 := len_toList (endOf s c)
  have h2 := len_toList s
  have h3 : (endOf s c).data.toList = (cutEnd s.data.toList c).1 := data_B _
  have h4 : (cutEnd s.data.toList c).1.length ≤ s.data.toList.length := by
    unfold cutEnd; split
    · simp
    · exact Nat.le_refl _
  rw [h3] at h1; omega
theorem headOf_size (s : ByteArray) (c : UInt8) : (headOf s c).size ≤ s.size := by
  have h1 := len_toList (headOf s c)
  have h2 := len_toList s
  have h3 : (headOf s c).data.toList = (cutHead s.data.toList c).1 := data_B _
  have h4 : (cutHead s.data.toList c).1.length ≤ s.data.toList.length := by
    unfold cutHead; split
    · simp
    · exact Nat.le_refl _
  rw [h3] at h1; omega

set_option maxHeartbeats 2000000 in
theorem readType_zero : ReadI 0 := by
  intro s w hs
  go_enter Try.func17, Try.ntmps17
  go_wp2_with fail
  refine bodyPost_ret (v := .tuple #[.agg #[.string ByteArray.empty, .slice none 0 0, .bool false], .bool false]) (by simp [results, Try.results17, go_sem]; try rfl) rfl ⟨rfl, ?_⟩
  exact (Below.refl _ _).alloc (Nat.le_refl _) _

set_option maxHeartbeats 2000000 in
theorem readType_step (d : Nat) (hd : d ≤ 5) (ih : ReadI d) : ReadI (d + 1) := by
  intro s w hs
  rw [show ((d + 1 : Nat) : Int) = (d : Int) + 1 by omega]
  have hdd : (d : Int) ≤ 5 := by omega
  have hdc : decide ((d : Int) + 1 < 1) = false := decide_eq_false (by omega)
  have hs1 := endOf_size s 33
  have HL : Hid (readL (d + 1) s.data.toList = (if nameB (endOf s 33).data.toList then some ⟨endOf s 33, [], (cutEnd s.data.toList 33).2⟩
      else if (cutHead (endOf s 33).data.toList 91).2 && (cutEnd (headOf (endOf s 33) 91).data.toList 93).2 then
        (readL d (endOf (headOf (endOf s 33) 91) 93).data.toList).map fun t => ⟨ByteArray.empty, [t], (cutEnd s.data.toList 33).2⟩
      else none)) := by
    show readL (d + 1) _ = _
    rw [readL]
    simp only [endOf, headOf, data_B]
  generalize hm : (cutEnd s.data.toList 33).2 = must at *
  generalize hx : endOf s 33 = s1 at *
  cases hn : nameB s1.data.toList
  · rw [hn] at HL
    simp only [Bool.false_eq_true, if_false] at HL
    have hs2 := headOf_size s1 91
    have hs3 := endOf_size (headOf s1 91) 93
    have Hx : Hid (endOf s 33 = s1) := hx
    have Hm : Hid ((cutEnd s.data.toList 33).2 = must) := hm
    clear hx hm
    generalize hx2 : headOf s1 91 = s2 at *
    generalize hx3 : endOf s2 93 = s3 at *
    have Hx2 : Hid (headOf s1 91 = s2) := hx2
    have Hx3 : Hid (endOf s2 93 = s3) := hx3
    clear hx2 hx3
    cases ho : (cutHead s1.data.toList 91).2
    · have hfin : Hid (readL (d + 1) s.data.toList = none) := by show _ = _; rw [HL.out, ho]; rfl
      clear HL
      go_enter Try.func17, Try.ntmps17
      go_wp2_with fail
      refine (cutSuffix_any s 33 _ hs).mono ?_
      rintro e w1 ⟨rfl, rfl⟩
      rw [Hx.out, Hm.out]
      go_wp2_with fail
      refine (isName_any s1 _ (by unfold maxLen; omega)).mono ?_
      rintro e w2 ⟨rfl, rfl⟩
      rw [hn]
      go_wp2_with fail
      refine (cutPrefix_any s1 91 _ (by omega)).mono ?_
      rintro e w3 ⟨rfl, rfl⟩
      rw [Hx2.out, ho]
      go_wp2_with fail
      refine (cutSuffix_any s2 93 _ (by omega)).mono ?_
      rintro e w4 ⟨rfl, rfl⟩
      rw [Hx3.out]
      go_wp2_with fail
      refine bodyPost_ret (v := .tuple #[.agg #[.string ByteArray.empty, .slice none 0 0, .bool false], .bool false]) (by simp [results, Try.results17, go_sem]; try rfl) rfl ⟨by rw [hfin.out], ?_⟩
      exact (Below.refl _ _).alloc (Nat.le_refl _) _
    cases he : (cutEnd s2.data.toList 93).2
    · have hfin : Hid (readL (d + 1) s.data.toList = none) := by show _ = _; rw [HL.out, ho, he]; rfl
      clear HL
      go_enter Try.func17, Try.ntmps17
      go_wp2_with fail
      refine (cutSuffix_any s 33 _ hs).mono ?_
      rintro e w1 ⟨rfl, rfl⟩
      rw [Hx.out, Hm.out]
      go_wp2_with fail
      refine (isName_any s1 _ (by unfold maxLen; omega)).mono ?_
      rintro e w2 ⟨rfl, rfl⟩
      rw [hn]
      go_wp2_with fail
      refine (cutPrefix_any s1 91 _ (by omega)).mono ?_
      rintro e w3 ⟨rfl, rfl⟩
      rw [Hx2.out, ho]
      go_wp2_with fail
      refine (cutSuffix_any s2 93 _ (by omega)).mono ?_
      rintro e w4 ⟨rfl, rfl⟩
      rw [Hx3.out, he]
      go_wp2_with fail
      refine bodyPost_ret (v := .tuple #[.agg #[.string ByteArray.empty, .slice none 0 0, .bool false], .bool false]) (by simp [results, Try.results17, go_sem]; try rfl) rfl ⟨by rw [hfin.out], ?_⟩
      exact (Below.refl _ _).alloc (Nat.le_refl _) _
    have HL2 : Hid (readL (d + 1) s.data.toList = (readL d s3.data.toList).map fun t => ⟨ByteArray.empty, [t], must⟩) := by show _ = _; rw [HL.out, ho, he]; rfl
    clear HL
    go_enter Try.func17, Try.ntmps17
    go_wp2_with fail
    refine (cutSuffix_any s 33 _ hs).mono ?_
    rintro e w1 ⟨rfl, rfl⟩
    rw [Hx.out, Hm.out]
    go_wp2_with fail
    refine (isName_any s1 _ (by unfold maxLen; omega)).mono ?_
    rintro e w2 ⟨rfl, rfl⟩
    rw [hn]
    go_wp2_with fail
    refine (cutPrefix_any s1 91 _ (by omega)).mono ?_
    rintro e w3 ⟨rfl, rfl⟩
    rw [Hx2.out, ho]
    go_wp2_with fail
    refine (cutSuffix_any s2 93 _ (by omega)).mono ?_
    rintro e w4 ⟨rfl, rfl⟩
    rw [Hx3.out, he]
    go_wp2_with fail
    refine (ih s3 _ (by omega)).mono ?_
    rintro e w5 ⟨hm, hb5⟩
    obtain ⟨hc5, hf5⟩ := bcell hb5
    have q0 : w5.cell? ⟨w.heap.size, 0, none⟩ = some (.string ⟨#[]⟩) := by rw [hc5 w.heap.size 0 (by simp)]; simp
    have q1 : w5.cell? ⟨w.heap.size, 1, none⟩ = some (.slice none 0 0) := by rw [hc5 w.heap.size 1 (by simp)]; simp
    have q2 : w5.cell? ⟨w.heap.size, 2, none⟩ = some (.bool false) := by rw [hc5 w.heap.size 2 (by simp)]; simp
    have f5 : ∀ o, w5.frozen? ⟨w.heap.size, o, none⟩ = false := fun o => by rw [hf5 w.heap.size o (by simp)]; exact (Owns.made w _ _).frozen o
    have hz0 : w.heap.size < w5.heap.size := cell_lt q0
    have HB : Hid (Below w.heap.size w w5) := ((Below.refl _ _).alloc (Nat.le_refl _) _).trans (hb5.mono (by simp))
    clear hb5 hc5 hf5
    match hg : readL d s3.data.toList with
    | none =>
      rw [hg] at hm
      have he5 : e = _ := hm
      subst he5
      have hfin : Hid (readL (d + 1) s.data.toList = none) := by show _ = _; rw [HL2.out, hg]; rfl
      clear hm hg HL2
      go_wp2_with fail
      refine bodyPost_ret (v := .tuple #[.agg #[.string ByteArray.empty, .slice none 0 0, .bool false], .bool false]) (by simp [results, Try.results17, go_sem, q0, q1, q2, hz0]; try rfl) rfl ⟨by rw [hfin.out], ?_⟩
      exact (((HB.out.setCell (by simp) _).setCell (by simp) _).setCell (by simp) _).alloc (by have := HB.out.size; simp; omega) _
    | some t =>
      rw [hg] at hm
      obtain ⟨a, c, he5, hR, bs, hbl, hbs, hO⟩ := hm
      subst he5
      have hbs' : ∀ b ∈ bs, w.heap.size + 1 ≤ b := fun b hb => by have := hbs b hb; simpa using this
      have hlt := TyO.lt bs t _ hO
      have HOs : Hid (∀ W, Keeps (w.heap.size + 1) w5 W → TyO 25 W bs t [.string t.name, .slice a t.of.length c, .bool t.must]) := fun W h => TyO.keeps h hbs' hO
      clear hO
      have hfin : Hid (readL (d + 1) s.data.toList = some ⟨ByteArray.empty, [t], must⟩) := by show _ = _; rw [HL2.out, hg]; rfl
      have HR : Hid (TyR w5 (w.heap.size + 1) d t [.string t.name, .slice a t.of.length c, .bool t.must]) := TyR.base (by simp) d _ _ hR
      clear hR hg HL2
      go_wp2_with fail
      refine bodyPost_ret (v := .tuple #[.agg #[.string ByteArray.empty, .slice (some ⟨w5.heap.size + 1, 0, none⟩) 1 1, .bool must], .bool true]) (by simp [results, Try.results17, go_sem, q0, q1, q2, hz0]; try rfl) rfl ⟨?_, ?_⟩
      · rw [hfin.out]
        refine ⟨_, _, rfl, ⟨_, rfl, by simp, row_one (lo := w.heap.size + 1) (by omega) (Keeps.alloc (((Keeps.refl _ _).setCell (by simp) _).setCell (by simp) _ |>.setCell (by simp) _) _) (by simp) (by have := HB.out.size; omega) HR.out⟩, ?_⟩
        refine ⟨(w5.heap.size + 1) :: bs, by simp; omega, fun b hb => ?_, t, _, _, _, rfl, rfl, ?_, fun hb => ?_, HOs.out _ (Keeps.alloc (Keeps.alloc (((Keeps.refl _ _).setCell (by simp) _).setCell (by simp) _ |>.setCell (by simp) _) _) _)⟩
        · rcases List.mem_cons.1 hb with rfl | hb
          · omega
          · have := hbs' b hb; omega
        · have hmade := Owns.made ((((w5.setCell ⟨w.heap.size, 0, none⟩ (.string ⟨#[]⟩)).setCell ⟨w.heap.size, 1, none⟩ (.slice (some ⟨w5.heap.size + 1, 0, none⟩) 1 1)).setCell ⟨w.heap.size, 2, none⟩ (.bool must)).alloc (Obj.cells #[.string t.name, .slice a t.of.length c, .bool t.must] 25)) #[.string t.name, .slice a t.of.length c, .bool t.must] 25
          rw [show ((((w5.setCell ⟨w.heap.size, 0, none⟩ (.string ⟨#[]⟩)).setCell ⟨w.heap.size, 1, none⟩ (.slice (some ⟨w5.heap.size + 1, 0, none⟩) 1 1)).setCell ⟨w.heap.size, 2, none⟩ (.bool must)).alloc (Obj.cells #[.string t.name, .slice a t.of.length c, .bool t.must] 25)).heap.size = w5.heap.size + 1 by simp] at hmade
          exact hmade
        · have := hlt _ hb; omega
      · exact ((((HB.out.setCell (by simp) _).setCell (by simp) _).setCell (by simp) _).alloc (by have := HB.out.size; simp; omega) _).alloc (by have := HB.out.size; simp; omega) _

  · have hfin : Hid (readL (d + 1) s.data.toList = some ⟨s1, [], must⟩) := by show _ = _; rw [HL.out, hn]; rfl
    have Hx : Hid (endOf s 33 = s1) := hx
    have Hm : Hid ((cutEnd s.data.toList 33).2 = must) := hm
    clear HL hx hm
    go_enter Try.func17, Try.ntmps17
    go_wp2_with fail
    refine (cutSuffix_any s 33 _ hs).mono ?_
    rintro e w1 ⟨rfl, rfl⟩
    rw [Hx.out, Hm.out]
    go_wp2_with fail
    refine (isName_any s1 _ (by unfold maxLen; omega)).mono ?_
    rintro e w2 ⟨rfl, rfl⟩
    rw [hn]
    go_wp2_with fail
    refine bodyPost_ret (v := .tuple #[.agg #[.string s1, .slice none 0 0, .bool must], .bool true]) (by simp [results, Try.results17, go_sem]; try rfl) rfl ⟨?_, (Below.refl _ _).alloc (Nat.le_refl _) _⟩
    rw [hfin.out]
    exact ⟨none, 0, rfl, ⟨_, rfl, (by show s1.size ≤ _; omega), Or.inl ⟨rfl, rfl⟩⟩, [], by simp, fun b hb => by simp at hb, rfl, rfl⟩

theorem readI_all : ∀ d : Nat, d ≤ 5 → ReadI d
  | 0, _ => readType_zero
  | d + 1, h => readType_step d (by omega) (readI_all d (by omega))

set_option maxHeartbeats 2000000 in
theorem implTypeGet_any (s : ByteArray) (w : World) (hs : s.size ≤ 140737488351232) :
    Calls Try.prog 6 #[.string s] w (TyPostO 3 (readL 3 s.data.toList) w) := by
  go_enter Try.func6, Try.ntmps6
  go_wp2_with fail
  refine (readI_all 3 (by omega) s _ hs).mono ?_
  rintro e w1 ⟨hm, hb1⟩
  obtain ⟨hc1, hf1⟩ := bcell hb1
  have q0 : w1.cell? ⟨w.heap.size, 0, none⟩ = some (.string ⟨#[]⟩) := by rw [hc1 w.heap.size 0 (by simp)]; simp
  have q1 : w1.cell? ⟨w.heap.size, 1, none⟩ = some (.slice none 0 0) := by rw [hc1 w.heap.size 1 (by simp)]; simp
  have q2 : w1.cell? ⟨w.heap.size, 2, none⟩ = some (.bool false) := by rw [hc1 w.heap.size 2 (by simp)]; simp
  have f1 : ∀ o, w1.frozen? ⟨w.heap.size, o, none⟩ = false := fun o => by rw [hf1 w.heap.size o (by simp)]; exact (Owns.made w _ _).frozen o
  have hz0 : w.heap.size < w1.heap.size := cell_lt q0
  have HB : Hid (Below w.heap.size w w1) := ((Below.refl _ _).alloc (Nat.le_refl _) _).trans (hb1.mono (by simp))
  clear hb1 hc1 hf1
  match hg : readL 3 s.data.toList with
  | none =>
    rw [hg] at hm
    have he5 : e = _ := hm
    subst he5
    have HG : Hid (readL 3 s.data.toList = none) := hg
    clear hm hg
    go_wp2_with fail
    refine bodyPost_ret (v := .tuple #[.agg #[.string ByteArray.empty, .slice none 0 0, .bool false], .bool false]) (by simp [results, Try.results6, go_sem, q0, q1, q2, hz0]; try rfl) rfl ⟨by rw [HG.out], ?_⟩
    exact ((HB.out.setCell (by simp) _).setCell (by simp) _).setCell (by simp) _
  | some t =>
    rw [hg] at hm
    obtain ⟨a, c, he5, hR, bs, hbl, hbs, hO⟩ := hm
    subst he5
    have hbs' : ∀ b ∈ bs, w.heap.size + 1 ≤ b := fun b hb => by have := hbs b hb; simpa using this
    have HOs : Hid (∀ W, Keeps (w.heap.size + 1) w1 W → TyO 25 W bs t [.string t.name, .slice a t.of.length c, .bool t.must]) := fun W h => TyO.keeps h hbs' hO
    clear hO
    have HR : Hid (TyR w1 (w.heap.size + 1) 3 t [.string t.name, .slice a t.of.length c, .bool t.must]) := TyR.base (by simp) 3 _ _ hR
    have HG : Hid (readL 3 s.data.toList = some t) := hg
    clear hR hg
    go_wp2_with fail
    refine bodyPost_ret (v := .tuple #[.agg #[.string t.name, .slice a t.of.length c, .bool t.must], .bool true]) (by simp [results, Try.results6, go_sem, q0, q1, q2, hz0]; try rfl) rfl ⟨?_, ?_⟩
    · rw [HG.out]
      refine ⟨a, c, rfl, ?_, bs, hbl, fun b hb => by have := hbs' b hb; omega, HOs.out _ (((Keeps.refl _ _).setCell (by simp) _).setCell (by simp) _ |>.setCell (by simp) _)⟩
      exact TyR.base (by omega) 3 _ _ (TyR.keeps (((Keeps.refl _ _).setCell (by simp) _).setCell (by simp) _ |>.setCell (by simp) _) 3 _ _ HR.out)
    · exact ((HB.out.setCell (by simp) _).setCell (by simp) _).setCell (by simp) _
end Go.Proofs.Ytnoofagimdanjaa
