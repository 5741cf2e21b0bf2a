
/-
  DERIVED. laws.FnExactPointerGet: its walk out of the contracts.
-/
import Derived.Test.YtedeeckbgjalcaaDoorPgS
import Derived.Test.YtedeeckbgjalcaaDoorVlHeld
namespace Go.Proofs.YtedeeckbgjalcaaDoor
open Go.RowKit
set_option linter.unusedVariables false
set_option linter.unusedSimpArgs false

theorem spl_length (c : UInt8) : ∀ s : List UInt8, (spl c s).length ≤ s.length + 1
  | [] => by simp [spl]
  | x :: s => by
    have ih := spl_length c s
    by_cases hx : x = c
    · subst hx; rw [spl_eq]; simp only [List.length_cons]; omega
    · obtain ⟨hd, tl, hs⟩ := spl_ne c s
      rw [spl_cons hx hs]
      rw [hs] at ih
      simp only [List.length_cons] at ih ⊢
      omega
theorem allE_length : ∀ (ns ts : List (List UInt8)), allE ns = some ts → ts.length = ns.length
  | [], ts, h => by simp [allE] at h; subst h; rfl
  | n :: r, ts, h => by
    simp only [allE] at h
    cases hn : unE n with
    | none => rw [hn] at h; simp at h
    | some a =>
      cases hr : allE r with
      | none => rw [hn, hr] at h; simp at h
      | some b =>
        rw [hn, hr] at h
        simp only [Option.some.injEq] at h
        subst h
        simp [allE_length r b hr]
theorem pgN_length (L : List UInt8) : (pgN L).length ≤ L.length + 1 := by
  unfold pgN
  cases h : pgO L with
  | none => exact Nat.zero_le _
  | some ns =>
    simp only [List.length_map]
    cases L with
    | nil => simp [pgO] at h; subst h; simp
    | cons x r =>
      by_cases hx : x = 47
      · subst hx
        simp only [pgO, beq_self_eq_true, if_true] at h
        rw [allE_length _ _ h]
        have := spl_length 47 r
        simp only [List.length_cons]
        omega
      · simp [pgO, hx] at h

/-- Both ways of impl.PointerGet under one saying. -/
theorem implPointerGet_one (s : ByteArray) (w : World) (hm : ML w) (hs : s.size ≤ 1048576) :
    Calls Tryd.prog 9 #[.string s] w fun e w' => ∃ v, e = .returned (.tuple #[v, .bool (pgO s.data.toList).isSome]) ∧ OwnRow w' 9 1 16 StrO 0 0 (pgN s.data.toList) v ∧ (∀ b, At v b → w.heap.size ≤ b) ∧ Below w.heap.size w w' := by
  refine (implPointerGet_any s w hm hs).mono ?_
  rintro e w' ⟨hb, ⟨hn, rfl⟩ | ⟨ns, v, hn, rfl, ho, hg⟩⟩
  · refine ⟨.slice none 0 0, by rw [hn]; rfl, by unfold pgN; rw [hn]; exact Or.inl ⟨rfl, rfl⟩, fun b hb => ?_, hb⟩
    obtain ⟨_, _, e⟩ := hb
    exact absurd e (by simp)
  · refine ⟨v, by rw [hn]; rfl, by unfold pgN; rw [hn]; exact ho, fun b hb => ?_, hb⟩
    obtain ⟨_, _, rfl⟩ := hb
    exact hg b rfl
theorem strO_row {w : World} {l : List ByteArray} {v : Value} (h : OwnRow w 9 1 16 StrO 0 0 l v) : StrRow w 0 l v :=
  h.row (by decide) (fun _ _ => Nat.zero_le _) (fun _ _ _ _ _ _ h => h)
theorem strO_below {w w' : World} {l : List ByteArray} {v : Value} (h : OwnRow w 9 1 16 StrO 0 0 l v) (hb : Below w.heap.size w w') : OwnRow w' 9 1 16 StrO 0 0 l v := by
  refine h.same (fun b hA => ?_) (fun _ _ _ _ _ _ h => h)
  rcases h with ⟨_, rfl⟩ | ⟨g, c, p, rfl, _, h2, _⟩
  · obtain ⟨_, _, e⟩ := hA
    exact absurd e (by simp)
  · obtain rfl := At.eq hA
    exact hb.block _ h2.lt
theorem markI (l : List ByteArray) (v : Value) (w : World) (hr : OwnRow w 9 1 16 StrO 0 0 l v) (h2 : l.length ≤ 2000000) :
    Calls Tryd.prog 22 #[v, .int .i64 1] w fun e w' => e = .returned (.int .i64 ((l.length : Int) + 1)) ∧ ∃ l', l'.length = l.length ∧ MkN 1 l' ∧ OwnRow w' 9 1 16 StrO 0 0 l' v ∧ TurnsP (At v) w w' := by
  refine (markStringS_any l v 1 w hr (by omega) (by omega)).mono ?_
  rintro e w' ⟨rfl, h⟩
  exact ⟨by congr 2; omega, h⟩
theorem heldI (l : List ByteArray) (v : Value) (w : World) (hr : StrRow w 0 l v) (hM : MkN 1 l) (h2 : l.length ≤ 2000000) :
    Calls Tryd.prog 23 #[v, .int .i64 1] w fun e w' => e = .returned (.int .i64 ((l.length : Int) + 1)) ∧ Below w.heap.size w w' := by
  refine (heldStringS_any l v 1 w hr hM (by omega) (by omega)).mono ?_
  rintro e w' ⟨rfl, h⟩
  exact ⟨by congr 2; omega, h⟩

set_option maxHeartbeats 4000000 in
theorem get_walk (s : ByteArray) (w : World) (hm : ML w) :
    Calls Tryd.prog 6 #[.string s] w fun e w' => e = .returned (.bool true) ∧ Below w.heap.size w w' := by
  by_cases hs : s.size ≤ 1048576
  case neg =>
    have b1 : decide ((1048576 : Int) < (s.size : Int)) = true := decide_eq_true (by omega)
    clear hs hm
    go_enter Tryd.func6, Tryd.ntmps6
    go_wp2_with fail
    go_ret
    exact ⟨rfl, Below.refl _ _⟩
  have b1 : decide ((1048576 : Int) < (s.size : Int)) = false := decide_eq_false (by omega)
  have HM : Hid (ML w) := hm
  have HS : Hid (s.size ≤ 1048576) := hs
  have hnl : (pgN s.data.toList).length ≤ 2000000 := by have h1 := pgN_length s.data.toList; have h2 : s.data.toList.length = s.size := by simp
                                                        omega
  have HSP : Hid (∀ W, Calls Tryd.prog 13 #[.string s] W (PgSC s.data.toList W)) := fun W => specPointerGet_any s W hs
  have HIM : Hid (∀ W, ML W → Calls Tryd.prog 9 #[.string s] W fun e w' => ∃ v, e = .returned (.tuple #[v, .bool (pgO s.data.toList).isSome]) ∧ OwnRow w' 9 1 16 StrO 0 0 (pgN s.data.toList) v ∧ (∀ b, At v b → W.heap.size ≤ b) ∧ Below W.heap.size W w') := fun W hW => implPointerGet_one s W hW hs
  unfold PgSC at HSP
  generalize pgN s.data.toList = N at *
  generalize (pgO s.data.toList).isSome = B at *
  clear hm hs
  go_enter Tryd.func6, Tryd.ntmps6
  go_wp2_with fail
  refine (HSP.out w).mono ?_
  rintro e w1 ⟨hb1, v0, rfl, hR0⟩
  obtain ⟨a0, c0, rfl, _, _⟩ := hR0.len
  have HB1 : Hid (Below w.heap.size w w1) := hb1
  have HR0 : Hid (∀ W, Keeps 0 w1 W → StrRow W 0 N (.slice a0 N.length c0)) := fun W h => hR0.keeps h
  clear hb1 hR0 HSP
  go_wp2_with fail
  refine (HIM.out w1 (HM.out.on HB1.out)).mono ?_
  rintro e w2 ⟨v1, rfl, hO1, hA1, hb2⟩
  obtain ⟨a1, rfl, _⟩ := hO1.len
  have HB2 : Hid (Below w.heap.size w w2) := HB1.out.trans (hb2.mono HB1.out.size)
  have HK2 : Hid (Below w1.heap.size w1 w2) := hb2
  have HO1 : Hid (OwnRow w2 9 1 16 StrO 0 0 N (.slice a1 N.length N.length)) := hO1
  have HA1 : Hid (∀ b, At (.slice a1 N.length N.length) b → w1.heap.size ≤ b) := hA1
  clear hO1 hA1 hb2
  have hNi : (N.length : Int) ≤ 2000000 := by omega
  cases B
  all_goals
    go_wp2_with fail
    refine (eqStringS_any N _ _ _ (strO_row HO1.out) (HR0.out _ (Keeps.of_below HK2.out (Nat.le_refl _) _))).mono ?_
    rintro e w3 ⟨rfl, hb3⟩
    have HB3 : Hid (Below w.heap.size w w3) := HB2.out.trans (hb3.mono HB2.out.size)
    have HK3 : Hid (Below w1.heap.size w1 w3) := HK2.out.trans (hb3.mono HK2.out.size)
    have HO3 : Hid (OwnRow w3 9 1 16 StrO 0 0 N (.slice a1 N.length N.length)) := strO_below HO1.out hb3
    clear hb3 HB2 HK2 HO1
    go_wp2_with fail
    refine (markI N _ w3 HO3.out hnl).mono ?_
    rintro e w4 ⟨rfl, N', hl', hMk, hO4, hT4⟩
    have HB4 : Hid (Below w.heap.size w w4) := hT4.below HB3.out (fun b hA => Nat.le_trans HB1.out.size (HA1.out b hA)) HB3.out.size
    have HK4 : Hid (Below w1.heap.size w1 w4) := hT4.below HK3.out HA1.out HK3.out.size
    have HO4 : Hid (OwnRow w4 9 1 16 StrO 0 0 N' (.slice a1 N.length N.length)) := hO4
    have HMk : Hid (MkN 1 N') := hMk
    have HL' : Hid (N'.length = N.length) := hl'
    have HLe : Hid (N'.length ≤ 2000000) := by show _ ≤ _; rw [hl']; exact hnl
    clear hO4 hT4 hMk hl' HB3 HK3 HO3
    go_wp2_with fail
    refine (heldI N' _ w4 (strO_row HO4.out) HMk.out HLe.out).mono ?_
    rintro e w5 ⟨rfl, hb5⟩
    rw [HL'.out]
    have HB5 : Hid (Below w.heap.size w w5) := HB4.out.trans (hb5.mono HB4.out.size)
    have HK5 : Hid (Below w1.heap.size w1 w5) := HK4.out.trans (hb5.mono HK4.out.size)
    have HO5 : Hid (OwnRow w5 9 1 16 StrO 0 0 N' (.slice a1 N.length N.length)) := strO_below HO4.out hb5
    clear hb5 HB4 HK4 HO4
    go_wp2_with fail
    refine (HIM.out w5 (HM.out.on HB5.out)).mono ?_
    rintro e w6 ⟨v2, rfl, hO2, _, hb6⟩
    obtain ⟨a2, rfl, _⟩ := hO2.len
    have HB6 : Hid (Below w.heap.size w w6) := HB5.out.trans (hb6.mono HB5.out.size)
    have HK6 : Hid (Below w1.heap.size w1 w6) := HK5.out.trans (hb6.mono HK5.out.size)
    have HO6 : Hid (OwnRow w6 9 1 16 StrO 0 0 N' (.slice a1 N.length N.length)) := strO_below HO5.out hb6
    have HO2 : Hid (OwnRow w6 9 1 16 StrO 0 0 N (.slice a2 N.length N.length)) := hO2
    clear hO2 hb6 HB5 HK5 HO5
    go_wp2_with fail
    refine (eqStringS_any N _ _ _ (strO_row HO2.out) (HR0.out _ (Keeps.of_below HK6.out (Nat.le_refl _) _))).mono ?_
    rintro e w7 ⟨rfl, hb7⟩
    have HB7 : Hid (Below w.heap.size w w7) := HB6.out.trans (hb7.mono HB6.out.size)
    have HO7 : Hid (OwnRow w7 9 1 16 StrO 0 0 N' (.slice a1 N.length N.length)) := strO_below HO6.out hb7
    clear hb7 HB6 HK6 HO6 HO2
    go_wp2_with fail
    refine (heldI N' _ w7 (strO_row HO7.out) HMk.out HLe.out).mono ?_
    rintro e w8 ⟨rfl, hb8⟩
    rw [HL'.out]
    have HB8 : Hid (Below w.heap.size w w8) := HB7.out.trans (hb8.mono HB7.out.size)
    clear hb8
    go_wp2_with fail
    go_ret
    exact ⟨rfl, HB8.out⟩

end Go.Proofs.YtedeeckbgjalcaaDoor
