/-
  DERIVED. THE WALKS OF spec.l13Cut, spec.DrawTypeGet.
-/
import Derived.Test.YtnoofagimdanjaaDrawPut
import Derived.Test.YtnoofagimdanjaaL2Put
namespace Go.Proofs.Ytnoofagimdanjaa
open Go.RowKit
set_option linter.unusedVariables false
set_option linter.unusedSimpArgs false

def someCuts : List ByteArray := [⟨#[32]⟩, ⟨#[44]⟩, ⟨#[34]⟩, ⟨#[123]⟩, ⟨#[125]⟩, ⟨#[48]⟩, ⟨#[92]⟩, ⟨#[120]⟩, ⟨#[58]⟩, ⟨#[36]⟩, ⟨#[33]⟩, ⟨#[10]⟩]

theorem someCuts_short : ∀ s ∈ someCuts, s.size ≤ 1 := by
  intro s hs
  simp only [someCuts, List.mem_cons, List.not_mem_nil, or_false] at hs
  rcases hs with rfl | rfl | rfl | rfl | rfl | rfl | rfl | rfl | rfl | rfl | rfl | rfl <;> decide

/-- A text that was cut: a short one. -/
def CutC (rb : Nat) (w : World) (e : Ending) (w' : World) : Prop := ∃ s : ByteArray, e = .returned (.string s) ∧ s.size ≤ 3000 ∧ Turns [rb] w w'

set_option maxHeartbeats 2000000 in
theorem l13Cut_any (s : ByteArray) (rb : Nat) (a : Option Addr) (n c p : Nat) (w : World) (hs : s.size ≤ 1000) (hp : p ≤ 999000) (hR : RdAt w rb a n c p) :
    Calls Try.prog 20 #[.pointer (some ⟨rb, 0, none⟩), .string s] w (CutC rb w) := by
  have HR : Hid (RdAt w rb a n c p) := hR
  have hrb := hR.own.lt
  have hsi : (s.size : Int) ≤ 1000 := by omega
  clear hR
  go_enter Try.func20, Try.ntmps20
  go_wp2_with fail
  have hpk := pick_any (s.size + 1) rb a n c p w (by omega) (by omega) (by omega) HR.out
  rw [show ((s.size + 1 : Nat) : Int) = (s.size : Int) + 1 by omega] at hpk
  refine hpk.mono ?_
  rintro e w1 ⟨k, hk, rfl, hR1, hU1⟩
  clear hpk
  have HR1 : Hid (RdAt w1 rb a n c (p + 1)) := hR1
  have HU1 : Hid (Turns [rb] w w1) := hU1
  have hs1 := hU1.size
  clear hR1 hU1 HR
  go_wp2_with fail
  refine (pick_any 5 rb a n c (p + 1) _ (by omega) (by omega) (by omega) HR1.out).mono ?_
  rintro e w2 ⟨v, hv, rfl, hR2, hU2⟩
  have HR2 : Hid (RdAt w2 rb a n c (p + 2)) := hR2
  have HU2 : Hid (Turns [rb] w w2) := HU1.out.trans hU2
  have hs2 := hU2.size
  clear hR2 hU2 HR1 HU1
  have hki : (k : Int) ≤ (s.size : Int) := by omega
  rcases (show v = 0 ∨ v = 1 ∨ 2 ≤ v by omega) with rfl | rfl | hv2
  · have he1 : (s.extract 0 k).size ≤ 1000 := by simp [ByteArray.size_extract]; omega
    have he2 : (s.extract k s.size).size ≤ 1000 := by simp [ByteArray.size_extract]; omega
    go_wp2_with fail
    go_region_with (go_at_call 14; refine (of_any someCuts w2.heap.size 12 rb a n c (p + 2) _ (by decide) (by decide) (by omega) (HR2.out.below (B := w2.heap.size) (by omega) HR2.out.low ((Below.refl _ _).drew.alloc (Nat.le_refl _) _)) (by omega) (fun i h => strs_at w2.drew someCuts 9 i h)).mono ?_; rintro e w3 ⟨i, hi, rfl, hR3, hU3⟩; have hc1 := someCuts_short _ (List.getElem_mem hi); have HU3 : Hid (Turns [rb] w w3) := ((HU2.out.drew.alloc _).trans hU3); clear hR3 hU3)
    all_goals
      go_wp2_with fail
      go_ret
      exact ⟨s.extract 0 k ++ someCuts[i] ++ s.extract k s.size, rfl, by simp only [ByteArray.size_append]; omega, HU3.out⟩
  · go_wp2_with fail
    go_ret
    exact ⟨s.extract 0 k, rfl, by simp [ByteArray.size_extract]; omega, HU2.out⟩
  · have b0 : ((v : Int) == 0) = false := beq_eq_false_iff_ne.2 (by omega)
    have b1 : ((v : Int) == 1) = false := beq_eq_false_iff_ne.2 (by omega)
    go_wp2_with fail
    go_ret
    exact ⟨s, rfl, by omega, HU2.out⟩

def threeNames : List ByteArray := [⟨#[73, 110, 116]⟩, ⟨#[65]⟩, ⟨#[84, 104, 105, 110, 103]⟩]
theorem threeNames_named : ∀ s ∈ threeNames, nameB s.data.toList = true := by
  intro s hs
  simp only [threeNames, List.mem_cons, List.not_mem_nil, or_false] at hs
  rcases hs with rfl | rfl | rfl <;> rfl

/-- A text that was drawn. -/
def GotText (w : World) (e : Ending) (w' : World) : Prop := ∃ s : ByteArray, e = .returned (.string s) ∧ s.size ≤ 3000 ∧ Below w.heap.size w w'

set_option maxHeartbeats 2000000 in
theorem DrawTypeGet_any (a : Option Addr) (len cap : Nat) (w : World) (hl : len ≤ 1048576) (hcap : len ≤ cap) (hc : CodeAt w a len) :
    Calls Try.prog 9 #[.slice a len cap] w (GotText w) := by
  have HC : Hid (CodeAt w a len) := hc
  clear hc
  go_enter Try.func9, Try.ntmps9
  go_wp2_with fail
  refine (l1Open_any a len cap _ hl hcap HC.out).mono ?_
  rintro e w1 ⟨n, rfl, hR1, hb1⟩
  have hs1 := hR1.own.lt
  have HB1 : Hid (Below w.heap.size w w1) := hb1
  have HR1 : Hid (RdAt w1 w.heap.size a n cap 0) := hR1
  clear hR1 hb1
  go_wp2_with fail
  refine (l13Type_any threeNames w1.heap.size 3 w.heap.size a n cap 0 _ (by decide) (by decide) (by omega) (HR1.out.below (B := w1.heap.size) (by omega) HR1.out.low ((Below.refl _ _).alloc (Nat.le_refl _) _)) (by omega) (fun i h => strs_at w1 threeNames 9 i h) threeNames_named).mono ?_
  rintro e w2 ⟨t, x, m, p2, rfl, hT2, hF2, hR2, hp2, hU2, hm2⟩
  have hs2 := hU2.size
  simp at hs2
  have HB2 : Hid (Below w.heap.size w w2) := hU2.below (HB1.out.alloc (by omega) _) (by simp) (by simp; omega)
  have HT2 : Hid (TyR w2 0 3 t [.string t.name, .slice x t.of.length m, .bool t.must]) := TyR.base (by omega) _ _ _ hT2
  have HR2 : Hid (RdAt w2 w.heap.size a n cap p2) := hR2
  have HF2 : Hid (formedB 3 t = true) := hF2
  clear hT2 hF2 hR2 hU2 hm2 HR1 HB1
  go_wp2_with fail
  refine (l2Put_any 3 3 t _ _ (by omega) HF2.out HT2.out).mono ?_
  rintro e w3 ⟨rfl, hb3⟩
  have hs3 := hb3.size
  have HR3 : Hid (RdAt w3 w.heap.size a n cap p2) := HR2.out.below (B := w2.heap.size) (by omega) HR2.out.low hb3
  have HB3 : Hid (Below w.heap.size w w3) := HB2.out.trans (hb3.mono (by omega))
  have hsz := textT_size 3 t HF2.out
  generalize textT 3 t = s at *
  clear hb3 HR2 HB2 HT2
  go_wp2_with fail
  refine (l13Cut_any s w.heap.size a n cap p2 _ (by omega) (by omega) HR3.out).mono ?_
  rintro e w4 ⟨s', rfl, hs', hU4⟩
  have HB4 : Hid (Below w.heap.size w w4) := hU4.below HB3.out (by simp) (by omega)
  clear hU4 HB3 HR3
  go_wp2_with fail
  go_ret
  exact ⟨s', rfl, hs', HB4.out⟩

end Go.Proofs.Ytnoofagimdanjaa
