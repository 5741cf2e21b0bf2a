
/-
  DERIVED. THE WALKS OF RefTo: of the program, and of the specification.
-/
import Derived.Test.YtaklmcmcgeebiaaFmTrV
namespace Go.Proofs.Ytaklmcmcgeebiaa
open Go.RowKit
set_option linter.unusedVariables false
set_option linter.unusedSimpArgs false

def refText : ByteArray := ⟨#[114, 101, 102]⟩
/-- The number that a node has, as a value. -/
def numV (n : Int) : Vl := ⟨2, n, ByteArray.empty, [], []⟩
/-- A value that is another node. -/
def refT (n : Int) : Vl := ⟨5, 0, ByteArray.empty, [numV n], [refText]⟩
def nothingV : Vl := ⟨0, 0, ByteArray.empty, [], []⟩
def refV (n : Int) : Vl := if 0 ≤ n ∧ n ≤ 2147483647 then refT n else nothingV

theorem numV_ok {n : Int} (h : 0 ≤ n ∧ n ≤ 2147483647) (k : Nat) : okB false (k + 1) (numV n) = true := by
  rw [okB_succ]
  have h1 : decide (-2147483647 ≤ n ∧ n ≤ 2147483647) = true := decide_eq_true (by omega)
  show (plainB 2 n ByteArray.empty 0 0 && (false || decide ((2 : Int) ≤ 5)) && true && true) = true
  rw [plainB, if_neg (by decide), if_neg (by decide), if_pos rfl, h1]
  decide +kernel
theorem refT_ok {n : Int} (h : 0 ≤ n ∧ n ≤ 2147483647) (k : Nat) : okB false (k + 2) (refT n) = true := by
  rw [okB_succ]
  have h1 : (refT n).list.all (okB false (k + 1)) = true := by simp [refT, numV_ok h k]
  rw [h1]
  show (plainB 5 0 ByteArray.empty 1 1 && (false || decide ((5 : Int) ≤ 5)) && onceB [] [refText] && true) = true
  decide +kernel

theorem refT_own {W : World} {lo hi bL bN : Nat} {n : Int} (h : 0 ≤ n ∧ n ≤ 2147483647) (hL : Owns W bL #[.int .i64 2, .int .i64 n, .string ByteArray.empty, .slice none 0 0, .slice none 0 0] 25) (hN : Owns W bN #[.string refText] 9)
    (ne : bN ≠ bL) (l1 : lo ≤ bL) (l2 : bL < hi) (n1 : lo ≤ bN) (n2 : bN < hi) :
    VlO W 2 lo hi (refT n) [.int .i64 5, .int .i64 0, .string ByteArray.empty, .slice (some ⟨bL, 0, none⟩) 1 1, .slice (some ⟨bN, 0, none⟩) 1 1] := by
  refine ⟨_, _, hi, hi, rfl, i64_small (by simp [refT]), i64_small (by simp [refT]), by simp [refT], by omega, Nat.le_refl _, ?_, ?_, ?_, ?_⟩
  · refine Or.inr ⟨bL, _, fun _ => hi, rfl, by simp [refT], hL, rfl, Or.inl l2, Nat.le_refl _, Nat.le_refl _, fun _ _ => Nat.le_refl _, fun m hm => ?_⟩
    obtain rfl : m = 0 := by simp [refT] at hm; omega
    refine ⟨[.int .i64 2, .int .i64 n, .string ByteArray.empty, .slice none 0 0, .slice none 0 0], rfl, fun q hq => by simp, ?_⟩
    exact vlO_plain (t := numV n) (Nat.le_refl _) rfl rfl (i64_small (by simp [numV])) (i64_small (by simp [numV]; omega)) (by simp [numV])
  · refine Or.inr ⟨bN, _, fun _ => 0, rfl, by simp [refT], hN, rfl, Or.inr (Nat.zero_le _), Nat.le_refl _, Nat.le_refl _, fun _ _ => Nat.le_refl _, fun m hm => ?_⟩
    obtain rfl : m = 0 := by simp [refT] at hm; omega
    exact ⟨[.string refText], rfl, fun q hq => by simp, rfl, by show refText.size ≤ _; decide⟩
  · intro b hb
    have := hb.eq
    omega
  · intro b hb
    have := hb.eq
    refine ⟨by omega, by omega, by omega, fun h => ?_⟩
    have := h.eq
    omega

set_option maxHeartbeats 400000 in
theorem specRefTo_no (n : Int) (w : World) (h : ¬ (0 ≤ n ∧ n ≤ 2147483647)) :
    Calls Try.prog 4 #[.int .i64 n] w fun e w' => e = .returned (.agg #[.int .i64 0, .int .i64 0, .string ByteArray.empty, .slice none 0 0, .slice none 0 0]) ∧ Below w.heap.size w w' := by
  have hd : decide (0 ≤ n ∧ n ≤ 2147483647) = false := decide_eq_false h
  go_enter Try.func4, Try.ntmps4
  go_wp2_with (go_at_call 9; refine (l1In_any _ _ _ _).mono ?_; rintro e w1 ⟨rfl, rfl⟩)
  exact bodyPost_ret (v := .agg #[.int .i64 0, .int .i64 0, .string ByteArray.empty, .slice none 0 0, .slice none 0 0]) (by simp [results, Try.results4, go_sem]; try rfl) rfl ⟨rfl, (Below.refl _ _).alloc (Nat.le_refl _) _⟩

set_option maxHeartbeats 400000 in
theorem specRefTo_yes (n : Int) (w : World) (h : 0 ≤ n ∧ n ≤ 2147483647) :
    Calls Try.prog 4 #[.int .i64 n] w (ValP 2 (refT n) w) := by
  have hd : decide (0 ≤ n ∧ n ≤ 2147483647) = true := decide_eq_true h
  go_enter Try.func4, Try.ntmps4
  go_wp2_with (go_at_call 9; refine (l1In_any _ _ _ _).mono ?_; rintro e w1 ⟨rfl, rfl⟩)
  refine bodyPost_ret (v := .agg #[.int .i64 5, .int .i64 0, .string ByteArray.empty, .slice (some ⟨w.heap.size + 1 + 1, 0, none⟩) 1 1, .slice (some ⟨w.heap.size + 1, 0, none⟩) 1 1]) (by simp [results, Try.results4, go_sem]; try rfl) rfl ⟨_, _, rfl, ?_, ?_⟩
  · refine refT_own h ?_ ?_ (by omega) (by omega) (by simp) (by omega) (by simp)
    · have := Owns.made ((w.alloc (Obj.cells #[.int .i64 5, .int .i64 0, .string ⟨#[]⟩, .slice (some ⟨w.heap.size + 1 + 1, 0, none⟩) 1 1, .slice (some ⟨w.heap.size + 1, 0, none⟩) 1 1] 25)).alloc (Obj.cells #[.string refText] 9)) #[.int .i64 2, .int .i64 n, .string ByteArray.empty, .slice none 0 0, .slice none 0 0] 25
      rw [size_alloc2] at this
      exact this
    · exact (Owns.made2 w _ _ _).same (Below.heap_alloc _ _ _ (by simp))
  · exact (((Below.refl _ _).alloc (Nat.le_refl _) _).alloc (by simp) _).alloc (by simp; omega) _

set_option maxHeartbeats 400000 in
theorem implRefTo_no (n : Int) (w : World) (h : ¬ (0 ≤ n ∧ n ≤ 2147483647)) :
    Calls Try.prog 5 #[.int .i64 n] w fun e w' => e = .returned (.agg #[.int .i64 0, .int .i64 0, .string ByteArray.empty, .slice none 0 0, .slice none 0 0]) ∧ Below w.heap.size w w' := by
  by_cases h0 : n < 0
  · go_enter Try.func5, Try.ntmps5
    go_wp2_with fail
    exact bodyPost_ret (v := .agg #[.int .i64 0, .int .i64 0, .string ByteArray.empty, .slice none 0 0, .slice none 0 0]) (by simp [results, Try.results5, go_sem]; try rfl) rfl ⟨rfl, (Below.refl _ _).alloc (Nat.le_refl _) _⟩
  · have h1 : 2147483647 < n := by omega
    go_enter Try.func5, Try.ntmps5
    go_wp2_with fail
    exact bodyPost_ret (v := .agg #[.int .i64 0, .int .i64 0, .string ByteArray.empty, .slice none 0 0, .slice none 0 0]) (by simp [results, Try.results5, go_sem]; try rfl) rfl ⟨rfl, (Below.refl _ _).alloc (Nat.le_refl _) _⟩

theorem num_leads (x : Value) : Leads 33 39 x := ⟨fun W => by kernel_rfl, fun W => by kernel_rfl⟩

set_option maxHeartbeats 400000 in
theorem refForm_any (n : Int) (w : World) (h : 0 ≤ n ∧ n ≤ 2147483647) :
    Calls Try.prog 10 #[.int .i64 n] w fun e w' => ∃ v, e = .returned (.iface 43 v) ∧ Row w' 0 2 32 (ElC w' 1) ((refT n).names.zip (refT n).list) v ∧ Below w.heap.size w w' := by
  go_enter Try.func10, Try.ntmps10
  go_wp2_with fail
  go_ret
  refine ⟨_, rfl, Or.inr ⟨⟨w.heap.size, 0, none⟩, 1, rfl, Nat.le_refl _, by decide, by simp [refT], fun i hi => ⟨Nat.zero_le _, rfl, ?_⟩⟩, (Below.refl _ _).alloc (Nat.le_refl _) _⟩
  obtain rfl : i = 0 := by simp [refT] at hi; omega
  refine ⟨[.string refText, .iface 39 (.int .i64 n)], rfl, ?_, _, _, 33, rfl, num_leads _, fun W hk => numValue_any 0 (numV n) W rfl (numV_ok h 0)⟩
  intro j hj
  show ((w.alloc _).cell? ⟨w.heap.size, 0 + 0 * 2 + j, none⟩) = _
  rcases (show j = 0 ∨ j = 1 by simp at hj; omega) with rfl | rfl
  · simp [refText]
  · simp

set_option maxHeartbeats 400000 in
theorem implRefTo_yes (n : Int) (w : World) (h : 0 ≤ n ∧ n ≤ 2147483647) :
    Calls Try.prog 5 #[.int .i64 n] w (ValP 2 (refT n) w) := by
  have hL : decide (n < 0) = false := decide_eq_false (by omega)
  have hG : decide (n > 2147483647) = false := decide_eq_false (by omega)
  have HN : Hid (0 ≤ n ∧ n ≤ 2147483647) := h
  go_enter Try.func5, Try.ntmps5
  go_wp2_with fail
  refine (refForm_any n _ HN.out).mono ?_
  rintro e w1 ⟨v, rfl, hrow, hb1⟩
  have hO : Owns w1 w.heap.size #[.int .i64 0, .int .i64 0, .string ⟨#[]⟩, .slice none 0 0, .slice none 0 0] 25 := (Owns.made w _ _).below hb1 (by simp)
  have HB1 : Hid (Below w.heap.size w w1) := ((Below.refl _ _).alloc (Nat.le_refl _) _).trans (hb1.mono (by simp))
  have HROW : Hid (Row w1 0 2 32 (ElC w1 1) ((refT n).names.zip (refT n).list) v) := hrow
  have HO : Hid (Owns w1 w.heap.size #[.int .i64 0, .int .i64 0, .string ⟨#[]⟩, .slice none 0 0, .slice none 0 0] 25) := hO
  clear hb1 hrow hO
  go_wp2_with fail
  refine (valT_any 1 (refT n) v w1 rfl (refT_ok HN.out 0) rfl HROW.out).mono ?_
  rintro e w2 ⟨vl, vn, rfl, hV, hb2⟩
  have HV : Hid (VlO w2 2 w1.heap.size w2.heap.size (refT n) [.int .i64 5, .int .i64 0, .string ByteArray.empty, vl, vn]) := hV
  have HB2 : Hid (Below w.heap.size w w2) := HB1.out.trans (hb2.mono HB1.out.size)
  have hO2 := HO.out.below hb2 HO.out.lt
  have h01 := HO.out.lt
  have h12 : w1.heap.size ≤ w2.heap.size := hb2.size
  obtain ⟨aL, cL, aN, cN, hcs⟩ := hV.cells
  simp only [List.cons.injEq, true_and, and_true] at hcs
  obtain ⟨rfl, rfl⟩ := hcs
  have w0 : w2.cell? ⟨w.heap.size, 0, none⟩ = some (.int .i64 0) := by rw [hO2.cell]; rfl
  have w1' : w2.cell? ⟨w.heap.size, 1, none⟩ = some (.int .i64 0) := by rw [hO2.cell]; rfl
  have w2' : w2.cell? ⟨w.heap.size, 2, none⟩ = some (.string ⟨#[]⟩) := by rw [hO2.cell]; rfl
  have w3 : w2.cell? ⟨w.heap.size, 3, none⟩ = some (.slice none 0 0) := by rw [hO2.cell]; rfl
  have w4 : w2.cell? ⟨w.heap.size, 4, none⟩ = some (.slice none 0 0) := by rw [hO2.cell]; rfl
  have wf := fun o => hO2.frozen o
  have hb0lt := hO2.lt
  clear hV hb2 hO2 HROW HO HB1
  go_wp2_with fail
  refine bodyPost_ret (v := .agg #[.int .i64 5, .int .i64 0, .string ByteArray.empty, .slice aL 1 cL, .slice aN 1 cN]) (by simp [results, Try.results5, go_sem, hb0lt, w0, w1', w2', w3, w4, refT]) rfl ?_
  refine ⟨_, _, rfl, VlO.wide (by omega) (by simp [World.setCell]) _ _ _ (VlO.same _ w1.heap.size w2.heap.size _ _ (fun b h1 h2 => ?_) HV.out), ?_⟩
  · simp only [World.setCell, Array.getElem?_modify]
    repeat rw [if_neg (by omega)]
  · exact ((((HB2.out.setCell (by simp) _).setCell (by simp) _).setCell (by simp) _).setCell (by simp) _).setCell (by simp) _

end Go.Proofs.Ytaklmcmcgeebiaa
