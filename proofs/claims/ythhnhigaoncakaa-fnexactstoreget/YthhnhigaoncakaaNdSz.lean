
/-
  DERIVED. THE WALKS OF laws.szNode, laws.szNodeS.
-/
import Derived.Test.YthhnhigaoncakaaRepN
import Derived.Test.YthhnhigaoncakaaVlSzC
namespace Go.Proofs.Ythhnhigaoncakaa
open Go.RowKit
set_option linter.unusedVariables false
set_option linter.unusedSimpArgs false

/-- How many marks the cells of a node take. -/
def cntN (k : Nat) (x : Nd) : Nat := cntS (cntE k) x.cells.list + x.cells.names.length
def cntNs (k : Nat) : List Nd → Nat
  | [] => 0
  | x :: r => cntN k x + cntNs k r
theorem cntNs_snoc (k : Nat) {l : List Nd} {j : Nat} (h : j < l.length) : cntNs k (l.take (j + 1)) = cntNs k (l.take j) + cntN k l[j] := by
  induction l generalizing j with
  | nil => simp at h
  | cons x r ih =>
    cases j with
    | zero => simp [cntNs]
    | succ j => simp only [List.take_succ_cons, cntNs, List.getElem_cons_succ, ih (by simpa using h)]; omega

set_option maxHeartbeats 400000 in
theorem szNode_any (k : Nat) (x : Nd) (vl vn : Value) (left : Int) (w : World) (hx : NdR w 0 (k + 1) x [.int .i64 x.id, .string x.type, .int .i64 x.cells.kind, .int .i64 x.cells.num, .string x.cells.text, vl, vn]) (h0 : 0 ≤ left) (h1 : left ≤ 1048576) :
    Calls Try.prog 13 #[.agg #[.int .i64 x.id, .string x.type, .int .i64 x.cells.kind, .int .i64 x.cells.num, .string x.cells.text, vl, vn], .int .i64 left] w (SzPostC (cntN k x) left w) := by
  obtain ⟨vl', vn', hv, _, hty, hR⟩ := hx
  simp only [List.cons.injEq, true_and, and_true] at hv
  obtain ⟨rfl, rfl⟩ := hv
  have hty' : (x.type.size : Int) ≤ 140737488351232 := by omega
  by_cases hneg : left - (x.type.size : Int) < 0
  · go_enter Try.func13, Try.ntmps13
    go_wp2_with fail
    go_ret
    exact ⟨_, rfl, by omega, by omega, by omega, (Below.refl _ _).alloc (Nat.le_refl _) _⟩
  · have HR : Hid (∀ W, Keeps 0 w W → VlR W 0 (k + 1) x.cells [.int .i64 x.cells.kind, .int .i64 x.cells.num, .string x.cells.text, vl, vn]) := fun W h => VlR.keeps h _ _ _ hR
    clear hR
    go_enter Try.func13, Try.ntmps13
    go_wp2_with fail
    refine ((szC_all k).1 _ _ _ _ _ (HR.out _ ((Keeps.refl _ _).alloc _)) (by omega) (by omega)).mono ?_
    rintro e w1 ⟨r1, rfl, hr2, hr3, hr4, hb1⟩
    have HB : Hid (Below w.heap.size w w1) := ((Below.refl _ _).alloc (Nat.le_refl _) _).trans (hb1.mono (by simp))
    have HC : Hid (0 ≤ r1 → (cntN k x : Int) ≤ 3 * (left - (x.type.size : Int) - r1)) := fun h => by
      have := hr4 h
      unfold cntN
      push_cast at this ⊢
      omega
    clear hb1 hr4
    by_cases hneg1 : r1 < 0
    · go_wp2_with fail
      go_ret
      exact ⟨_, rfl, by omega, by omega, by omega, HB.out⟩
    · go_wp2_with fail
      go_ret
      exact ⟨_, rfl, by omega, by omega, (fun h => by have := HC.out h; omega), HB.out⟩

set_option maxHeartbeats 400000 in
theorem szNodeS_any (k : Nat) (l : List Nd) (v : Value) (left : Int) (w : World) (hrow : NdRow w 0 (k + 1) l v) (h0 : 0 ≤ left) (h1 : left ≤ 1048576) :
    Calls Try.prog 4 #[v, .int .i64 left] w (SzPostC (cntNs k l + 3 * l.length) left w) := by
  obtain ⟨a, cap, rfl, hw, hrest⟩ := Row.len hrow
  have hlen : (l.length : Int) ≤ 140737488351232 := by omega
  clear hrow
  by_cases hneg : left - (l.length : Int) < 0
  · go_enter Try.func4, Try.ntmps4
    go_wp2_with fail
    go_ret
    exact ⟨_, rfl, by omega, by omega, by omega, Below.refl _ _⟩
  · go_enter Try.func4, Try.ntmps4
    go_wp2_with fail
    go_loopw [1, 5] (fun lf i wr => ∃ (j : Nat) (r : Int), j ≤ l.length ∧ i = .int .i64 j ∧ lf = .int .i64 r ∧ 0 ≤ r ∧ r ≤ left - (l.length : Int) ∧ Hid ((cntNs k (l.take j) : Int) ≤ 3 * (left - (l.length : Int) - r)) ∧ Below w.heap.size w wr) (fun _ i _ => l.length - (intOf i).toNat)
    case atStart => exact ⟨0, _, Nat.zero_le _, rfl, rfl, by omega, by omega, (by show (_ : Int) ≤ _; simp [cntNs]), Below.refl _ _⟩
    case round =>
      obtain ⟨j, r, hj, rfl, rfl, hr0, hr1, HC, hb⟩ := hrel
      by_cases hlt : j < l.length
      · obtain ⟨b, off, rfl, _, hcs⟩ := hrest (List.ne_nil_of_length_pos (by omega))
        obtain ⟨cs, hl3, hc, hR⟩ := hcs j hlt
        obtain ⟨p, n, p', n', rfl⟩ := hR.cells
        have hk : Keeps 0 w wr := Keeps.of_below hb (Nat.le_refl _) _
        obtain ⟨c0, c1, c2, c3, c4, c5, c6⟩ := (hc.keeps hk (Nat.zero_le _)).seven
        have HR : Hid (NdR wr 0 (k + 1) l[j] [.int .i64 l[j].id, .string l[j].type, .int .i64 l[j].cells.kind, .int .i64 l[j].cells.num, .string l[j].cells.text, .slice p l[j].cells.list.length n, .slice p' l[j].cells.names.length n']) := NdR.keeps hk _ _ _ hR
        have HS : Hid (cntNs k (l.take (j + 1)) = cntNs k (l.take j) + cntN k l[j]) := cntNs_snoc k hlt
        clear hc hR hcs hrest
        go_wp2_with (go_at_call 13; refine (szNode_any k _ _ _ _ _ HR.out hr0 (by omega)).mono ?_; rintro e w1 ⟨r1, rfl, hr2, hr3, hr4, hb1⟩)
        · go_ret
          exact ⟨_, rfl, by omega, by omega, by omega, hb.trans (hb1.mono hb.size)⟩
        · refine ⟨⟨j + 1, r1, by omega, by go_num, rfl, by omega, by omega, ?_, hb.trans (hb1.mono hb.size)⟩, by simp [intOf]; omega⟩
          show (_ : Int) ≤ _
          have h1 := HC.out
          have h2 := HS.out
          have h3 := hr4 (by omega)
          rw [h2]
          push_cast at h3 ⊢
          omega
      · obtain rfl : j = l.length := by omega
        have HC2 : Hid ((cntNs k l : Int) ≤ 3 * (left - (l.length : Int) - r)) := by have := HC.out; rw [List.take_length] at this; exact this
        clear HC
        go_wp2_with fail
        go_ret
        exact ⟨_, rfl, by omega, by omega, (fun _ => by have := HC2.out; push_cast; omega), hb⟩

end Go.Proofs.Ythhnhigaoncakaa
