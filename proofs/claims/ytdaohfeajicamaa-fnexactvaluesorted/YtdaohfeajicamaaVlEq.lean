
/-
  DERIVED. THE WALKS OF laws.eqValue, laws.eqValueS: two that read as the same are equal.
-/
import Derived.Test.YtdaohfeajicamaaStrW
namespace Go.Proofs.Ytdaohfeajicamaa
open Go.RowKit
set_option linter.unusedVariables false
set_option linter.unusedSimpArgs false

def EqVl (k : Nat) : Prop := ∀ (t : Vl) (vl vn vl' vn' : Value) (w : World), VlR w 0 k t [.int .i64 t.kind, .int .i64 t.num, .string t.text, vl, vn] → VlR w 0 k t [.int .i64 t.kind, .int .i64 t.num, .string t.text, vl', vn'] →
  Calls Try.prog 13 #[.agg #[.int .i64 t.kind, .int .i64 t.num, .string t.text, vl, vn], .agg #[.int .i64 t.kind, .int .i64 t.num, .string t.text, vl', vn']] w fun e w' => e = .returned (.bool true) ∧ Below w.heap.size w w'
def EqVlS (k : Nat) : Prop := ∀ (l : List Vl) (v v' : Value) (w : World), Row w 0 5 80 (VlR w 0 k) l v → Row w 0 5 80 (VlR w 0 k) l v' →
  Calls Try.prog 37 #[v, v'] w fun e w' => e = .returned (.bool true) ∧ Below w.heap.size w w'

set_option maxHeartbeats 1000000 in
theorem eqValueS_step (k : Nat) (hT : EqVl k) : EqVlS k := by
  intro l v v' w hrow hrow'
  obtain ⟨a, cap, rfl, hw, hrest⟩ := hrow.len
  obtain ⟨a', cap', rfl, _, hrest'⟩ := hrow'.len
  have hlen : (l.length : Int) ≤ 140737488351232 := by omega
  clear hrow hrow'
  go_enter Try.func37, Try.ntmps37
  go_wp2_with fail
  go_loopw [5] (fun i wr => ∃ j : Nat, j ≤ l.length ∧ i = .int .i64 j ∧ Below w.heap.size w wr) (fun i _ => l.length - (intOf i).toNat)
  case atStart => exact ⟨0, Nat.zero_le _, rfl, Below.refl _ _⟩
  case round =>
    obtain ⟨j, hj, rfl, hb⟩ := hrel
    by_cases hlt : j < l.length
    · obtain ⟨b, off, rfl, _, hcs⟩ := hrest (List.ne_nil_of_length_pos (by omega))
      obtain ⟨cs, hl3, hc, hR⟩ := hcs j hlt
      obtain ⟨p, n, q, m, rfl⟩ := hR.cells
      obtain ⟨b', off', rfl, _, hcs'⟩ := hrest' (List.ne_nil_of_length_pos (by omega))
      obtain ⟨cs', hl3', hc', hR'⟩ := hcs' j hlt
      obtain ⟨p', n', q', m', rfl⟩ := hR'.cells
      have hk : Keeps 0 w wr := Keeps.of_below hb (Nat.le_refl _) _
      obtain ⟨c0, c1, c2, c3, c4⟩ := (hc.keeps hk (Nat.zero_le _)).five
      obtain ⟨d0, d1, d2, d3, d4⟩ := (hc'.keeps hk (Nat.zero_le _)).five
      have HR : Hid (VlR wr.drew 0 k l[j] [.int .i64 l[j].kind, .int .i64 l[j].num, .string l[j].text, .slice p l[j].list.length n, .slice q l[j].names.length m]) := VlR.keeps hk.drew k _ _ hR
      have HR' : Hid (VlR wr.drew 0 k l[j] [.int .i64 l[j].kind, .int .i64 l[j].num, .string l[j].text, .slice p' l[j].list.length n', .slice q' l[j].names.length m']) := VlR.keeps hk.drew k _ _ hR'
      clear hc hR hcs hrest hc' hR' hcs' hrest' hl3 hl3'
      go_wp2_with fail
      go_region_with (go_at_call 13; refine (hT _ _ _ _ _ _ HR.out HR'.out).mono ?_; rintro e w1 ⟨rfl, hb1⟩)
      all_goals
        have HB : Hid (Below w.heap.size w w1) := hb.drew.trans (hb1.mono hb.size)
        clear hb1
        go_wp2_with fail
        exact ⟨⟨j + 1, by omega, by go_num, HB.out⟩, by simp [intOf]; omega⟩
    · go_wp2_with fail
      go_ret
      exact ⟨rfl, hb⟩

set_option maxHeartbeats 400000 in
theorem eqValue_step (k : Nat) (hS : EqVlS k) : EqVl (k + 1) := by
  intro t vl vn vl' vn' w ht ht'
  obtain ⟨v0, v1, hv, _, _, _, hrow, hnames⟩ := ht
  simp only [List.cons.injEq, true_and, and_true] at hv
  obtain ⟨rfl, rfl⟩ := hv
  obtain ⟨v0', v1', hv', _, _, _, hrow', hnames'⟩ := ht'
  simp only [List.cons.injEq, true_and, and_true] at hv'
  obtain ⟨rfl, rfl⟩ := hv'
  have HR : Hid (∀ W, Keeps 0 w W → Row W 0 5 80 (VlR W 0 k) t.list vl) := fun W h => VlRow.keeps h hrow
  have HR' : Hid (∀ W, Keeps 0 w W → Row W 0 5 80 (VlR W 0 k) t.list vl') := fun W h => VlRow.keeps h hrow'
  have HN : Hid (∀ W, Keeps 0 w W → StrRow W 0 t.names vn) := fun W h => hnames.keeps h
  have HN' : Hid (∀ W, Keeps 0 w W → StrRow W 0 t.names vn') := fun W h => hnames'.keeps h
  clear hrow hrow' hnames hnames'
  go_enter Try.func13, Try.ntmps13
  go_wp2_with fail
  refine (hS t.list vl vl' _ (HR.out _ (((Keeps.refl _ _).alloc _).alloc _)) (HR'.out _ (((Keeps.refl _ _).alloc _).alloc _))).mono ?_
  rintro e w1 ⟨rfl, hb1⟩
  obtain ⟨hc, hf⟩ := bcell hb1
  have HB : Hid (Below w.heap.size w w1) := (((Below.refl _ _).alloc (Nat.le_refl _) _).alloc (by simp) _).trans (hb1.mono (by simp; omega))
  clear hb1
  go_wp2_with fail
  refine (eqStringS_any t.names vn vn' _ (HN.out _ (Keeps.of_below HB.out (Nat.le_refl _) _)) (HN'.out _ (Keeps.of_below HB.out (Nat.le_refl _) _))).mono ?_
  rintro e w2 ⟨rfl, hb2⟩
  have HB2 : Hid (Below w.heap.size w w2) := HB.out.trans (hb2.mono HB.out.size)
  clear hb2 hc hf
  go_wp2_with fail
  go_ret
  exact ⟨rfl, HB2.out⟩

theorem eqV_all : ∀ k : Nat, EqVl k ∧ EqVlS k
  | 0 => ⟨fun _ _ _ _ _ _ h => h.elim, eqValueS_step 0 (fun _ _ _ _ _ _ h => h.elim)⟩
  | k + 1 => ⟨eqValue_step k (eqV_all k).2, eqValueS_step (k + 1) (eqValue_step k (eqV_all k).2)⟩

end Go.Proofs.Ytdaohfeajicamaa
