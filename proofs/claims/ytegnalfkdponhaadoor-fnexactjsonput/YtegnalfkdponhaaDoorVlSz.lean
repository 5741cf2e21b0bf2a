
/-
  DERIVED. THE WALKS OF laws.szValue, laws.szValueS: they end, whatever the value is, and turn nothing.
-/
import Derived.Test.YtegnalfkdponhaaDoorStrW
namespace Go.Proofs.YtegnalfkdponhaaDoor
open Go.RowKit
set_option linter.unusedVariables false
set_option linter.unusedSimpArgs false

def SzVl (k : Nat) : Prop := ∀ (t : Vl) (vl vn : Value) (left : Int) (w : World), VlR w 0 k t [.int .i64 t.kind, .int .i64 t.num, .string t.text, vl, vn] → 0 ≤ left → left ≤ 1048576 →
  Calls Tryd.prog 6 #[.agg #[.int .i64 t.kind, .int .i64 t.num, .string t.text, vl, vn], .int .i64 left] w (SzPost left w)
def SzVlS (k : Nat) : Prop := ∀ (l : List Vl) (v : Value) (left : Int) (w : World), Row w 0 5 80 (VlR w 0 k) l v → 0 ≤ left → left ≤ 1048576 →
  Calls Tryd.prog 17 #[v, .int .i64 left] w (SzPost left w)

set_option maxHeartbeats 400000 in
theorem szValueS_step (k : Nat) (hT : SzVl k) : SzVlS k := by
  intro l v left w hrow h0 h1
  obtain ⟨a, cap, rfl, hw, hrest⟩ := hrow.len
  have hlen : (l.length : Int) ≤ 140737488351232 := by omega
  by_cases hneg : left - (l.length : Int) < 0
  · go_enter Tryd.func17, Tryd.ntmps17
    go_wp2_with fail
    go_ret
    exact ⟨_, rfl, by omega, by omega, Below.refl _ _⟩
  · go_enter Tryd.func17, Tryd.ntmps17
    go_wp2_with fail
    go_loopw [1, 5] (fun lf i wr => ∃ (j : Nat) (r : Int), j ≤ l.length ∧ i = .int .i64 j ∧ lf = .int .i64 r ∧ 0 ≤ r ∧ r ≤ left ∧ Below w.heap.size w wr) (fun _ i _ => l.length - (intOf i).toNat)
    case atStart => exact ⟨0, _, Nat.zero_le _, rfl, rfl, by omega, by omega, Below.refl _ _⟩
    case round =>
      obtain ⟨j, r, hj, rfl, rfl, hr0, hr1, hb⟩ := hrel
      by_cases hlt : j < l.length
      · obtain ⟨b, off, rfl, _, hcs⟩ := hrest (List.ne_nil_of_length_pos (by omega))
        obtain ⟨cs, hl3, hc, hR⟩ := hcs j hlt
        obtain ⟨p, n, p', n', rfl⟩ := hR.cells
        have hk : Keeps 0 w wr := Keeps.of_below hb (Nat.le_refl _) _
        obtain ⟨c0, c1, c2, c3, c4⟩ := (hc.keeps hk (Nat.zero_le _)).five
        have HR : Hid (VlR wr 0 k l[j] [.int .i64 l[j].kind, .int .i64 l[j].num, .string l[j].text, .slice p l[j].list.length n, .slice p' l[j].names.length n']) := VlR.keeps hk k _ _ hR
        clear hc hR hcs hrest
        go_wp2_with (go_at_call 6; refine (hT _ _ _ _ _ HR.out hr0 (by omega)).mono ?_; rintro e w1 ⟨r1, rfl, hr2, hr3, hb1⟩)
        · go_ret
          exact ⟨_, rfl, by omega, by omega, hb.trans (hb1.mono hb.size)⟩
        · exact ⟨⟨j + 1, r1, by omega, by go_num, rfl, by omega, by omega, hb.trans (hb1.mono hb.size)⟩, by simp [intOf]; omega⟩
      · go_wp2_with fail
        go_ret
        exact ⟨_, rfl, by omega, by omega, hb⟩

set_option maxHeartbeats 400000 in
theorem szValue_step (k : Nat) (hS : SzVlS k) : SzVl (k + 1) := by
  intro t vl vn left w ht h0 h1
  obtain ⟨vl', vn', hv, _, _, hn, hrow, hnames⟩ := ht
  simp only [List.cons.injEq, true_and, and_true] at hv
  obtain ⟨rfl, rfl⟩ := hv
  have hn' : (t.text.size : Int) ≤ 140737488351232 := by omega
  by_cases hneg : left - (t.text.size : Int) < 0
  · go_enter Tryd.func6, Tryd.ntmps6
    go_wp2_with fail
    go_ret
    exact ⟨_, rfl, by omega, by omega, (Below.refl _ _).alloc (Nat.le_refl _) _⟩
  · have HR : Hid (∀ W, Keeps 0 w W → Row W 0 5 80 (VlR W 0 k) t.list vl) := fun W h => VlRow.keeps h hrow
    have HN : Hid (∀ W, Keeps 0 w W → StrRow W 0 t.names vn) := fun W h => hnames.keeps h
    clear hrow hnames
    go_enter Tryd.func6, Tryd.ntmps6
    go_wp2_with fail
    refine (hS t.list _ _ _ (HR.out _ ((Keeps.refl _ _).alloc _)) hneg (by omega)).mono ?_
    rintro e w1 ⟨r1, rfl, hr2, hr3, hb1⟩
    obtain ⟨hc, hf⟩ := bcell hb1
    have HB : Hid (Below w.heap.size w w1) := ((Below.refl _ _).alloc (Nat.le_refl _) _).trans (hb1.mono (by simp))
    clear hb1
    by_cases hneg1 : r1 < 0
    · go_wp2_with fail
      go_ret
      exact ⟨_, rfl, by omega, by omega, HB.out⟩
    · go_wp2_with fail
      refine (szStringS_any t.names _ _ _ (HN.out _ (Keeps.of_below HB.out (Nat.le_refl _) _)) (by omega) (by omega)).mono ?_
      rintro e w2 ⟨r2, rfl, hr4, hr5, hb2⟩
      have HB2 : Hid (Below w.heap.size w w2) := HB.out.trans (hb2.mono HB.out.size)
      clear hb2 hc hf
      go_wp2_with fail
      all_goals
        go_ret
        exact ⟨_, rfl, by omega, by omega, HB2.out⟩

theorem szV_all : ∀ k : Nat, SzVl k ∧ SzVlS k
  | 0 => ⟨fun _ _ _ _ _ h => h.elim, szValueS_step 0 (fun _ _ _ _ _ h => h.elim)⟩
  | k + 1 => ⟨szValue_step k (szV_all k).2, szValueS_step (k + 1) (szValue_step k (szV_all k).2)⟩

end Go.Proofs.YtegnalfkdponhaaDoor
