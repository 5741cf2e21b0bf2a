
/-
  DERIVED. THE WALKS OF laws.szStringS, laws.szValue, laws.szValueS: what is not too great has not too many marks.
-/
import Derived.Test.YtdaohfeajicamaaVlToO
import Derived.Test.YtdaohfeajicamaaVlCnt
namespace Go.Proofs.Ytdaohfeajicamaa
open Go.RowKit
set_option linter.unusedVariables false
set_option linter.unusedSimpArgs false

def SzPostC (c : Nat) (left : Int) (w : World) (e : Ending) (w' : World) : Prop := ∃ r : Int, e = .returned (.int .i64 r) ∧ -1 ≤ r ∧ r ≤ left ∧ (0 ≤ r → (c : Int) ≤ 3 * (left - r)) ∧ Below w.heap.size w w'

set_option maxHeartbeats 400000 in
theorem szStringS_cnt (l : List ByteArray) (v : Value) (left : Int) (w : World) (hrow : StrRow w 0 l v) (h0 : 0 ≤ left) (h1 : left ≤ 1048576) :
    Calls Try.prog 31 #[v, .int .i64 left] w (SzPostC l.length left w) := by
  obtain ⟨a, cap, rfl, hw, hrest⟩ := hrow.len
  have hlen : (l.length : Int) ≤ 140737488351232 := by omega
  clear hrow
  by_cases hneg : left - (l.length : Int) < 0
  · go_enter Try.func31, Try.ntmps31
    go_wp2_with fail
    go_ret
    exact ⟨_, rfl, by omega, by omega, by omega, Below.refl _ _⟩
  · go_enter Try.func31, Try.ntmps31
    go_wp2_with fail
    go_loop [1, 5] (fun lf i => ∃ (j : Nat) (r : Int), j ≤ l.length ∧ i = .int .i64 j ∧ lf = .int .i64 r ∧ 0 ≤ r ∧ r ≤ left - (l.length : Int)) (fun _ i => l.length - (intOf i).toNat)
    case atStart => exact ⟨0, _, Nat.zero_le _, rfl, rfl, by omega, by omega⟩
    case round =>
      obtain ⟨j, r, hj, rfl, rfl, hr0, hr1⟩ := hrel
      by_cases hlt : j < l.length
      · obtain ⟨b, off, rfl, _, hcs⟩ := hrest (List.ne_nil_of_length_pos (by omega))
        obtain ⟨c0, hs⟩ := hcs j hlt
        clear hcs hrest
        by_cases hn : r - (l[j].size : Int) < 0
        · go_wp2_with fail
          go_ret
          exact ⟨_, rfl, by omega, by omega, by omega, Below.refl _ _⟩
        · go_wp2_with fail
          exact ⟨⟨j + 1, _, by omega, by go_num, rfl, by omega, by omega⟩, by simp [intOf]; omega⟩
      · go_wp2_with fail
        go_ret
        exact ⟨_, rfl, by omega, by omega, by omega, Below.refl _ _⟩

def SzVlC (k : Nat) : Prop := ∀ (t : Vl) (vl vn : Value) (left : Int) (w : World), VlR w 0 (k + 1) t [.int .i64 t.kind, .int .i64 t.num, .string t.text, vl, vn] → 0 ≤ left → left ≤ 1048576 →
  Calls Try.prog 9 #[.agg #[.int .i64 t.kind, .int .i64 t.num, .string t.text, vl, vn], .int .i64 left] w (SzPostC (cntS (cntE k) t.list + t.names.length) left w)
def SzVlSC (k : Nat) : Prop := ∀ (l : List Vl) (v : Value) (left : Int) (w : World), Row w 0 5 80 (VlR w 0 k) l v → 0 ≤ left → left ≤ 1048576 →
  Calls Try.prog 30 #[v, .int .i64 left] w (SzPostC (cntS (cntE k) l) left w)

set_option maxHeartbeats 400000 in
theorem szValueS_cnt (k : Nat) (hT : ∀ g, k = g + 1 → SzVlC g) : SzVlSC k := by
  intro l v left w hrow h0 h1
  obtain ⟨a, cap, rfl, hw, hrest⟩ := hrow.len
  have hlen : (l.length : Int) ≤ 140737488351232 := by omega
  by_cases hneg : left - (l.length : Int) < 0
  · go_enter Try.func30, Try.ntmps30
    go_wp2_with fail
    go_ret
    exact ⟨_, rfl, by omega, by omega, by omega, Below.refl _ _⟩
  · go_enter Try.func30, Try.ntmps30
    go_wp2_with fail
    go_loopw [1, 5] (fun lf i wr => ∃ (j : Nat) (r : Int), j ≤ l.length ∧ i = .int .i64 j ∧ lf = .int .i64 r ∧ 0 ≤ r ∧ r ≤ left - (l.length : Int) ∧ Hid ((cntS (cntE k) (l.take j) : Int) ≤ 3 * (left - (l.length : Int) - r) + 3 * (j : Int)) ∧ Below w.heap.size w wr) (fun _ i _ => l.length - (intOf i).toNat)
    case atStart => exact ⟨0, _, Nat.zero_le _, rfl, rfl, by omega, by omega, (by show (_ : Int) ≤ _; simp [cntS]), Below.refl _ _⟩
    case round =>
      obtain ⟨j, r, hj, rfl, rfl, hr0, hr1, HC, hb⟩ := hrel
      by_cases hlt : j < l.length
      · obtain ⟨b, off, rfl, _, hcs⟩ := hrest (List.ne_nil_of_length_pos (by omega))
        obtain ⟨cs, hl3, hc, hR⟩ := hcs j hlt
        obtain ⟨g, rfl⟩ : ∃ g, k = g + 1 := by
          cases k with
          | zero => exact hR.elim
          | succ g => exact ⟨g, rfl⟩
        obtain ⟨p, n, p', n', rfl⟩ := hR.cells
        have hk : Keeps 0 w wr := Keeps.of_below hb (Nat.le_refl _) _
        obtain ⟨c0, c1, c2, c3, c4⟩ := (hc.keeps hk (Nat.zero_le _)).five
        have HR : Hid (VlR wr 0 (g + 1) l[j] [.int .i64 l[j].kind, .int .i64 l[j].num, .string l[j].text, .slice p l[j].list.length n, .slice p' l[j].names.length n']) := VlR.keeps hk _ _ _ hR
        have HS : Hid (cntS (cntE (g + 1)) (l.take (j + 1)) = cntS (cntE (g + 1)) (l.take j) + (3 + cntS (cntE g) l[j].list + l[j].names.length)) := cntS_snoc (cntE (g + 1)) hlt
        clear hc hR hcs hrest
        go_wp2_with (go_at_call 9; refine (hT g rfl _ _ _ _ _ HR.out hr0 (by omega)).mono ?_; rintro e w1 ⟨r1, rfl, hr2, hr3, hr4, hb1⟩)
        · go_ret
          exact ⟨_, rfl, by omega, by omega, by omega, hb.trans (hb1.mono hb.size)⟩
        · refine ⟨⟨j + 1, r1, by omega, by go_num, rfl, by omega, by omega, ?_, hb.trans (hb1.mono hb.size)⟩, by simp [intOf]; omega⟩
          show (_ : Int) ≤ _
          have h1 := HC.out
          have h2 := HS.out
          have h3 := hr4 (by omega)
          rw [h2]
          push_cast at h3 ⊢
          omega
      · obtain rfl : j = l.length := by omega
        have HC2 : Hid ((cntS (cntE k) l : Int) ≤ 3 * (left - (l.length : Int) - r) + 3 * (l.length : Int)) := by have := HC.out; rw [List.take_length] at this; exact this
        clear HC
        go_wp2_with fail
        go_ret
        exact ⟨_, rfl, by omega, by omega, (fun _ => by have := HC2.out; omega), hb⟩

set_option maxHeartbeats 400000 in
theorem szValue_cnt (k : Nat) (hS : SzVlSC k) : SzVlC k := by
  intro t vl vn left w ht h0 h1
  obtain ⟨vl', vn', hv, _, _, hn, hrow, hnames⟩ := ht
  simp only [List.cons.injEq, true_and, and_true] at hv
  obtain ⟨rfl, rfl⟩ := hv
  have hn' : (t.text.size : Int) ≤ 140737488351232 := by omega
  by_cases hneg : left - (t.text.size : Int) < 0
  · go_enter Try.func9, Try.ntmps9
    go_wp2_with fail
    go_ret
    exact ⟨_, rfl, by omega, by omega, by omega, (Below.refl _ _).alloc (Nat.le_refl _) _⟩
  · have HR : Hid (∀ W, Keeps 0 w W → Row W 0 5 80 (VlR W 0 k) t.list vl) := fun W h => VlRow.keeps h hrow
    have HN : Hid (∀ W, Keeps 0 w W → StrRow W 0 t.names vn) := fun W h => hnames.keeps h
    clear hrow hnames
    go_enter Try.func9, Try.ntmps9
    go_wp2_with fail
    refine (hS t.list _ _ _ (HR.out _ ((Keeps.refl _ _).alloc _)) hneg (by omega)).mono ?_
    rintro e w1 ⟨r1, rfl, hr2, hr3, hr3c, hb1⟩
    obtain ⟨hc, hf⟩ := bcell hb1
    have HB : Hid (Below w.heap.size w w1) := ((Below.refl _ _).alloc (Nat.le_refl _) _).trans (hb1.mono (by simp))
    have HC1 : Hid (0 ≤ r1 → (cntS (cntE k) t.list : Int) ≤ 3 * (left - (t.text.size : Int) - r1)) := hr3c
    clear hb1 hr3c
    by_cases hneg1 : r1 < 0
    · go_wp2_with fail
      go_ret
      exact ⟨_, rfl, by omega, by omega, by omega, HB.out⟩
    · go_wp2_with fail
      refine (szStringS_cnt t.names _ _ _ (HN.out _ (Keeps.of_below HB.out (Nat.le_refl _) _)) (by omega) (by omega)).mono ?_
      rintro e w2 ⟨r2, rfl, hr4, hr5, hr6, hb2⟩
      have HB2 : Hid (Below w.heap.size w w2) := HB.out.trans (hb2.mono HB.out.size)
      have HC2 : Hid (0 ≤ r2 → (t.names.length : Int) ≤ 3 * (r1 - r2)) := hr6
      clear hb2 hc hf hr6
      go_wp2_with fail
      all_goals
        go_ret
        refine ⟨_, rfl, by omega, by omega, fun h => ?_, HB2.out⟩
        have h1 := HC1.out (by omega)
        have h2 := HC2.out
        push_cast
        omega

theorem szC_all : ∀ k : Nat, SzVlC k ∧ SzVlSC k
  | 0 => ⟨szValue_cnt 0 (szValueS_cnt 0 (fun g h => by omega)), szValueS_cnt 0 (fun g h => by omega)⟩
  | k + 1 => by
    have h1 : SzVlSC (k + 1) := szValueS_cnt (k + 1) (fun g h => by obtain rfl : k = g := by omega
                                                                    exact (szC_all k).1)
    exact ⟨szValue_cnt (k + 1) h1, h1⟩

end Go.Proofs.Ytdaohfeajicamaa
