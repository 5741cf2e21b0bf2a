
/-
  DERIVED. THE WALKS OF spec.ValueDeep, and of the sizes with depths; a value that owns its memory may be walked through.
-/
import Derived.Test.YthlcgeonkimmlaaDeepSc
import Derived.Test.YthlcgeonkimmlaaVlToO
namespace Go.Proofs.Ythlcgeonkimmlaa
open Go.RowKit
set_option linter.unusedVariables false
set_option linter.unusedSimpArgs false

theorem VlO.pin {w : World} {B : Nat} : ∀ (k lo hi : Nat) (t : Vl) (x y z vl vn : Value), VlO w k lo hi t [x, y, z, vl, vn] → hi ≤ B → PIn w B k t.list vl
  | 0, _, _, _, _, _, _, _, _, h, _ => h.elim
  | k + 1, lo, hi, t, x, y, z, vl, vn, ⟨vl', vn', q0, q1, h1, _, _, _, h5, h6, h7, h8, h9, h10⟩, hB => by
    simp only [List.cons.injEq, and_true] at h1
    obtain ⟨_, _, _, rfl, rfl⟩ := h1
    rcases h7 with ⟨hl, rfl⟩ | ⟨b, c, p, rfl, g1, g2, g3, g4, g5, g6, g7, g8⟩
    · exact Or.inl ⟨hl, none, 0, rfl⟩
    · have hb := h9 b (At.mk _ _ _)
      refine Or.inr ⟨b, 0, t.list.length, rfl, by omega, ⟨c, _, g2⟩, g1, fun i hi => ?_⟩
      obtain ⟨cs, a1, a2, a3⟩ := g8 i hi
      have h4 : p (i + 1) ≤ p t.list.length := chain_le g7 (by omega) (Nat.le_refl _)
      obtain ⟨a, c', a', c'', hcs⟩ := a3.cells
      subst hcs
      refine ⟨_, ?_, VlO.pin k _ _ _ _ _ _ _ _ a3 (by omega)⟩
      rw [g2.cell, Nat.zero_add, a2 3 (by omega)]
      rfl

def SzPostD (n : Nat) (left : Int) (w : World) (e : Ending) (w' : World) : Prop := ∃ r : Int, e = .returned (.int .i64 r) ∧ -1 ≤ r ∧ r ≤ left ∧ (0 ≤ r → (n : Int) ≤ left - r) ∧ Below w.heap.size w w'
def SzVlD (dep : Vl → Nat) (k : Nat) : Prop := ∀ (t : Vl) (vl vn : Value) (left : Int) (w : World), VlR w 0 k t [.int .i64 t.kind, .int .i64 t.num, .string t.text, vl, vn] → 0 ≤ left → left ≤ 1048576 →
  Calls Try.prog 4 #[.agg #[.int .i64 t.kind, .int .i64 t.num, .string t.text, vl, vn], .int .i64 left] w (SzPostD (dep t - 1) left w)
def SzVlSD (dep : Vl → Nat) (k : Nat) : Prop := ∀ (l : List Vl) (v : Value) (left : Int) (w : World), Row w 0 5 80 (VlR w 0 k) l v → 0 ≤ left → left ≤ 1048576 →
  Calls Try.prog 9 #[v, .int .i64 left] w (SzPostD (maxL dep l) left w)

set_option maxHeartbeats 400000 in
theorem szValueS_dep (dep : Vl → Nat) (hd : IsDep dep) (k : Nat) (hT : SzVlD dep k) : SzVlSD dep k := by
  intro l v left w hrow h0 h1
  obtain ⟨a, cap, rfl, hw, hrest⟩ := hrow.len
  have hlen : (l.length : Int) ≤ 140737488351232 := by omega
  by_cases hneg : left - (l.length : Int) < 0
  · go_enter Try.func9, Try.ntmps9
    go_wp2_with fail
    go_ret
    exact ⟨_, rfl, by omega, by omega, by omega, Below.refl _ _⟩
  · go_enter Try.func9, Try.ntmps9
    go_wp2_with fail
    go_loopw [1, 5] (fun lf i wr => ∃ (j : Nat) (r : Int), j ≤ l.length ∧ i = .int .i64 j ∧ lf = .int .i64 r ∧ 0 ≤ r ∧ r ≤ left - (l.length : Int) ∧ Hid ((maxL dep (l.take j) : Int) ≤ left - (l.length : Int) - r + 1) ∧ Below w.heap.size w wr) (fun _ i _ => l.length - (intOf i).toNat)
    case atStart => exact ⟨0, _, Nat.zero_le _, rfl, rfl, by omega, by omega, (by show (_ : Int) ≤ _; simp [maxL]), Below.refl _ _⟩
    case round =>
      obtain ⟨j, r, hj, rfl, rfl, hr0, hr1, HC, hb⟩ := hrel
      by_cases hlt : j < l.length
      · obtain ⟨b, off, rfl, _, hcs⟩ := hrest (List.ne_nil_of_length_pos (by omega))
        obtain ⟨cs, hl3, hc, hR⟩ := hcs j hlt
        obtain ⟨p, n, p', n', rfl⟩ := hR.cells
        have hk : Keeps 0 w wr := Keeps.of_below hb (Nat.le_refl _) _
        obtain ⟨c0, c1, c2, c3, c4⟩ := (hc.keeps hk (Nat.zero_le _)).five
        have HR : Hid (VlR wr 0 k l[j] [.int .i64 l[j].kind, .int .i64 l[j].num, .string l[j].text, .slice p l[j].list.length n, .slice p' l[j].names.length n']) := VlR.keeps hk k _ _ hR
        have HS : Hid (maxL dep (l.take (j + 1)) = max (maxL dep (l.take j)) (dep l[j])) := maxL_snoc dep hlt
        clear hc hR hcs hrest
        go_wp2_with (go_at_call 4; refine (hT _ _ _ _ _ HR.out hr0 (by omega)).mono ?_; rintro e w1 ⟨r1, rfl, hr2, hr3, hr4, hb1⟩)
        · go_ret
          exact ⟨_, rfl, by omega, by omega, by omega, hb.trans (hb1.mono hb.size)⟩
        · refine ⟨⟨j + 1, r1, by omega, by go_num, rfl, by omega, by omega, ?_, hb.trans (hb1.mono hb.size)⟩, by simp [intOf]; omega⟩
          show (_ : Int) ≤ _
          have h1 := HC.out
          have h2 := HS.out
          have h3 := hr4 (by omega)
          omega
      · obtain rfl : j = l.length := by omega
        have HC2 : Hid ((maxL dep l : Int) ≤ left - (l.length : Int) - r + 1) := by have := HC.out; rw [List.take_length] at this; exact this
        have HE : Hid (l.length = 0 → maxL dep l = 0) := fun h => by rw [List.eq_nil_of_length_eq_zero h]; rfl
        clear HC
        go_wp2_with fail
        go_ret
        exact ⟨_, rfl, by omega, by omega, (fun _ => by have := HC2.out; have := HE.out; omega), hb⟩

set_option maxHeartbeats 400000 in
theorem szValue_dep (dep : Vl → Nat) (hd : IsDep dep) (k : Nat) (hS : SzVlSD dep k) : SzVlD dep (k + 1) := by
  intro t vl vn left w ht h0 h1
  obtain ⟨vl', vn', hv, _, _, hn, hrow, hnames⟩ := ht
  simp only [List.cons.injEq, true_and, and_true] at hv
  obtain ⟨rfl, rfl⟩ := hv
  have hn' : (t.text.size : Int) ≤ 140737488351232 := by omega
  have HD : Hid (dep t - 1 = maxL dep t.list) := by show _ = _; rw [hd t]; omega
  by_cases hneg : left - (t.text.size : Int) < 0
  · go_enter Try.func4, Try.ntmps4
    go_wp2_with fail
    go_ret
    exact ⟨_, rfl, by omega, by omega, by omega, (Below.refl _ _).alloc (Nat.le_refl _) _⟩
  · have HR : Hid (∀ W, Keeps 0 w W → Row W 0 5 80 (VlR W 0 k) t.list vl) := fun W h => VlRow.keeps h hrow
    have HN : Hid (∀ W, Keeps 0 w W → StrRow W 0 t.names vn) := fun W h => hnames.keeps h
    clear hrow hnames
    go_enter Try.func4, Try.ntmps4
    go_wp2_with fail
    refine (hS t.list _ _ _ (HR.out _ ((Keeps.refl _ _).alloc _)) hneg (by omega)).mono ?_
    rintro e w1 ⟨r1, rfl, hr2, hr3, hr3c, hb1⟩
    obtain ⟨hc, hf⟩ := bcell hb1
    have HB : Hid (Below w.heap.size w w1) := ((Below.refl _ _).alloc (Nat.le_refl _) _).trans (hb1.mono (by simp))
    have HC1 : Hid (0 ≤ r1 → (maxL dep t.list : Int) ≤ left - (t.text.size : Int) - r1) := hr3c
    clear hb1 hr3c
    by_cases hneg1 : r1 < 0
    · go_wp2_with fail
      go_ret
      exact ⟨_, rfl, by omega, by omega, by omega, HB.out⟩
    · go_wp2_with fail
      refine (szStringS_any t.names _ _ _ (HN.out _ (Keeps.of_below HB.out (Nat.le_refl _) _)) (by omega) (by omega)).mono ?_
      rintro e w2 ⟨r2, rfl, hr4, hr5, hb2⟩
      have HB2 : Hid (Below w.heap.size w w2) := HB.out.trans (hb2.mono HB.out.size)
      clear hb2 hc hf
      go_wp2_with fail
      all_goals
        go_ret
        refine ⟨_, rfl, by omega, by omega, fun h => ?_, HB2.out⟩
        have h1 := HC1.out (by omega)
        rw [HD.out]
        omega

theorem szD_all (dep : Vl → Nat) (hd : IsDep dep) : ∀ k : Nat, SzVlD dep k ∧ SzVlSD dep k
  | 0 => ⟨fun _ _ _ _ _ h => h.elim, szValueS_dep dep hd 0 (fun _ _ _ _ _ h => h.elim)⟩
  | k + 1 => ⟨szValue_dep dep hd k (szD_all dep hd k).2, szValueS_dep dep hd (k + 1) (szValue_dep dep hd k (szD_all dep hd k).2)⟩

end Go.Proofs.Ythlcgeonkimmlaa
