
/-
  DERIVED. THE WALKS OF laws.heldStringS, laws.heldValueS, laws.heldValue: what was marked is held.
-/
import Derived.Test.YtdaohfeajicamaaVlMark
namespace Go.Proofs.Ytdaohfeajicamaa
open Go.RowKit
set_option linter.unusedVariables false
set_option linter.unusedSimpArgs false

theorem beq_refl_bytes (s : ByteArray) : (s.toList == s.toList) = true := by simp

theorem markText_at (k j : Nat) (w : World) (h1 : 1 ≤ k + j) (h2 : k + j ≤ 99999999) :
    Calls Try.prog 64 #[.int .i64 ((k : Int) + (j : Int))] w fun e w' => e = .returned (.string (markB (k + j))) ∧ Below w.heap.size w w' := by
  have h := markText_any (k + j) w h1 h2
  have ek : ((k + j : Nat) : Int) = (k : Int) + (j : Int) := by omega
  rw [ek] at h
  exact h

set_option maxHeartbeats 2000000 in
theorem heldStringS_any (l : List ByteArray) (v : Value) (k : Nat) (w : World) (hrow : StrRow w 0 l v) (hM : MkN k l) (hk1 : 1 ≤ k) (hk2 : k + l.length ≤ 99999990) :
    Calls Try.prog 42 #[v, .int .i64 (k : Int)] w fun e w' => e = .returned (.int .i64 ((k + l.length : Nat) : Int)) ∧ Below w.heap.size w w' := by
  obtain ⟨a, cap, rfl, hw, hrest⟩ := hrow.len
  have hlen : (l.length : Int) ≤ 99999990 := by omega
  have hki : (k : Int) ≤ 99999990 := by omega
  have hk0 : (0 : Int) ≤ (k : Int) := by omega
  have HM : Hid (MkN k l) := hM
  clear hrow hw hM
  go_enter Try.func42, Try.ntmps42
  go_wp2_with fail
  go_loopw [1, 5] (fun n i wr => ∃ j : Nat, j ≤ l.length ∧ i = .int .i64 j ∧ n = .int .i64 ((k : Int) + (j : Int)) ∧ Hid (Below w.heap.size w wr)) (fun _ i _ => l.length - (intOf i).toNat)
  case atStart => exact ⟨0, Nat.zero_le _, rfl, by simp, Below.refl _ _⟩
  case round =>
    obtain ⟨j, hj, rfl, rfl, HB⟩ := hrel
    have hji : (j : Int) ≤ 99999990 := by omega
    have hj0 : (0 : Int) ≤ (j : Int) := by omega
    by_cases hlt : j < l.length
    · obtain ⟨b, off, rfl, _, hcs⟩ := hrest (List.ne_nil_of_length_pos (by omega))
      obtain ⟨c0, hs⟩ := hcs j hlt
      have c1 : wr.cell? ⟨b, off + j, none⟩ = some (.string (markB (k + j))) := by
        rw [← HM.out j hlt]; exact (Keeps.of_below HB.out (Nat.le_refl _) 0).cell (Nat.zero_le _) c0
      have ek : ((k + j : Nat) : Int) = (k : Int) + (j : Int) := by omega
      have hbq := beq_refl_bytes (markB (k + j))
      clear hcs hrest c0
      go_wp2_with fail
      go_region_with (go_at_call 64; refine (markText_at k j _ (by omega) (by omega)).mono ?_; rintro e w1 ⟨rfl, hb1⟩; have y0 := cell_on (W := wr.drew) hb1 c1; have HB1 : Hid _ := hb1; clear hb1)
      all_goals
        have HB2 : Hid (Below w.heap.size w w1) := HB.out.drew.trans (Below.mono HB1.out HB.out.size)
        go_wp2_with fail
        exact ⟨⟨j + 1, by omega, by go_num, by go_num, HB2⟩, by simp [intOf]; omega⟩
    · obtain rfl : j = l.length := by omega
      go_wp2_with fail
      go_ret
      exact ⟨ret_int (by omega), HB.out⟩

theorem markText_two (k : Nat) (w : World) (h2 : k + 2 ≤ 99999999) :
    Calls Try.prog 64 #[.int .i64 ((k : Int) + 1 + 1)] w fun e w' => e = .returned (.string (markB (k + 2))) ∧ Below w.heap.size w w' := by
  have h := markText_any (k + 2) w (by omega) h2
  have ek : ((k + 2 : Nat) : Int) = (k : Int) + 1 + 1 := by omega
  rw [ek] at h
  exact h

def HeldLC (f : Nat) : Prop := ∀ (l : List Vl) (v : Value) (k : Nat) (w : World), Row w 0 5 80 (VlR w 0 f) l v → MkL (MkE f) (cntE f) k l → 1 ≤ k → k + cntS (cntE f) l ≤ 99999990 →
  Calls Try.prog 41 #[v, .int .i64 (k : Int)] w fun e w' => e = .returned (.int .i64 ((k + cntS (cntE f) l : Nat) : Int)) ∧ Below w.heap.size w w'

set_option maxHeartbeats 4000000 in
theorem heldL_step (f : Nat) (ih : ∀ g, f = g + 1 → HeldLC g) : HeldLC f := by
  intro l v k w hrow hM hk1 hk2
  obtain ⟨a, cap, rfl, hw, hrest⟩ := hrow.len
  have hlen : (l.length : Int) ≤ 140737488351232 := by omega
  have hki : (k : Int) ≤ 99999990 := by omega
  have hk0 : (0 : Int) ≤ (k : Int) := by omega
  have HM : Hid (MkL (MkE f) (cntE f) k l) := hM
  have HK2 : Hid (k + cntS (cntE f) l ≤ 99999990) := hk2
  clear hrow hw hM hk2
  go_enter Try.func41, Try.ntmps41
  go_wp2_with fail
  go_loopw [1, 5] (fun n i wr => ∃ j kj : Nat, j ≤ l.length ∧ i = .int .i64 j ∧ n = .int .i64 (kj : Int) ∧ Hid (kj = k + cntS (cntE f) (l.take j)) ∧ Hid (Below w.heap.size w wr)) (fun _ i _ => l.length - (intOf i).toNat)
  case atStart => exact ⟨0, k, Nat.zero_le _, rfl, rfl, (by show k = k + cntS _ (l.take 0); simp [cntS]), Below.refl _ _⟩
  case round =>
    obtain ⟨j, kj, hj, rfl, rfl, HKJ, HB⟩ := hrel
    have hkb : kj ≤ 99999990 := by have := HKJ.out; have := HK2.out; have := cntS_take_le (cntE f) l j; omega
    have hkl : 1 ≤ kj := by have := HKJ.out; omega
    have hkji : (kj : Int) ≤ 99999990 := by omega
    have hkj0 : (0 : Int) ≤ (kj : Int) := by omega
    by_cases hlt : j < l.length
    · obtain ⟨b, off, rfl, _, hcs⟩ := hrest (List.ne_nil_of_length_pos (by omega))
      obtain ⟨cs, hl5, hc, hR⟩ := hcs j hlt
      obtain ⟨g, rfl⟩ : ∃ g, f = g + 1 := by
        cases f with
        | zero => exact hR.elim
        | succ g => exact ⟨g, rfl⟩
      have hIH := ih g rfl
      clear ih
      obtain ⟨p, n, p', n', rfl⟩ := hR.cells
      have hmk := HM.out j hlt
      rw [← HKJ.out] at hmk
      obtain ⟨m1, m2, m3, m4, m5⟩ := hmk
      have hk : Keeps 0 w wr := Keeps.of_below HB.out (Nat.le_refl _) _
      obtain ⟨c0, c1, c2, c3, c4⟩ := (hc.keeps hk (Nat.zero_le _)).five
      rw [m1] at c0
      rw [m2] at c1
      rw [m3] at c2
      have hR' := VlR.keeps hk _ _ _ hR
      obtain ⟨vl', vn', hv, _, _, _, hrow, hnames⟩ := hR'
      simp only [List.cons.injEq, true_and, and_true] at hv
      obtain ⟨rfl, rfl⟩ := hv
      have HR : Hid (∀ W, Keeps 0 wr W → Row W 0 5 80 (VlR W 0 g) l[j].list (.slice p l[j].list.length n)) := fun W h => VlRow.keeps h hrow
      have HN : Hid (∀ W, Keeps 0 wr W → StrRow W 0 l[j].names (.slice p' l[j].names.length n')) := fun W h => hnames.keeps h
      have HM4 : Hid (MkL (MkE g) (cntE g) (kj + 3) l[j].list) := m4
      have HM5 : Hid (MkN (kj + 3 + cntS (cntE g) l[j].list) l[j].names) := m5
      have HKN : Hid (kj + (3 + cntS (cntE g) l[j].list + l[j].names.length) = k + cntS (cntE (g + 1)) (l.take (j + 1)) ∧ k + cntS (cntE (g + 1)) (l.take (j + 1)) ≤ 99999990) := by
        have h1 := HKJ.out; have h2 := HK2.out
        have h3 := cntS_take_le (cntE (g + 1)) l (j + 1)
        have h4 := cntS_snoc (cntE (g + 1)) hlt
        have h5 : cntE (g + 1) l[j] = 3 + cntS (cntE g) l[j].list + l[j].names.length := rfl
        refine ⟨?_, by omega⟩
        omega
      generalize hnl : l[j].list.length = nl at *
      generalize hnn : l[j].names.length = nn at *
      have hkn : kj + 3 + nn ≤ 99999990 := by have := HKN.out; omega
      have HNN : Hid (l[j].names.length = nn) := hnn
      have HNL : Hid (l[j].list.length = nl) := hnl
      have hbq := beq_refl_bytes (markB (kj + 2))
      clear hc hR hcs hrest hrow hnames m1 m2 m3 m4 m5 hk hnl hnn hl5 HM
      go_wp2_with fail
      go_region_with (go_at_call 64; refine (markText_two kj _ (by omega)).mono ?_; rintro e w1 ⟨rfl, hb1⟩; have y2 := cell_on (W := wr.drew) hb1 c2; have HB1 : Hid _ := hb1; clear hb1)
      all_goals
        have y3 := cell_on (W := wr.drew) HB1.out c3
        have y4 := cell_on (W := wr.drew) HB1.out c4
        have HB2 : Hid (Below w.heap.size w w1) := HB.out.drew.trans (Below.mono HB1.out HB.out.size)
        have HKE : Hid (Keeps 0 wr w1) := (Keeps.refl _ _).drew.trans (Keeps.of_below HB1.out (Nat.le_refl _) _)
        go_wp2_with fail
        have hcall := hIH l[j].list _ (kj + 3) _ (HR.out _ HKE.out) HM4.out (by omega) (by have := HKN.out; omega)
        have ek3 : ((kj + 3 : Nat) : Int) = (kj : Int) + 1 + 1 + 1 := by omega
        rw [ek3] at hcall
        refine hcall.mono ?_
        rintro e w2 ⟨rfl, hb2⟩
        obtain ⟨k2, hk2⟩ : ∃ k2, kj + 3 + cntS (cntE g) l[j].list = k2 := ⟨_, rfl⟩
        have HK2' : Hid (kj + 3 + cntS (cntE g) l[j].list = k2) := hk2
        rw [hk2]
        have hk2b : k2 + nn ≤ 99999990 := by have := HKN.out; omega
        have hk2i : (k2 : Int) ≤ 99999990 := by omega
        have hk20 : (0 : Int) ≤ (k2 : Int) := by omega
        have hk2d : decide ((k2 : Int) < 0) = false := decide_eq_false (by omega)
        replace y4 := cell_on hb2 y4
        have HB3 : Hid (Below w.heap.size w w2) := HB2.out.trans (hb2.mono HB2.out.size)
        have HKE2 : Hid (Keeps 0 wr w2) := HKE.out.trans (Keeps.of_below hb2 (Nat.le_refl _) _)
        clear hcall hb2 hk2 c0 c1 c2 c3 c4 y2 y3
        go_wp2_with fail
        refine (heldStringS_any l[j].names _ k2 _ (HN.out _ HKE2.out) (by rw [← HK2'.out]; exact HM5.out) (by have := HK2'.out; omega) (by rw [HNN.out]; omega)).mono ?_
        rintro e w3 ⟨rfl, hb3⟩
        rw [HNN.out]
        have HB4 : Hid (Below w.heap.size w w3) := HB3.out.trans (hb3.mono HB3.out.size)
        obtain ⟨k3, hk3⟩ : ∃ k3, k2 + nn = k3 := ⟨_, rfl⟩
        have HK3 : Hid (k2 + nn = k3) := hk3
        rw [hk3]
        have hk3d : decide ((k3 : Int) < 0) = false := decide_eq_false (by omega)
        clear hb3 hk3
        go_wp2_with fail
        refine ⟨⟨j + 1, k3, by omega, by go_num, rfl, ?_, HB4⟩, by simp [intOf]; omega⟩
        show k3 = _
        have h1 := HKN.out.1; have h2 := HK3.out; have h3 := HK2'.out
        omega
    · obtain rfl : j = l.length := by omega
      go_wp2_with fail
      go_ret
      refine ⟨ret_int ?_, HB.out⟩
      rw [HKJ.out, List.take_length]

theorem heldL_all : ∀ f : Nat, HeldLC f
  | 0 => heldL_step 0 (fun g h => by omega)
  | f + 1 => heldL_step (f + 1) (fun g h => by obtain rfl : f = g := by omega
                                               exact heldL_all f)

set_option maxHeartbeats 1000000 in
theorem heldValue_any (f k : Nat) (t : Vl) (x0 x1 x2 vl vn : Value) (w : World) (ht : VlR w 0 (f + 1) t [x0, x1, x2, vl, vn]) (hM : MkL (MkE f) (cntE f) k t.list) (hN : MkN (k + cntS (cntE f) t.list) t.names) (hk1 : 1 ≤ k) (hk2 : k + cntS (cntE f) t.list + t.names.length ≤ 99999990) :
    Calls Try.prog 15 #[.agg #[x0, x1, x2, vl, vn], .int .i64 (k : Int)] w fun e w' => e = .returned (.int .i64 ((k + cntS (cntE f) t.list + t.names.length : Nat) : Int)) ∧ Below w.heap.size w w' := by
  obtain ⟨vl', vn', hv, _, _, _, hrow, hnames⟩ := ht
  simp only [List.cons.injEq, and_true] at hv
  obtain ⟨rfl, rfl, rfl, rfl, rfl⟩ := hv
  obtain ⟨al, cl, rfl, _⟩ := hrow.len
  obtain ⟨an, cn, rfl, _⟩ := hnames.len
  have HR : Hid (∀ W, Keeps 0 w W → Row W 0 5 80 (VlR W 0 f) t.list (.slice al t.list.length cl)) := fun W h => VlRow.keeps h hrow
  have HN : Hid (∀ W, Keeps 0 w W → StrRow W 0 t.names (.slice an t.names.length cn)) := fun W h => hnames.keeps h
  have HM : Hid _ := hM
  have HMN : Hid _ := hN
  have HK : Hid _ := hk2
  clear hrow hnames hM hN hk2
  go_enter Try.func15, Try.ntmps15
  go_wp2_with fail
  refine (heldL_all f t.list _ k _ (HR.out _ ((Keeps.refl _ _).alloc _)) HM.out hk1 (by have := HK.out; omega)).mono ?_
  rintro e w1 ⟨rfl, hb1⟩
  have b4 := cell_on hb1 (p := ⟨w.heap.size, 4, none⟩) (by simp; rfl)
  have HB1 : Hid (Below w.heap.size w w1) := ((Below.refl _ _).alloc (Nat.le_refl _) _).trans (hb1.mono (by simp))
  obtain ⟨k2, hk2⟩ : ∃ k2, k + cntS (cntE f) t.list = k2 := ⟨_, rfl⟩
  have HK2 : Hid (k + cntS (cntE f) t.list = k2) := hk2
  rw [hk2]
  have hk2d : decide ((k2 : Int) < 0) = false := decide_eq_false (by omega)
  have hz : w.heap.size < w1.heap.size := cell_lt b4
  clear hb1 hk2
  go_wp2_with fail
  refine (heldStringS_any t.names _ k2 _ (HN.out _ (Keeps.of_below HB1.out (Nat.le_refl _) _)) (by rw [← HK2.out]; exact HMN.out) (by have := HK2.out; omega) (by have := HK2.out; have := HK.out; omega)).mono ?_
  rintro e w2 ⟨rfl, hb2⟩
  have HB2 : Hid (Below w.heap.size w w2) := HB1.out.trans (hb2.mono HB1.out.size)
  obtain ⟨k3, hk3⟩ : ∃ k3, k2 + t.names.length = k3 := ⟨_, rfl⟩
  have HK3 : Hid (k2 + t.names.length = k3) := hk3
  rw [hk3]
  have hk3d : decide ((k3 : Int) < 0) = false := decide_eq_false (by omega)
  clear hb2 hk3
  go_wp2_with fail
  go_ret
  exact ⟨ret_int (by rw [← HK3.out, ← HK2.out]), HB2.out⟩

end Go.Proofs.Ytdaohfeajicamaa
