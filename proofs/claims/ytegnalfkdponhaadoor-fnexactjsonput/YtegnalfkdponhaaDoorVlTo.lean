
/-
  DERIVED. THE WALKS OF laws.toValue, laws.toValueS: a copy in new memory that reads as the same.
-/
import Derived.Test.YtegnalfkdponhaaDoorStrW
namespace Go.Proofs.YtegnalfkdponhaaDoor
open Go.RowKit
set_option linter.unusedVariables false
set_option linter.unusedSimpArgs false

def ToVl (k : Nat) : Prop := ∀ (t : Vl) (vl vn : Value) (w : World), VlR w 0 k t [.int .i64 t.kind, .int .i64 t.num, .string t.text, vl, vn] →
  Calls Tryd.prog 8 #[.agg #[.int .i64 t.kind, .int .i64 t.num, .string t.text, vl, vn]] w fun e w' =>
    ∃ vl' vn', e = .returned (.agg #[.int .i64 t.kind, .int .i64 t.num, .string t.text, vl', vn']) ∧ VlR w' w.heap.size k t [.int .i64 t.kind, .int .i64 t.num, .string t.text, vl', vn'] ∧ Below w.heap.size w w'
def ToVlS (k : Nat) : Prop := ∀ (l : List Vl) (v : Value) (w : World), Row w 0 5 80 (VlR w 0 k) l v →
  Calls Tryd.prog 20 #[v] w fun e w' => ∃ v', e = .returned v' ∧ Row w' w.heap.size 5 80 (VlR w' w.heap.size k) l v' ∧ Below w.heap.size w w'

set_option maxHeartbeats 1000000 in
theorem toValueS_step (k : Nat) (hT : ToVl k) : ToVlS k := by
  intro l v w hrow
  obtain ⟨a, cap, rfl, hw, hrest⟩ := hrow.len
  have hlen : (l.length : Int) ≤ 140737488351232 := by omega
  obtain ⟨i, hi, hz, hs, hby⟩ := info_impl_Value
  have hmk := run_make (P := Tryd.prog) w 28 30 i _ Tryd.underlying28 hi hz .i64 .i64 (l.length : Int) (l.length : Int) (by omega) (by omega) (by rw [hby]; omega) (by omega)
  rw [hs, Int.toNat_natCast] at hmk
  clear hi hz hs hby hrow
  go_enter Tryd.func20, Tryd.ntmps20
  go_wp2_with fail
  clear hmk
  go_loopw [4] (fun i wr => ∃ j : Nat, j ≤ l.length ∧ i = .int .i64 j ∧ Filled wr w.heap.size 5 30 (VlR wr (w.heap.size + 1) k) l j ∧ Below w.heap.size w wr) (fun i _ => l.length - (intOf i).toNat)
  case atStart => exact ⟨0, Nat.zero_le _, rfl, Filled.made w 5 30 _ l _ (size_madeCells _ _), (Below.refl _ _).alloc (Nat.le_refl _) _⟩
  case round =>
    obtain ⟨j, hj, rfl, HF, hb⟩ := hrel
    by_cases hlt : j < l.length
    · obtain ⟨b, off, rfl, _, hcs⟩ := hrest (List.ne_nil_of_length_pos (by omega))
      obtain ⟨cs, hl3, hc, hR⟩ := hcs j hlt
      obtain ⟨p, n, p', n', rfl⟩ := hR.cells
      have hk : Keeps 0 w wr := Keeps.of_below hb (Nat.le_refl _) _
      obtain ⟨c0, c1, c2, c3, c4⟩ := (hc.keeps hk (Nat.zero_le _)).five
      have HR : Hid (VlR wr 0 k l[j] [.int .i64 l[j].kind, .int .i64 l[j].num, .string l[j].text, .slice p l[j].list.length n, .slice p' l[j].names.length n']) := VlR.keeps hk k _ _ hR
      clear hc hR hcs hrest
      go_wp2_with fail
      refine (hT _ _ _ _ HR.out).mono ?_
      rintro e w1 ⟨vl', vn', rfl, hR1, hb1⟩
      obtain ⟨p1, n1, p1', n1', hv1⟩ := hR1.cells
      simp only [List.cons.injEq, true_and, and_true] at hv1
      obtain ⟨rfl, rfl⟩ := hv1
      have HF1 := Filled.below (R' := VlR w1 (w.heap.size + 1) k) HF hb1 HF.lt (VlR.keeps (Keeps.of_below hb1 (Nat.le_refl _) _) k)
      have hlt0 := HF.lt
      obtain ⟨⟨x0, s0⟩, z0⟩ := HF1.slot hlt (q := 0) (by omega)
      obtain ⟨⟨x1, s1⟩, z1⟩ := HF1.slot hlt (q := 1) (by omega)
      obtain ⟨⟨x2, s2⟩, z2⟩ := HF1.slot hlt (q := 2) (by omega)
      obtain ⟨⟨x3, s3⟩, z3⟩ := HF1.slot hlt (q := 3) (by omega)
      obtain ⟨⟨x4, s4⟩, z4⟩ := HF1.slot hlt (q := 4) (by omega)
      rw [Nat.add_zero] at s0 z0
      have HF2 : Hid (Filled (w1.setCells w.heap.size (j * 5) [.int .i64 l[j].kind, .int .i64 l[j].num, .string l[j].text, .slice p1 l[j].list.length n1, .slice p1' l[j].names.length n1']) w.heap.size 5 30
          (VlR (w1.setCells w.heap.size (j * 5) [.int .i64 l[j].kind, .int .i64 l[j].num, .string l[j].text, .slice p1 l[j].list.length n1, .slice p1' l[j].names.length n1']) (w.heap.size + 1) k) l (j + 1)) :=
        HF1.put hlt _ rfl (VlR.keeps (Keeps.setCells (Nat.lt_succ_self _) _ _ (Keeps.refl _ _)) k)
          (VlR.keeps (Keeps.setCells (Nat.lt_succ_self _) _ _ (Keeps.refl _ _)) k _ _ (VlR.base hlt0 k _ _ hR1))
      have HB2 : Hid (Below w.heap.size w (w1.setCells w.heap.size (j * 5) [.int .i64 l[j].kind, .int .i64 l[j].num, .string l[j].text, .slice p1 l[j].list.length n1, .slice p1' l[j].names.length n1'])) :=
        Below.setCells (Nat.le_refl _) _ _ (hb.trans (hb1.mono hb.size))
      clear HF1 HF HR hb1 hR1 c0 c1 c2 c3 c4 hk hb
      go_wp2_with fail
      exact ⟨⟨j + 1, by omega, by go_num, HF2, HB2⟩, by simp [intOf]; omega⟩
    · obtain rfl : j = l.length := by omega
      go_wp2_with fail
      go_ret
      exact ⟨_, rfl, HF.row (Nat.le_refl _) hw (by unfold maxLen; omega) (VlR.base (Nat.le_succ _) k), hb⟩

set_option maxHeartbeats 1000000 in
theorem toValue_step (k : Nat) (hS : ToVlS k) : ToVl (k + 1) := by
  intro t vl vn w ht
  obtain ⟨vl', vn', hv, hkd, hnm, hn, hrow, hnames⟩ := ht
  simp only [List.cons.injEq, true_and, and_true] at hv
  obtain ⟨rfl, rfl⟩ := hv
  have HR : Hid (∀ W, Keeps 0 w W → Row W 0 5 80 (VlR W 0 k) t.list vl) := fun W h => VlRow.keeps h hrow
  have HN : Hid (∀ W, Keeps 0 w W → StrRow W 0 t.names vn) := fun W h => hnames.keeps h
  clear hrow hnames
  go_enter Tryd.func8, Tryd.ntmps8
  go_wp2_with fail
  refine (hS t.list vl _ (HR.out _ ((((Keeps.refl _ _).alloc _).alloc _).alloc _))).mono ?_
  rintro e w1 ⟨v', rfl, hR1, hb1⟩
  obtain ⟨a', cap', rfl, hw1, _⟩ := hR1.len
  obtain ⟨hc, hf⟩ := bcell hb1
  have hz : w.heap.size + 1 + 1 < w1.heap.size := by have := hb1.size; simp at this; omega
  have hz1 : w.heap.size + 1 < w1.heap.size := by omega
  have hz0 : w.heap.size < w1.heap.size := by omega
  have HR1 : Hid (∀ W, Keeps (w.heap.size + 3) w1 W → Row W (w.heap.size + 3) 5 80 (VlR W (w.heap.size + 3) k) t.list (.slice a' t.list.length cap')) := fun W h => VlRow.keeps h (VlRow.base (by simp) hR1)
  have HB : Hid (Below w.heap.size w w1) := ((((Below.refl _ _).alloc (Nat.le_refl _) _).alloc (by simp) _).alloc (by simp; omega) _).trans (hb1.mono (by simp; omega))
  clear hR1 hb1
  go_wp2_with fail
  have hbs : Below w.heap.size w (w1.setCell ⟨w.heap.size + 1 + 1, 3, none⟩ (.slice a' t.list.length cap')) := HB.out.setCell (by simp; omega) _
  refine (toStringS_any t.names vn _ (HN.out _ (Keeps.of_below hbs (Nat.le_refl _) _))).mono ?_
  rintro e w2 ⟨vn', rfl, hN2, hb2⟩
  obtain ⟨a2, cap2, rfl, hw2, _⟩ := hN2.len
  obtain ⟨hc2, hf2⟩ := bcell hb2
  have hz2 : w.heap.size + 1 + 1 < w2.heap.size := by have := hb2.size; simp at this; omega
  have HB2 : Hid (Below w.heap.size w w2) := hbs.trans (hb2.mono (by simp; omega))
  have HR2 : Hid (∀ W, Keeps (w.heap.size + 3) w2 W → Row W (w.heap.size + 3) 5 80 (VlR W (w.heap.size + 3) k) t.list (.slice a' t.list.length cap')) := fun W h =>
    HR1.out W ((((Keeps.refl _ _).setCell (by simp) _).trans (Keeps.of_below hb2 (Nat.le_refl _) _)).trans h)
  have HN2 : Hid (∀ W, Keeps (w.heap.size + 3) w2 W → StrRow W (w.heap.size + 3) t.names (.slice a2 t.names.length cap2)) := fun W h => StrRow.keeps h (StrRow.base (by simp; omega) hN2)
  clear hN2 hb2 hbs HR1 HN HR
  go_wp2_with fail
  refine bodyPost_ret (v := .agg #[.int .i64 t.kind, .int .i64 t.num, .string t.text, .slice a' t.list.length cap', .slice a2 t.names.length cap2]) (by simp [results, Tryd.results8, go_sem, hc, hc2, hz, hz0, hz1]) rfl ⟨_, _, rfl, ⟨_, _, rfl, hkd, hnm, hn, ?_, ?_⟩, ?_⟩
  · refine VlRow.base (base := w.heap.size + 3) (by omega) (HR2.out _ ?_)
    exact ((((((Keeps.refl _ _).setCell (by simp; try omega) _).setCell (by simp; try omega) _).setCell (by simp; try omega) _).setCell (by simp; try omega) _).setCell (by simp; try omega) _).setCell (by simp; try omega) _
  · refine StrRow.base (base := w.heap.size + 3) (by omega) (HN2.out _ ?_)
    exact ((((((Keeps.refl _ _).setCell (by simp; try omega) _).setCell (by simp; try omega) _).setCell (by simp; try omega) _).setCell (by simp; try omega) _).setCell (by simp; try omega) _).setCell (by simp; try omega) _
  · exact (((((HB2.out.setCell (by simp; try omega) _).setCell (by simp; try omega) _).setCell (by simp; try omega) _).setCell (by simp; try omega) _).setCell (by simp; try omega) _).setCell (by simp; try omega) _

theorem toV_all : ∀ k : Nat, ToVl k ∧ ToVlS k
  | 0 => ⟨fun _ _ _ _ h => h.elim, toValueS_step 0 (fun _ _ _ _ h => h.elim)⟩
  | k + 1 => ⟨toValue_step k (toV_all k).2, toValueS_step (k + 1) (toValue_step k (toV_all k).2)⟩

end Go.Proofs.YtegnalfkdponhaaDoor
