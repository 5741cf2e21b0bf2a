
/-
  DERIVED. THE WALK OF listForm.value().
-/
import Derived.Test.YtdaohfeajicamaaFmVal
import Derived.Handy
namespace Go.Proofs.Ytdaohfeajicamaa
open Go.RowKit
set_option linter.unusedVariables false
set_option linter.unusedSimpArgs false

theorem setCells_else {b : Nat} : ∀ (cs : List Value) (o : Nat) (w : World) (k : Nat), k ≠ b → (w.setCells b o cs).heap[k]? = w.heap[k]?
  | [], _, _, _, _ => rfl
  | v :: r, o, w, k, h => by
    show ((w.setCell ⟨b, o, none⟩ v).setCells b (o + 1) r).heap[k]? = _
    rw [setCells_else r (o + 1) _ k h, Below.heap_setCell _ _ _ _ h]

theorem size_alloc1 (w : World) (o : Obj) : (w.alloc o).heap.size = w.heap.size + 1 := by simp
theorem size_alloc2 (w : World) (o o' : Obj) : ((w.alloc o).alloc o').heap.size = w.heap.size + 2 := by simp

theorem frozen_filled {w : World} {b n : Nat} {e : TypeId} {α : Type} {R : Nat → Nat → α → List Value → Prop} {l : List α} {j q0 q1 : Nat} (h : FilledO w b n e R q0 q1 l j) (o : Nat) : w.frozen? ⟨b, o, none⟩ = false := by
  obtain ⟨c, p, h1, _⟩ := h
  exact h1.frozen o
theorem Owns.made2 (w : World) (o : Obj) (c : Array Value) (e : TypeId) : Owns ((w.alloc o).alloc (.cells c e)) (w.heap.size + 1) c e := by
  have := Owns.made (w.alloc o) c e
  rwa [size_alloc1] at this

set_option maxHeartbeats 4000000 in
theorem valL_step (k : Nat) (ih : ValC k) : ValLC k := by
  intro t v w h0 ho hrow
  obtain ⟨hnum, htx, hnm, hl12, hoks⟩ := fm_list_mem h0 ho
  obtain ⟨a, cap, rfl, hw, hrest⟩ := hrow.len
  have hlen : (t.list.length : Int) ≤ 1000 := by omega
  obtain ⟨i, hi, hz, hs, hby⟩ := info_impl_Value
  have hmk := run_make (P := Try.prog) (w.alloc (.cells #[.int .i64 0, .int .i64 0, .string ⟨#[]⟩, .slice none 0 0, .slice none 0 0] 29)) 27 29 i _ Try.underlying27 hi hz .i64 .i64 (t.list.length : Int) (t.list.length : Int) (by omega) (by omega) (by rw [hby]; omega) (by omega)
  rw [hs, Int.toNat_natCast, size_alloc1] at hmk
  have HOK : Hid (∀ (j : Nat) (h : j < t.list.length), fmB k t.list[j] = true) := hoks
  have HT : Hid (t.kind = 4 ∧ t.num = 0 ∧ t.text = ByteArray.empty ∧ t.names = []) := ⟨h0, hnum, htx, hnm⟩
  clear hi hz hs hby hrow ho hoks hnum htx hnm h0
  go_enter Try.func139, Try.ntmps139
  go_wp2_with fail
  clear hmk
  go_loopw [12] (fun i wr => ∃ j : Nat, j ≤ t.list.length ∧ i = .int .i64 j ∧ Hid (FilledO wr (w.heap.size + 1) 5 29 (VlO wr k) (w.heap.size + 3) wr.heap.size t.list j) ∧ Hid (Below w.heap.size w wr) ∧
    Hid (Owns wr w.heap.size #[.int .i64 0, .int .i64 0, .string ⟨#[]⟩, .slice none 0 0, .slice none 0 0] 29) ∧ Hid (Owns wr (w.heap.size + 1 + 1) #[.int .i64 4, .int .i64 0, .string ⟨#[]⟩, .slice (some ⟨w.heap.size + 1, 0, none⟩) t.list.length t.list.length, .slice none 0 0] 29)) (fun i _ => t.list.length - (intOf i).toNat)
  case atStart =>
    refine ⟨0, Nat.zero_le _, rfl, ?_, ?_, ?_, ?_⟩
    · refine FilledO.made (c := madeCells _ _) (Owns.below (Owns.made2 w _ _ _) ((Below.refl _ _).alloc (Nat.le_refl _) _) (by simp)) (size_madeCells _ _) (by simp)
    · exact (((Below.refl _ _).alloc (Nat.le_refl _) _).alloc (by simp) _).alloc (by simp; omega) _
    · exact Owns.below (Owns.made w _ _) (((Below.refl _ _).alloc (Nat.le_refl _) _).alloc (by simp) _) (by simp)
    · have := Owns.made ((w.alloc (Obj.cells #[.int .i64 0, .int .i64 0, .string ⟨#[]⟩, .slice none 0 0, .slice none 0 0] 29)).alloc (Obj.cells (madeCells #[.int .i64 0, .int .i64 0, .string ByteArray.empty, .slice none 0 0, .slice none 0 0] (t.list.length * 5)) 29)) #[.int .i64 4, .int .i64 0, .string ⟨#[]⟩, .slice (some ⟨w.heap.size + 1, 0, none⟩) t.list.length t.list.length, .slice none 0 0] 29
      rw [size_alloc2] at this
      exact this
  case round =>
    obtain ⟨j, hj, rfl, HF, HB, HO0, HO2⟩ := hrel
    have b0 : ∀ o, wr.cell? ⟨w.heap.size, o, none⟩ = #[Value.int .i64 0, .int .i64 0, .string ⟨#[]⟩, .slice none 0 0, .slice none 0 0][o]? := fun o => HO0.out.cell o
    have v0 : wr.cell? ⟨w.heap.size + 1 + 1, 0, none⟩ = some (.int .i64 4) := by rw [HO2.out.cell]; rfl
    have v1 : wr.cell? ⟨w.heap.size + 1 + 1, 1, none⟩ = some (.int .i64 0) := by rw [HO2.out.cell]; rfl
    have v2 : wr.cell? ⟨w.heap.size + 1 + 1, 2, none⟩ = some (.string ⟨#[]⟩) := by rw [HO2.out.cell]; rfl
    have v3 : wr.cell? ⟨w.heap.size + 1 + 1, 3, none⟩ = some (.slice (some ⟨w.heap.size + 1, 0, none⟩) t.list.length t.list.length) := by rw [HO2.out.cell]; rfl
    have v4 : wr.cell? ⟨w.heap.size + 1 + 1, 4, none⟩ = some (.slice none 0 0) := by rw [HO2.out.cell]; rfl
    by_cases hlt : j < t.list.length
    · obtain ⟨b, off, rfl, _, hcs⟩ := hrest (List.ne_nil_of_length_pos (by omega))
      obtain ⟨cs, hl3, hc, f, rfl, hR⟩ := hcs j hlt
      obtain ⟨T, x, rfl⟩ := FmR.iface hR
      have hk : Keeps 0 w wr := Keeps.of_below HB.out (Nat.le_refl _) _
      have c0 : wr.cell? ⟨b, off + j, none⟩ = some (.iface T x) := by
        have := (hc.keeps hk (Nat.zero_le _)) 0 (by simp)
        rw [Nat.mul_one] at this
        exact this
      have HV : Hid (∀ W, Keeps 0 wr W → Calls Try.prog (mth T) #[x] W (ValP k t.list[j] W)) := fun W h => ih _ _ _ _ (FmR.keeps (hk.trans h) _ _ _ hR) (HOK.out j hlt)
      have hcase : T = 69 ∨ T = 70 ∨ T = 71 ∨ T = 72 ∨ T = 74 ∨ T = 78 ∨ T = 81 ∨ T = 83 := by
        cases k with
        | zero => exact hR.elim
        | succ k =>
          rcases hR with ⟨_, h⟩ | ⟨_, h⟩ | ⟨_, h⟩ | ⟨_, h⟩ | ⟨_, vl, h, _⟩ | ⟨_, _, vl, h, _⟩ | ⟨_, h⟩ | ⟨_, h⟩
          all_goals
            simp only [Value.iface.injEq] at h
            simp [h.1]
      obtain ⟨⟨x0, s0⟩, z0⟩ := HF.out.slot hlt (q := 0) (by omega)
      obtain ⟨⟨x1, s1⟩, z1⟩ := HF.out.slot hlt (q := 1) (by omega)
      obtain ⟨⟨x2, s2⟩, z2⟩ := HF.out.slot hlt (q := 2) (by omega)
      obtain ⟨⟨x3, s3⟩, z3⟩ := HF.out.slot hlt (q := 3) (by omega)
      obtain ⟨⟨x4, s4⟩, z4⟩ := HF.out.slot hlt (q := 4) (by omega)
      simp only [Nat.add_zero] at s0 z0
      have hB1lt : w.heap.size + 1 < wr.heap.size := cell_lt s0
      have HFZ : Hid (∀ o, wr.frozen? ⟨w.heap.size + 1, o, none⟩ = false) := fun o => frozen_filled HF.out o
      clear hc hR hcs hrest hk HOK
      rcases hcase with rfl | rfl | rfl | rfl | rfl | rfl | rfl | rfl
      all_goals
        go_wp2_with fail
        go_region_with ((first | go_at_call 135 | go_at_call 136 | go_at_call 137 | go_at_call 138 | go_at_call 139 | go_at_call 140 | go_at_call 141 | go_at_call 142); refine (HV.out _ (Keeps.refl _ _).drew).mono ?_; rintro e w1 ⟨vl', vn', rfl, hR1, hb1⟩; obtain ⟨p1, n1, p1', n1', hv1⟩ := hR1.cells; simp only [List.cons.injEq, true_and, and_true] at hv1; obtain ⟨rfl, rfl⟩ := hv1; have s0' := cell_on (W := wr.drew) hb1 s0; have s1' := cell_on (W := wr.drew) hb1 s1; have s2' := cell_on (W := wr.drew) hb1 s2; have s3' := cell_on (W := wr.drew) hb1 s3; have s4' := cell_on (W := wr.drew) hb1 s4; have v3' := cell_on (W := wr.drew) hb1 v3; have hfz : ∀ o, w1.frozen? ⟨w.heap.size + 1, o, none⟩ = false := fun o => (hb1.frozen (p := ⟨w.heap.size + 1, o, none⟩) hB1lt).trans (HFZ.out o); have HR1 : Hid _ := hR1; have HB1 : Hid (Below wr.heap.size wr w1) := ((Below.refl _ wr).drew).trans hb1; clear hR1 hb1)
        all_goals
          have hsz1 : wr.heap.size ≤ w1.heap.size := Below.size HB1.out
          have HF1 : FilledO w1 (w.heap.size + 1) 5 29 (VlO w1 k) (w.heap.size + 3) wr.heap.size t.list j := HF.out.same (Nat.le_refl _) (Below.block HB1.out _ hB1lt) (fun a b x cs _ hb' hx => VlO.same k a b x cs (fun y _ h2 => Below.block HB1.out y (Nat.lt_of_lt_of_le h2 hb')) hx)
          have hb0lt := HO0.out.lt
          have hb2lt := HO2.out.lt
          have HF2 : Hid (FilledO (w1.setCells (w.heap.size + 1) (j * 5) [.int .i64 t.list[j].kind, .int .i64 t.list[j].num, .string t.list[j].text, .slice p1 t.list[j].list.length n1, .slice p1' t.list[j].names.length n1']) (w.heap.size + 1) 5 29
              (VlO (w1.setCells (w.heap.size + 1) (j * 5) [.int .i64 t.list[j].kind, .int .i64 t.list[j].num, .string t.list[j].text, .slice p1 t.list[j].list.length n1, .slice p1' t.list[j].names.length n1']) k) (w.heap.size + 3) w1.heap.size t.list (j + 1)) :=
            HF1.put hlt hsz1 _ rfl (fun a b x cs ha _ hx => VlO.same k a b x cs (fun b' h1 _ => setCells_else _ _ _ _ (by omega)) hx)
              (fun a ha1 ha2 => VlO.same k _ _ _ _ (fun b' h1 _ => setCells_else _ _ _ _ (by omega)) (VlO.wide ha2 (Nat.le_refl _) k _ _ HR1.out))
          have hsz2 : (w1.setCells (w.heap.size + 1) (j * 5) [.int .i64 t.list[j].kind, .int .i64 t.list[j].num, .string t.list[j].text, .slice p1 t.list[j].list.length n1, .slice p1' t.list[j].names.length n1']).heap.size = w1.heap.size := by
            simp [World.setCells, World.setCell]
          rw [← hsz2] at HF2
          have HB2 : Hid (Below w.heap.size w (w1.setCells (w.heap.size + 1) (j * 5) [.int .i64 t.list[j].kind, .int .i64 t.list[j].num, .string t.list[j].text, .slice p1 t.list[j].list.length n1, .slice p1' t.list[j].names.length n1'])) :=
            Below.setCells (by omega) _ _ (HB.out.trans (Below.mono HB1.out HB.out.size))
          have HO0' : Hid (Owns (w1.setCells (w.heap.size + 1) (j * 5) [.int .i64 t.list[j].kind, .int .i64 t.list[j].num, .string t.list[j].text, .slice p1 t.list[j].list.length n1, .slice p1' t.list[j].names.length n1']) w.heap.size #[.int .i64 0, .int .i64 0, .string ⟨#[]⟩, .slice none 0 0, .slice none 0 0] 29) :=
            HO0.out.same ((setCells_else _ _ _ _ (by omega)).trans (Below.block HB1.out _ hb0lt))
          have HO2' : Hid (Owns (w1.setCells (w.heap.size + 1) (j * 5) [.int .i64 t.list[j].kind, .int .i64 t.list[j].num, .string t.list[j].text, .slice p1 t.list[j].list.length n1, .slice p1' t.list[j].names.length n1']) (w.heap.size + 1 + 1) #[.int .i64 4, .int .i64 0, .string ⟨#[]⟩, .slice (some ⟨w.heap.size + 1, 0, none⟩) t.list.length t.list.length, .slice none 0 0] 29) :=
            HO2.out.same ((setCells_else _ _ _ _ (by omega)).trans (Below.block HB1.out _ hb2lt))
          clear HF1 HF HB HO0 HO2 HR1 HB1 hsz2 s0 s1 s2 s3 s4 s0' s1' s2' s3' s4' v0 v1 v2 v3 v4 v3'
          go_wp2_with fail
          exact ⟨⟨j + 1, by omega, by go_num, HF2, HB2, HO0', HO2'⟩, by simp [intOf]; omega⟩
    · obtain rfl : j = t.list.length := by omega
      have w0 := b0 0
      have w1 := b0 1
      have w2 := b0 2
      have w3 := b0 3
      have w4 := b0 4
      simp at w0 w1 w2 w3 w4
      have wf := fun o => HO0.out.frozen o
      have hb0lt := HO0.out.lt
      have hb1lt := HF.out.lt
      have HR : Hid (OwnRow wr 29 5 80 (VlO wr k) (w.heap.size + 3) wr.heap.size t.list (.slice (some ⟨w.heap.size + 1, 0, none⟩) t.list.length t.list.length)) := HF.out.row (Or.inl (by omega)) (by omega)
      clear b0 HF HO0 HO2
      go_wp2_with fail
      refine bodyPost_ret (v := .agg #[.int .i64 4, .int .i64 0, .string ⟨#[]⟩, .slice (some ⟨w.heap.size + 1, 0, none⟩) t.list.length t.list.length, .slice none 0 0]) (by simp [results, Try.results139, go_sem, hb0lt, w0, w1, w2, w3, w4]) rfl ?_
      obtain ⟨h0, hnum, htx, hnm⟩ := HT.out
      refine ⟨_, _, (by rw [h0, hnum, htx]; rfl), ⟨_, _, w.heap.size + 3, wr.heap.size, rfl, i64_small (by omega), i64_small (by omega), (by rw [htx]; simp), by omega, by simp [World.setCell], ?_, Or.inl ⟨hnm, rfl⟩, ?_, fun b h => h.none.elim⟩, ?_⟩
      · refine OwnRow.same HR.out (fun y hy => ?_) (fun a b x cs ha hb hx => VlO.same k a b x cs (fun y h1 h2 => ?_) hx)
        · have := hy.eq
          simp only [World.setCell, Array.getElem?_modify]
          repeat rw [if_neg (by omega)]
        · simp only [World.setCell, Array.getElem?_modify]
          repeat rw [if_neg (by omega)]
      · intro b hb
        have := hb.eq
        simp [World.setCell]
        omega
      · exact ((((HB.out.setCell (by simp) _).setCell (by simp) _).setCell (by simp) _).setCell (by simp) _).setCell (by simp) _

end Go.Proofs.Ytdaohfeajicamaa
