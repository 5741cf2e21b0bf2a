
/-
  DERIVED. THE WALKS OF placeOf, enter.
-/
import Derived.Test.YtedeeckbgjalcaaDeepM
import Derived.Deep.AppendLies
namespace Go.Proofs.Ytedeeckbgjalcaa
open Go.RowKit
set_option linter.unusedVariables false
set_option linter.unusedSimpArgs false

set_option maxHeartbeats 400000 in
theorem placeOf_any (b off n c : Nat) (W : World) (h1 : 1 ≤ n) (h2 : n ≤ 140737488351232) :
    Calls Try.prog 58 #[.slice (some ⟨b, off, none⟩) n c] W fun e W' => e = .returned (.agg #[.pointer (some ⟨b, off, none⟩), .int .i64 (n : Int)]) ∧ Below W.heap.size W W' := by
  have hn : (0 : Int) < (n : Int) := by omega
  have hn2 : (n : Int) ≤ 140737488351232 := by omega
  go_enter Try.func58, Try.ntmps58
  go_wp2_with fail
  exact bodyPost_ret (v := .agg #[.pointer (some ⟨b, off, none⟩), .int .i64 (n : Int)]) (by simp [results, Try.results58, go_sem]; try rfl) rfl ⟨rfl, (Below.refl _ _).alloc (Nat.le_refl _) _⟩

theorem DMem.below {W W' : World} {B bD g cap r : Nat} {fs : List Fr} {km : List (Addr × Nat × Int)} (h : DMem W B bD g cap r fs km) (hb : Below W.heap.size W W') : DMem W' B bD g cap r fs km := by
  have hrow : W.grownBy W' none := ⟨hb.os, hb.tape, hb.output, hb.size, fun q hq _ => hb.block q hq⟩
  have hrl : r < W.heap.size := by
    obtain ⟨es, cl, h1, _⟩ := h.map
    by_cases hx : r < W.heap.size
    · exact hx
    · rw [Array.getElem?_eq_none (by omega)] at h1; simp at h1
  exact ⟨h.box.below hb h.box.lt, h.row.kept (row := none) hrow (Or.inr (by simp [Value.ownBlock])), h.map.same (hb.block r hrl), h.hD, h.hr, Nat.le_trans h.hB hb.size, h.ne⟩

/-- What is known is updated. -/
theorem DMem.update {W : World} {B bD g cap r : Nat} {fs : List Fr} {km : List (Addr × Nat × Int)} (h : DMem W B bD g cap r fs km) (hn : 0 < fs.length) (a : Addr) (n : Nat) (v : Int) (ha : Plain W a) (hk : ∀ e ∈ km, Plain W e.1) :
    ∃ W3 : World, (Instr.mapUpdate 83 (.map (some r)) (.agg #[.pointer (some a), .int .i64 (n : Int)]) (.int .i64 v)).run Try.prog W = .ok () W3 ∧ DMem W3 B bD g cap r fs (updK km a n v) ∧ Below B W W3 ∧ W3.heap.size = W.heap.size ∧ ∀ q, q ≠ r → W3.heap[q]? = W.heap[q]? := by
  obtain ⟨o, hup, hmp⟩ := run_update_place (w := W) (n := n) (a := a) v h.map ha hk
  have h3 : ∀ q, q ≠ r → ({ W with heap := W.heap.setIfInBounds r o } : World).heap[q]? = W.heap[q]? := fun q hq => by
    show (W.heap.setIfInBounds r o)[q]? = _
    rw [Array.getElem?_setIfInBounds_ne (Ne.symm hq)]
  have h3s : ({ W with heap := W.heap.setIfInBounds r o } : World).heap.size = W.heap.size := by
    show (W.heap.setIfInBounds r o).size = _
    simp
  refine ⟨{ W with heap := W.heap.setIfInBounds r o }, hup, ⟨h.box.sameD (h3 _ (h.map.ne h.box)), ?_, hmp, h.hD, h.hr, by rw [h3s]; exact h.hB, h.ne⟩, ⟨rfl, rfl, rfl, by rw [h3s]; exact Nat.le_refl _, fun q hq => h3 q (by have := h.hr; omega)⟩, h3s, h3⟩
  obtain ⟨q1, q2⟩ := h.row
  refine ⟨q1, ?_⟩
  have hgr := h.rne hn
  rcases q2 with q2 | ⟨g', cap', cur, q2, q3, q4, q5⟩
  · exact Or.inl q2
  · simp only [Value.slice.injEq, Option.some.injEq, Addr.mk.injEq] at q2
    obtain ⟨⟨rfl, _⟩, _, rfl⟩ := q2
    exact Or.inr ⟨g, cap, cur, rfl, q3, by rw [h3 g hgr]; exact q4, q5⟩

set_option maxHeartbeats 1000000 in
theorem enter_empty (W : World) (B bD g cap r : Nat) (fs : List Fr) (f : Fr) (km : List (Addr × Nat × Int)) (a : Option Addr) (c : Nat) (h : DMem W B bD g cap r (fs ++ [f]) km) (hfs : fs.length ≤ 1000000000) (hf : f.deep ≤ 1000000000) :
    Calls Try.prog 43 #[.pointer (some ⟨bD, 0, none⟩), .slice a 0 c] W fun e W' => e = .returned (.bool true) ∧ DMem W' B bD g cap r (fs ++ [⟨f.l, f.v, f.pos, max f.deep (0 + 1)⟩]) km ∧ Below B W W' := by
  have HM : Hid (DMem W B bD g cap r (fs ++ [f]) km) := h
  clear h
  go_enter Try.func43, Try.ntmps43
  go_wp2_with fail
  refine (found_any W B bD g cap r fs f km 0 HM.out hfs (by omega) hf).mono ?_
  rintro e W1 ⟨rfl, hM, hB⟩
  have HM1 : Hid _ := hM
  have HB1 : Hid _ := hB
  clear hM hB
  go_wp2_with fail
  go_ret
  exact ⟨rfl, HM1.out, HB1.out⟩

set_option maxHeartbeats 1000000 in
theorem enter_known (W : World) (B bD g cap r : Nat) (fs : List Fr) (f : Fr) (km : List (Addr × Nat × Int)) (b off n c d : Nat) (h : DMem W B bD g cap r (fs ++ [f]) km) (hfs : fs.length ≤ 1000000000) (hf : f.deep ≤ 1000000000) (h1 : 1 ≤ n) (h2 : n ≤ 140737488351232)
    (hp : Plain W ⟨b, off, none⟩) (hb : b < B) (hk : ∀ e ∈ km, e.1.block < B ∧ Plain W e.1) (hd : knownK km ⟨b, off, none⟩ n = (d : Int)) (hd1 : 1 ≤ d) (hd2 : d ≤ 1000000000) :
    Calls Try.prog 43 #[.pointer (some ⟨bD, 0, none⟩), .slice (some ⟨b, off, none⟩) n c] W fun e W' => e = .returned (.bool true) ∧ DMem W' B bD g cap r (fs ++ [⟨f.l, f.v, f.pos, max f.deep (d + 1)⟩]) km ∧ Below B W W' := by
  have hn : ((n : Int) == 0) = false := by simp; omega
  have HM : Hid (DMem W B bD g cap r (fs ++ [f]) km) := h
  have HP : Hid (∀ W', Below B W W' → Plain W' ⟨b, off, none⟩ ∧ ∀ e ∈ km, Plain W' e.1) := fun W' hw => ⟨hp.below hw hb, fun e he => (hk e he).2.below hw (hk e he).1⟩
  have HD : Hid (knownK km ⟨b, off, none⟩ n = (d : Int)) := hd
  clear h hp hk hd
  go_enter Try.func43, Try.ntmps43
  go_wp2_with fail
  refine (placeOf_any b off n c _ h1 h2).mono ?_
  rintro e W1 ⟨rfl, hb1⟩
  have hM1 := HM.out.below hb1
  have hB1 : Below B W W1 := hb1.mono HM.out.hB
  obtain ⟨W2, hW2⟩ : ∃ W2, W2 = (W1.alloc (Obj.cells #[.pointer (some ⟨b, off, none⟩), .int .i64 (n : Int)] 101)) := ⟨_, rfl⟩
  have hb2 : Below W1.heap.size W1 W2 := by rw [hW2]; exact (Below.refl _ _).alloc (Nat.le_refl _) _
  have hM2 := hM1.below hb2
  have hB2 : Below B W W2 := hB1.trans (hb2.mono hM1.hB)
  have hlk := run_lookup_place (n := n) hM2.map (HP.out _ hB2).1 (HP.out _ hB2).2
  rw [HD.out] at hlk
  have hlk' : (Instr.lookup 83 (.map (some r)) (.agg #[.pointer (some ⟨b, off, none⟩), .int .i64 (n : Int)]) false).run Try.prog W2.drew = .ok (.int .i64 (d : Int)) W2.drew := by
    have := run_lookup_place (w := W2.drew) (n := n) (a := ⟨b, off, none⟩) hM2.map (HP.out _ hB2).1 (HP.out _ hB2).2
    rw [HD.out] at this
    exact this
  have b1 : W2.cell? ⟨bD, 2, none⟩ = some (.map (some r)) := by rw [hM2.box.cell]; rfl
  have k0 : W2.cell? ⟨W1.heap.size, 0, none⟩ = some (.pointer (some ⟨b, off, none⟩)) := by rw [hW2]; simp
  have k1 : W2.cell? ⟨W1.heap.size, 1, none⟩ = some (.int .i64 (n : Int)) := by rw [hW2]; simp
  have hd0 : ((d : Int) == 0) = false := by simp; omega
  have hdm : ((d : Int) == -1) = false := by simp <;> omega
  have HM2 : Hid (DMem W2 B bD g cap r (fs ++ [f]) km) := hM2
  have HB2 : Hid (Below B W W2) := hB2
  clear hM1 hB1 hM2 hB2 hb1 hb2 hlk HM
  go_wp2_with fail
  rw [← hW2]
  have HW2 : Hid _ := hW2
  clear hW2
  go_region
  go_wp2_with fail
  refine (found_any W2.drew B bD g cap r fs f km d (HM2.out.draws 1) hfs hd2 hf).mono ?_
  rintro e W3 ⟨rfl, hM3, hB3⟩
  have HM3 : Hid _ := hM3
  have HB3 : Hid (Below B W W3) := (Below.draws HB2.out 1).trans hB3
  clear hM3 hB3
  go_wp2_with fail
  go_ret
  exact ⟨rfl, HM3.out, HB3.out⟩

theorem info_step : ∃ i, Try.prog.info? 81 = some i ∧ i.zero = some (.agg #[.slice none 0 0, .int .i64 0, .int .i64 0]) ∧ i.size = 3 ∧ i.bytes = 40 := by
  have h : (Try.prog.info? 81).map (fun i => (i.zero, i.size, i.bytes)) = some (some (.agg #[.slice none 0 0, .int .i64 0, .int .i64 0]), 3, 40) := by kernel_rfl
  obtain ⟨i, h1, h2⟩ := Option.map_eq_some_iff.1 h
  simp only [Prod.mk.injEq] at h2
  exact ⟨i, h1, h2.1, h2.2.1, h2.2.2⟩

set_option maxHeartbeats 1000000 in
theorem enter_new (W : World) (B bD g cap r : Nat) (fs : List Fr) (f : Fr) (km : List (Addr × Nat × Int)) (b off n c : Nat) (l : List Vl) (h : DMem W B bD g cap r (fs ++ [f]) km) (hfs : fs.length ≤ 1000000000) (hf : f.deep ≤ 1000000000) (h1 : 1 ≤ n) (h2 : n ≤ 140737488351232)
    (hp : Plain W ⟨b, off, none⟩) (hb : b < B) (hk : ∀ e ∈ km, e.1.block < B ∧ Plain W e.1) (hd : knownK km ⟨b, off, none⟩ n = 0) :
    Calls Try.prog 43 #[.pointer (some ⟨bD, 0, none⟩), .slice (some ⟨b, off, none⟩) n c] W fun e W' => e = .returned (.bool true) ∧ (∃ g' cap', DMem W' B bD g' cap' r (fs ++ [f] ++ [⟨l, .slice (some ⟨b, off, none⟩) n c, 0, 0⟩]) (updK km ⟨b, off, none⟩ n (-1))) ∧ Below B W W' := by
  have hn : ((n : Int) == 0) = false := by simp; omega
  have HM : Hid (DMem W B bD g cap r (fs ++ [f]) km) := h
  have HP : Hid (∀ W', Below B W W' → Plain W' ⟨b, off, none⟩ ∧ ∀ e ∈ km, Plain W' e.1) := fun W' hw => ⟨hp.below hw hb, fun e he => (hk e he).2.below hw (hk e he).1⟩
  have HD : Hid (knownK km ⟨b, off, none⟩ n = 0) := hd
  clear h hp hk hd
  go_enter Try.func43, Try.ntmps43
  go_wp2_with fail
  refine (placeOf_any b off n c _ h1 h2).mono ?_
  rintro e W1 ⟨rfl, hb1⟩
  have hM1 := HM.out.below hb1
  have hB1 : Below B W W1 := hb1.mono HM.out.hB
  obtain ⟨W2, hW2⟩ : ∃ W2, W2 = (W1.alloc (Obj.cells #[.pointer (some ⟨b, off, none⟩), .int .i64 (n : Int)] 101)) := ⟨_, rfl⟩
  have hb2 : Below W1.heap.size W1 W2 := by rw [hW2]; exact (Below.refl _ _).alloc (Nat.le_refl _) _
  have hM2 := hM1.below hb2
  have hB2 : Below B W W2 := hB1.trans (hb2.mono hM1.hB)
  have hlk := run_lookup_place (n := n) hM2.map (HP.out _ hB2).1 (HP.out _ hB2).2
  rw [HD.out] at hlk
  have hlk' : (Instr.lookup 83 (.map (some r)) (.agg #[.pointer (some ⟨b, off, none⟩), .int .i64 (n : Int)]) false).run Try.prog W2.drew = .ok (.int .i64 0) W2.drew := by
    have := run_lookup_place (w := W2.drew) (n := n) (a := ⟨b, off, none⟩) hM2.map (HP.out _ hB2).1 (HP.out _ hB2).2
    rw [HD.out] at this
    exact this
  have b1 : W2.cell? ⟨bD, 2, none⟩ = some (.map (some r)) := by rw [hM2.box.cell]; rfl
  have k0 : W2.cell? ⟨W1.heap.size, 0, none⟩ = some (.pointer (some ⟨b, off, none⟩)) := by rw [hW2]; simp
  have k1 : W2.cell? ⟨W1.heap.size, 1, none⟩ = some (.int .i64 (n : Int)) := by rw [hW2]; simp
  have HM2 : Hid (DMem W2 B bD g cap r (fs ++ [f]) km) := hM2
  have HB2 : Hid (Below B W W2) := hB2
  clear hM1 hB1 hM2 hB2 hb1 hb2 hlk HM
  go_wp2_with fail
  rw [← hW2]
  have HW2 : Hid _ := hW2
  clear hW2
  obtain ⟨o, hup, hmp⟩ := run_update_place (w := W2.drew.drew) (n := n) (a := ⟨b, off, none⟩) (-1) HM2.out.map (HP.out _ HB2.out).1 (HP.out _ HB2.out).2
  obtain ⟨W3, hW3⟩ : ∃ W3 : World, W3 = { W2.drew.drew with heap := W2.drew.drew.heap.setIfInBounds r o } := ⟨_, rfl⟩
  rw [← hW3] at hup hmp
  have hup' : (Instr.mapUpdate 83 (.map (some r)) (.agg #[.pointer (some ⟨b, off, none⟩), .int .i64 (n : Int)]) (.int .i64 (-1))).run Try.prog W2.drew.drew = .ok () W3 := hup
  have h3 : ∀ q, q ≠ r → W3.heap[q]? = W2.heap[q]? := fun q hq => by
    rw [hW3]
    show (W2.heap.setIfInBounds r o)[q]? = _
    rw [Array.getElem?_setIfInBounds_ne (Ne.symm hq)]
  have h3s : W3.heap.size = W2.heap.size := by
    rw [hW3]
    show (W2.heap.setIfInBounds r o).size = _
    simp
  have hgr := HM2.out.rne (by simp)
  have hbr : bD ≠ r := HM2.out.map.ne HM2.out.box
  have HM3 : Hid (DMem W3 B bD g cap r (fs ++ [f]) (updK km ⟨b, off, none⟩ n (-1))) := by
    refine ⟨HM2.out.box.sameD (h3 _ hbr), ?_, hmp, HM2.out.hD, HM2.out.hr, by rw [h3s]; exact HM2.out.hB, HM2.out.ne⟩
    obtain ⟨q1, q2⟩ := HM2.out.row
    refine ⟨q1, ?_⟩
    rcases q2 with q2 | ⟨g', cap', cur, q2, q3, q4, q5⟩
    · exact Or.inl q2
    · simp only [Value.slice.injEq, Option.some.injEq, Addr.mk.injEq] at q2
      obtain ⟨⟨rfl, _⟩, _, rfl⟩ := q2
      exact Or.inr ⟨g, cap, cur, rfl, q3, by rw [h3 g hgr]; exact q4, q5⟩
  have HB3 : Hid (Below B W W3) := by
    refine ⟨?_, ?_, ?_, by rw [h3s]; exact HB2.out.size, fun q hq => ?_⟩
    · rw [hW3]; exact HB2.out.os
    · rw [hW3]; exact HB2.out.tape
    · rw [hW3]; exact HB2.out.output
    · rw [h3 q (by have := HM2.out.hr; omega)]; exact HB2.out.block q hq
  have c0 : W3.cell? ⟨bD, 1, none⟩ = some (.slice (some ⟨g, 0, none⟩) (fs.length + 1) cap) := by rw [HM3.out.box.cell]; simp
  have cf : W3.frozen? ⟨bD, 1, none⟩ = false := HM3.out.box.frozen 1
  obtain ⟨i0, hi0, hz0, hz1, hz2⟩ := info_step
  have hbl : bD < W3.heap.size := HM3.out.box.lt
  have HNE : Hid (¬ bD = g) := HM3.out.ne.symm
  clear hup hmp hW3 h3 HM2 HB2 h3s
  go_region
  go_wp2_with fail
  go_region
  go_wp2_with (at_builtin; refine wpList_append_lies _ rfl _ _ _ rfl B 81 i0 _ 3 40 Try.underlying82 hi0 hz0 hz1 hz2 rfl (by omega) (.slice (some ⟨g, 0, none⟩) (fs.length + 1) cap) (fs.length + 1) (flat (fs ++ [f])) rfl (by have := HM3.out.row; simp only [List.length_append, List.length_cons, List.length_nil] at this; exact this.alloc _) ⟨W3.heap.size, 0, none⟩ 1 1 [.slice (some ⟨b, off, none⟩) n c, .int .i64 0, .int .i64 0] rfl rfl (World.news_of_block (cs := #[.slice (some ⟨b, off, none⟩) n c, .int .i64 0, .int .i64 0]) (t := 81) (fr := (0, 0)) (heap_alloc_new W3 _)) (by simp [Value.oneCell']) (by omega) (by unfold maxLen; omega) (by omega) (by have := HM3.out.hB; simp; omega) (W3.heap.size + 1) (by simp) ?_; intro g' cap' W4 hown' hgrow hat hlt'; have e0 : W4.cell? ⟨bD, 1, none⟩ = some (.slice (some ⟨g, 0, none⟩) (fs.length + 1) cap) := hgrow.cell (a := ⟨bD, 1, none⟩) ((World.cell?_alloc_lt _ _ _ hbl).trans c0) (by simp [Value.ownBlock]; exact HNE.out); have e0f : W4.frozen? ⟨bD, 1, none⟩ = false := (hgrow.frozen_far ⟨bD, 1, none⟩ (by simp; omega) (by simp [Value.ownBlock]; exact HNE.out)).trans ((World.frozen?_of_block (w := W3) (Below.heap_alloc _ _ _ hbl)).trans cf))
  go_ret
  have hs4 : W3.heap.size + 1 ≤ W4.heap.size := by have := hgrow.size; simpa using this
  have hne' : g' ≠ bD := by
    rcases hat with hat | hat
    · have hgg : g = g' := by simpa [Value.ownBlock] using hat
      rw [← hgg]; exact HM3.out.ne
    · omega
  have h4 : ∀ q, q < W3.heap.size → q ≠ g → W4.heap[q]? = W3.heap[q]? := fun q hq hqg => by
    rw [hgrow.block q (by simp; omega) (by simp [Value.ownBlock]; exact hqg), Below.heap_alloc _ _ _ hq]
  have hrl : r < W3.heap.size := by
    obtain ⟨es, cl, h1, _⟩ := HM3.out.map
    by_cases hx : r < W3.heap.size
    · exact hx
    · rw [Array.getElem?_eq_none (by omega)] at h1; simp at h1
  have hrg := (HM3.out.rne (by simp)).symm
  have hrb : r ≠ bD := (HM3.out.map.ne HM3.out.box).symm
  refine ⟨rfl, ⟨g', cap', ?_, ?_, ?_, HM3.out.hD, HM3.out.hr, ?_, hne'⟩, ?_⟩
  · have hb4 : Owns W4 bD #[.func (.func 26) #[] #[], .slice (some ⟨g, 0, none⟩) (fs ++ [f]).length cap, .map (some r)] 85 := HM3.out.box.sameD (h4 bD hbl HM3.out.ne.symm)
    have := hb4.set 1 (.slice (some ⟨g', 0, none⟩) (fs.length + 1 + 1) cap')
    simpa using this
  · have hl : (fs ++ [f] ++ [(⟨l, .slice (some ⟨b, off, none⟩) n c, 0, 0⟩ : Fr)]).length = fs.length + 1 + 1 := by simp
    rw [hl, flat_snoc]
    obtain ⟨q1, q2⟩ := hown'
    refine ⟨q1, ?_⟩
    rcases q2 with ⟨q2, _⟩ | ⟨g2, cap2, cur, q2, q3, q4, q5⟩
    · simp at q2
    · simp only [Value.slice.injEq, Option.some.injEq, Addr.mk.injEq] at q2
      obtain ⟨⟨rfl, _⟩, _, rfl⟩ := q2
      exact Or.inr ⟨g', cap', cur, rfl, q3, by rw [Below.heap_setCell _ _ _ _ hne']; exact q4, q5⟩
  · exact HM3.out.map.same ((Below.heap_setCell _ _ _ _ hrb).trans (h4 r hrl hrg))
  · have := HM3.out.hB; simp [World.setCell]; omega
  · have hB4 : Below B W W4 := by
      have hgB := HM3.out.gB
      have hBs := HM3.out.hB
      refine ⟨hgrow.os.trans HB3.out.os, hgrow.tape.trans HB3.out.tape, hgrow.output.trans HB3.out.output, by have := HB3.out.size; omega, fun q hq => ?_⟩
      rw [h4 q (by omega) (by omega)]; exact HB3.out.block q hq
    exact hB4.setCell HM3.out.hD _

end Go.Proofs.Ytedeeckbgjalcaa
