
/-
  DERIVED. THE WALK OF leave.
-/
import Derived.Test.YtedeeckbgjalcaaDeepE
namespace Go.Proofs.Ytedeeckbgjalcaa
open Go.RowKit
set_option linter.unusedVariables false
set_option linter.unusedSimpArgs false

/-- The path without its top. -/
theorem DMem.pop {W : World} {B bD g cap r : Nat} {fs : List Fr} {f : Fr} {km : List (Addr × Nat × Int)} (h : DMem W B bD g cap r (fs ++ [f]) km) :
    DMem (W.setCell ⟨bD, 1, none⟩ (.slice (some ⟨g, 0, none⟩) fs.length cap)) B bD g cap r fs km := by
  have hrb : r ≠ bD := (h.map.ne h.box).symm
  refine ⟨?_, ?_, h.map.same (Below.heap_setCell _ _ _ _ hrb), h.hD, h.hr, by simpa [World.setCell] using h.hB, h.ne⟩
  · have := h.box.set 1 (.slice (some ⟨g, 0, none⟩) fs.length cap)
    simpa using this
  · obtain ⟨q1, q2⟩ := h.row
    refine ⟨flat_len fs, ?_⟩
    rcases q2 with ⟨q2, _⟩ | ⟨g2, cap2, cur, q2, q3, q4, q5, q6, q7, q8⟩
    · simp at q2
    · simp only [Value.slice.injEq, Option.some.injEq, Addr.mk.injEq] at q2
      obtain ⟨⟨rfl, _⟩, _, rfl⟩ := q2
      simp only [List.length_append, List.length_cons, List.length_nil] at q5 q8
      refine Or.inr ⟨g, cap, cur, rfl, q3, by rw [Below.heap_setCell _ _ _ _ h.ne]; exact q4, by omega, q6, q7, ?_⟩
      have h2 : List.take (fs.length * 3) (flat fs ++ frCells f) = flat fs := by
        rw [List.take_append_of_le_length (by rw [flat_len]; exact Nat.le_refl _), ← flat_len, List.take_length]
      rw [← h2, ← flat_snoc, ← q8, List.take_take, Nat.min_eq_left (by omega)]

set_option maxHeartbeats 2000000 in
theorem leave_any (W : World) (B bD g cap r : Nat) (fs : List Fr) (gf f : Fr) (km : List (Addr × Nat × Int)) (b off n c : Nat) (h : DMem W B bD g cap r (fs ++ [gf] ++ [f]) km) (hfs : fs.length + 1 ≤ 1000000000) (hf : f.deep ≤ 1000000000) (hgf : gf.deep ≤ 1000000000) (hp0 : f.pos ≤ 140737488351232) (hv : f.v = .slice (some ⟨b, off, none⟩) n c) (h1 : 1 ≤ n) (h2 : n ≤ 140737488351232)
    (hp : Plain W ⟨b, off, none⟩) (hb : b < B) (hk : ∀ e ∈ km, e.1.block < B ∧ Plain W e.1) :
    Calls Try.prog 44 #[.pointer (some ⟨bD, 0, none⟩)] W fun e W' => e = .returned (.tuple #[]) ∧ DMem W' B bD g cap r (fs ++ [⟨gf.l, gf.v, gf.pos, max gf.deep (f.deep + 1)⟩]) (updK km ⟨b, off, none⟩ n (f.deep : Int)) ∧ Below B W W' := by
  have b0 : W.cell? ⟨bD, 1, none⟩ = some (.slice (some ⟨g, 0, none⟩) (fs.length + 1 + 1) cap) := by rw [h.box.cell]; simp
  have b0f : W.frozen? ⟨bD, 1, none⟩ = false := h.box.frozen 1
  have hlen : (fs ++ [gf]).length = fs.length + 1 := by simp
  have c0 : W.cell? ⟨g, (fs.length + 1) * 3, none⟩ = some (.slice (some ⟨b, off, none⟩) n c) := by
    have h1 := h.row.cellAt ((fs.length + 1) * 3) (by simp <;> omega)
    have h2 := flat_at (fs ++ [gf]) f 0
    rw [hlen, Nat.add_zero] at h2
    rw [h1, h2]; show some f.v = _; rw [hv]
  have c1 : W.cell? ⟨g, (fs.length + 1) * 3 + 1, none⟩ = some (.int .i64 (f.pos : Int)) := by
    have h1 := h.row.cellAt ((fs.length + 1) * 3 + 1) (by simp <;> omega)
    have h2 := flat_at (fs ++ [gf]) f 1
    rw [hlen] at h2
    rw [h1, h2]; rfl
  have c2 : W.cell? ⟨g, (fs.length + 1) * 3 + 2, none⟩ = some (.int .i64 (f.deep : Int)) := by
    have h1 := h.row.cellAt ((fs.length + 1) * 3 + 2) (by simp <;> omega)
    have h2 := flat_at (fs ++ [gf]) f 2
    rw [hlen] at h2
    rw [h1, h2]; rfl
  have hn0 : (0 : Int) ≤ ((fs.length + 1 : Nat) : Int) := by omega
  have hn1 : ((fs.length : Int) + 1) < ((fs.length : Int) + 1 + 1) := by omega
  have hn2 : (fs.length : Int) ≤ 1000000000 := by omega
  have hfi : (f.deep : Int) ≤ 1000000000 := by omega
  have hcap : fs.length + 1 + 1 ≤ cap := by
    rcases h.row.2 with ⟨q2, _⟩ | ⟨g2, cap2, cur, q2, q3, q4, q5, _⟩
    · simp at q2
    · simp only [Value.slice.injEq] at q2
      simp at q5; omega
  have hgl := h.gB.2
  have hbl := h.box.lt
  have HM : Hid (DMem W B bD g cap r (fs ++ [gf] ++ [f]) km) := h
  have HP : Hid (∀ W', Below B W W' → Plain W' ⟨b, off, none⟩ ∧ ∀ e ∈ km, Plain W' e.1) := fun W' hw => ⟨hp.below hw hb, fun e he => (hk e he).2.below hw (hk e he).1⟩
  clear h hp hk
  go_enter Try.func44, Try.ntmps44
  go_wp2_with fail
  go_region
  obtain ⟨WA, hWA⟩ : ∃ WA, WA = W.alloc (Obj.cells #[.slice (some ⟨b, off, none⟩) n c, .int .i64 (f.pos : Int), .int .i64 (f.deep : Int)] 81) := ⟨_, rfl⟩
  rw [← hWA]
  have hbA : Below W.heap.size W WA := by rw [hWA]; exact (Below.refl _ _).alloc (Nat.le_refl _) _
  have hMA := HM.out.below hbA
  have hl0 : WA.cell? ⟨W.heap.size, 0, none⟩ = some (.slice (some ⟨b, off, none⟩) n c) := by rw [hWA]; simp
  have hl2 : WA.cell? ⟨W.heap.size, 2, none⟩ = some (.int .i64 (f.deep : Int)) := by rw [hWA]; simp
  have a0 : WA.cell? ⟨bD, 1, none⟩ = some (.slice (some ⟨g, 0, none⟩) (fs.length + 1 + 1) cap) := cell_on hbA b0
  have a0f : WA.frozen? ⟨bD, 1, none⟩ = false := hMA.box.frozen 1
  have a1 : WA.cell? ⟨bD, 2, none⟩ = some (.map (some r)) := by rw [hMA.box.cell]; rfl
  have HBA : Hid (Below B W WA) := hbA.mono HM.out.hB
  have HMA : Hid (DMem WA B bD g cap r (fs ++ [gf] ++ [f]) km) := hMA
  have nbW : bD ≠ W.heap.size := by omega
  have hwA : W.heap.size < WA.heap.size := cell_lt hl0
  clear hbA hMA hWA b0 b0f c0 c1 c2 HM
  go_wp2_with fail
  go_region
  obtain ⟨WB, hWB⟩ : ∃ WB, WB = (WA.setCell ⟨bD, 1, none⟩ (.slice (some ⟨g, 0, none⟩) (fs.length + 1) cap)).drew.drew := ⟨_, rfl⟩
  rw [← hWB]
  have hMB : DMem WB B bD g cap r (fs ++ [gf]) km := by
    have h3 := HMA.out.pop
    rw [hlen] at h3
    rw [hWB]
    exact (h3.draws 1).draws 1
  have hBB : Below B W WB := by rw [hWB]; exact ((HBA.out.setCell HMA.out.hD _).drew).drew
  have m0 : WB.cell? ⟨W.heap.size, 0, none⟩ = some (.slice (some ⟨b, off, none⟩) n c) := by
    rw [World.cell?_of_block (w := WA) (a := ⟨W.heap.size, 0, none⟩) (by rw [hWB]; exact Below.heap_setCell _ _ _ _ nbW.symm)]; exact hl0
  have m2 : WB.cell? ⟨W.heap.size, 2, none⟩ = some (.int .i64 (f.deep : Int)) := by
    rw [World.cell?_of_block (w := WA) (a := ⟨W.heap.size, 2, none⟩) (by rw [hWB]; exact Below.heap_setCell _ _ _ _ nbW.symm)]; exact hl2
  have m1 : WB.cell? ⟨bD, 2, none⟩ = some (.map (some r)) := by rw [hMB.box.cell]; rfl
  have HMB : Hid (DMem WB B bD g cap r (fs ++ [gf]) km) := hMB
  have HBB : Hid (Below B W WB) := hBB
  have HPL : Hid (Calls Try.prog 58 #[.slice (some ⟨b, off, none⟩) n c] WB.drew (fun e w1 => e = .returned (.agg #[.pointer (some ⟨b, off, none⟩), .int .i64 (n : Int)]) ∧ (w1.cell? ⟨bD, 2, none⟩ = some (.map (some r)) ∧ w1.cell? ⟨W.heap.size, 0, none⟩ = some (.slice (some ⟨b, off, none⟩) n c) ∧ w1.cell? ⟨W.heap.size, 2, none⟩ = some (.int .i64 (f.deep : Int))) ∧
      ∃ W3, (Instr.mapUpdate 83 (.map (some r)) (.agg #[.pointer (some ⟨b, off, none⟩), .int .i64 (n : Int)]) (.int .i64 (f.deep : Int))).run Try.prog w1 = .ok () W3 ∧ (W3.cell? ⟨bD, 2, none⟩ = some (.map (some r)) ∧ W3.cell? ⟨W.heap.size, 0, none⟩ = some (.slice (some ⟨b, off, none⟩) n c) ∧ W3.cell? ⟨W.heap.size, 2, none⟩ = some (.int .i64 (f.deep : Int))) ∧ Hid (DMem W3 B bD g cap r (fs ++ [gf]) (updK km ⟨b, off, none⟩ n (f.deep : Int))) ∧ Hid (Below B W W3))) := by
    refine (placeOf_any b off n c WB.drew h1 h2).mono ?_
    rintro e w1 ⟨rfl, hb1⟩
    have hb1' : Below WB.heap.size WB w1 := ((Below.refl _ WB).drew).trans hb1
    have hM1 := hMB.below hb1'
    have hB1 : Below B W w1 := hBB.trans (hb1'.mono hMB.hB)
    obtain ⟨W3, hup, hM3, hB3, hs3, h3⟩ := hM1.update (by simp) ⟨b, off, none⟩ n (f.deep : Int) (HP.out _ hB1).1 (HP.out _ hB1).2
    have k0 := cell_on hb1' m0
    have k1 := cell_on hb1' m1
    have k2 := cell_on hb1' m2
    have hWr : W.heap.size ≠ r := by
      intro he
      obtain ⟨es, cl, q1, _⟩ := hM1.map
      rw [World.cell?] at k0
      simp only [he] at k0
      simp [q1] at k0
    have hDr : bD ≠ r := hM1.map.ne hM1.box
    refine ⟨rfl, ⟨k1, k0, k2⟩, W3, hup, ⟨?_, ?_, ?_⟩, hM3, hB1.trans hB3⟩
    · rw [World.cell?_of_block (w := w1) (a := ⟨bD, 2, none⟩) (h3 _ hDr)]; exact k1
    · rw [World.cell?_of_block (w := w1) (a := ⟨W.heap.size, 0, none⟩) (h3 _ hWr)]; exact k0
    · rw [World.cell?_of_block (w := w1) (a := ⟨W.heap.size, 2, none⟩) (h3 _ hWr)]; exact k2
  clear hMB hBB hWB hl0 hl2 a0 a0f a1 HMA HBA
  go_wp2_with fail
  go_region_held3 (fun w' => w'.cell? ⟨bD, 2, none⟩ = some (.map (some r)) ∧ w'.cell? ⟨W.heap.size, 0, none⟩ = some (.slice (some ⟨b, off, none⟩) n c) ∧ w'.cell? ⟨W.heap.size, 2, none⟩ = some (.int .i64 (f.deep : Int))) (go_keep) (first | (go_at_call 58; refine (Hid.out HPL).mono ?_; rintro e w1 ⟨rfl, ⟨k1, k0, k2⟩, W3, hup, ⟨j1, j0, j2⟩, HM3, HB3⟩))
  go_wp2_with fail
  refine (found_any W3 B bD g cap r fs gf _ f.deep HM3.out (by omega) hf hgf).mono ?_
  rintro e W4 ⟨rfl, hM4, hB4⟩
  have HM4 : Hid _ := hM4
  have HB4 : Hid (Below B W W4) := HB3.out.trans hB4
  clear hM4 hB4
  go_wp2_with fail
  refine bodyPost_end (v := .tuple #[]) (by simp [results, Try.results44, go_sem]; try rfl) rfl ?_
  exact ⟨rfl, HM4.out, HB4.out⟩

end Go.Proofs.Ytedeeckbgjalcaa
