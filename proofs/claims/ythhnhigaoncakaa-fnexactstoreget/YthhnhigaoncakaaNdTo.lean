
/-
  DERIVED. THE WALKS OF laws.toNode, laws.toNodeS: copies that own their memory.
-/
import Derived.Test.YthhnhigaoncakaaRepN
import Derived.Test.YthhnhigaoncakaaVlToO
namespace Go.Proofs.Ythhnhigaoncakaa
open Go.RowKit
set_option linter.unusedVariables false
set_option linter.unusedSimpArgs false

set_option maxHeartbeats 1000000 in
theorem toNode_any (k : Nat) (x : Nd) (vl vn : Value) (w : World) (hx : NdR w 0 k x [.int .i64 x.id, .string x.type, .int .i64 x.cells.kind, .int .i64 x.cells.num, .string x.cells.text, vl, vn]) :
    Calls Try.prog 16 #[.agg #[.int .i64 x.id, .string x.type, .int .i64 x.cells.kind, .int .i64 x.cells.num, .string x.cells.text, vl, vn]] w fun e w' =>
      ∃ vl' vn', e = .returned (.agg #[.int .i64 x.id, .string x.type, .int .i64 x.cells.kind, .int .i64 x.cells.num, .string x.cells.text, vl', vn']) ∧
        NdO w' k w.heap.size w'.heap.size x [.int .i64 x.id, .string x.type, .int .i64 x.cells.kind, .int .i64 x.cells.num, .string x.cells.text, vl', vn'] ∧ Below w.heap.size w w' := by
  obtain ⟨vl', vn', hv, hid, hty, hR⟩ := hx
  simp only [List.cons.injEq, true_and, and_true] at hv
  obtain ⟨rfl, rfl⟩ := hv
  have HR : Hid (∀ W, Keeps 0 w W → VlR W 0 k x.cells [.int .i64 x.cells.kind, .int .i64 x.cells.num, .string x.cells.text, vl, vn]) := fun W h => VlR.keeps h _ _ _ hR
  clear hR
  go_enter Try.func16, Try.ntmps16
  go_wp2_with fail
  refine ((toO_all k).1 _ _ _ _ (HR.out _ ((((Keeps.refl _ _).alloc _).alloc _).alloc _))).mono ?_
  rintro e w1 ⟨vl1, vn1, rfl, hO1, hb1⟩
  obtain ⟨a1, c1, a1', c1', hv1⟩ := hO1.cells
  simp only [List.cons.injEq, true_and, and_true] at hv1
  obtain ⟨rfl, rfl⟩ := hv1
  rw [size_alloc3] at hO1
  obtain ⟨hc, hf⟩ := bcell hb1
  have hz : w.heap.size + 1 + 1 < w1.heap.size := by have := hb1.size; simp at this; omega
  have hz1 : w.heap.size + 1 < w1.heap.size := by omega
  have hz0 : w.heap.size < w1.heap.size := by omega
  have HO : Hid (VlO w1 k (w.heap.size + 3) w1.heap.size x.cells [.int .i64 x.cells.kind, .int .i64 x.cells.num, .string x.cells.text, .slice a1 x.cells.list.length c1, .slice a1' x.cells.names.length c1']) := hO1
  have HB : Hid (Below w.heap.size w w1) := ((((Below.refl _ _).alloc (Nat.le_refl _) _).alloc (by simp) _).alloc (by simp; omega) _).trans (hb1.mono (by simp; omega))
  clear hO1 hb1
  go_wp2_with fail
  refine bodyPost_ret (v := .agg #[.int .i64 x.id, .string x.type, .int .i64 x.cells.kind, .int .i64 x.cells.num, .string x.cells.text, .slice a1 x.cells.list.length c1, .slice a1' x.cells.names.length c1']) (by simp [results, Try.results16, go_sem, hc, hz, hz0, hz1]) rfl ⟨_, _, rfl, ⟨_, _, rfl, hid, hty, VlO.wide (by omega) (by simp [World.setCell]) _ _ _ (VlO.same _ (w.heap.size + 3) w1.heap.size _ _ (fun b h1 h2 => ?_) HO.out)⟩, ?_⟩
  · simp only [World.setCell, Array.getElem?_modify]
    repeat rw [if_neg (by omega)]
  · iterate 12 (refine Below.setCell ?_ (by simp <;> omega) _)
    exact HB.out

set_option maxHeartbeats 1000000 in
theorem toNodeS_any (k : Nat) (l : List Nd) (v : Value) (w : World) (hrow : NdRow w 0 k l v) :
    Calls Try.prog 6 #[v] w fun e w' => ∃ v', e = .returned v' ∧ NdOwn w' k (w.heap.size + 1) w'.heap.size l v' ∧ (∀ b, At v' b → b = w.heap.size ∧ w.heap.size < w'.heap.size) ∧ Below w.heap.size w w' := by
  obtain ⟨a, cap, rfl, hw, hrest⟩ := Row.len hrow
  have hlen : (l.length : Int) ≤ 140737488351232 := by omega
  obtain ⟨i, hi, hz, hs, hby⟩ := info_impl_Node
  have hmk := run_make (P := Try.prog) w 29 44 i _ Try.underlying29 hi hz .i64 .i64 (l.length : Int) (l.length : Int) (by omega) (by omega) (by rw [hby]; omega) (by omega)
  rw [hs, Int.toNat_natCast] at hmk
  clear hi hz hs hby hrow
  go_enter Try.func6, Try.ntmps6
  go_wp2_with fail
  clear hmk
  go_loopw [4] (fun i wr => ∃ j : Nat, j ≤ l.length ∧ i = .int .i64 j ∧ FilledO wr w.heap.size 7 44 (NdO wr k) (w.heap.size + 1) wr.heap.size l j ∧ Below w.heap.size w wr) (fun i _ => l.length - (intOf i).toNat)
  case atStart => exact ⟨0, Nat.zero_le _, rfl, FilledO.made (Owns.made w _ 44) (size_madeCells _ _) (by simp), (Below.refl _ _).alloc (Nat.le_refl _) _⟩
  case round =>
    obtain ⟨j, hj, rfl, HF, hb⟩ := hrel
    by_cases hlt : j < l.length
    · obtain ⟨b, off, rfl, _, hcs⟩ := hrest (List.ne_nil_of_length_pos (by omega))
      obtain ⟨cs, hl3, hc, hR⟩ := hcs j hlt
      obtain ⟨p, n, p', n', rfl⟩ := hR.cells
      have hk : Keeps 0 w wr := Keeps.of_below hb (Nat.le_refl _) _
      obtain ⟨c0, c1, c2, c3, c4, c5, c6⟩ := (hc.keeps hk (Nat.zero_le _)).seven
      have HR : Hid (NdR wr 0 k l[j] [.int .i64 l[j].id, .string l[j].type, .int .i64 l[j].cells.kind, .int .i64 l[j].cells.num, .string l[j].cells.text, .slice p l[j].cells.list.length n, .slice p' l[j].cells.names.length n']) := NdR.keeps hk k _ _ hR
      clear hc hR hcs hrest
      go_wp2_with fail
      refine (toNode_any k _ _ _ _ HR.out).mono ?_
      rintro e w1 ⟨vl', vn', rfl, hR1, hb1⟩
      obtain ⟨p1, n1, p1', n1', hv1⟩ := hR1.read.cells
      simp only [List.cons.injEq, true_and, and_true] at hv1
      obtain ⟨rfl, rfl⟩ := hv1
      have hlt0 := HF.lt
      have HF1 : FilledO w1 w.heap.size 7 44 (NdO w1 k) (w.heap.size + 1) wr.heap.size l j := HF.same (Nat.le_refl _) (hb1.block _ hlt0) (fun a b x cs _ hb' hx => hx.same (fun b' _ h2 => hb1.block b' (by omega)))
      obtain ⟨⟨x0, s0⟩, z0⟩ := HF1.slot hlt (q := 0) (by omega)
      obtain ⟨⟨x1, s1⟩, z1⟩ := HF1.slot hlt (q := 1) (by omega)
      obtain ⟨⟨x2, s2⟩, z2⟩ := HF1.slot hlt (q := 2) (by omega)
      obtain ⟨⟨x3, s3⟩, z3⟩ := HF1.slot hlt (q := 3) (by omega)
      obtain ⟨⟨x4, s4⟩, z4⟩ := HF1.slot hlt (q := 4) (by omega)
      obtain ⟨⟨x5, s5⟩, z5⟩ := HF1.slot hlt (q := 5) (by omega)
      obtain ⟨⟨x6, s6⟩, z6⟩ := HF1.slot hlt (q := 6) (by omega)
      rw [Nat.add_zero] at s0 z0
      have hsz1 := hb1.size
      have HF2 : Hid (FilledO (w1.setCells w.heap.size (j * 7) [.int .i64 l[j].id, .string l[j].type, .int .i64 l[j].cells.kind, .int .i64 l[j].cells.num, .string l[j].cells.text, .slice p1 l[j].cells.list.length n1, .slice p1' l[j].cells.names.length n1']) w.heap.size 7 44
          (NdO (w1.setCells w.heap.size (j * 7) [.int .i64 l[j].id, .string l[j].type, .int .i64 l[j].cells.kind, .int .i64 l[j].cells.num, .string l[j].cells.text, .slice p1 l[j].cells.list.length n1, .slice p1' l[j].cells.names.length n1']) k) (w.heap.size + 1) w1.heap.size l (j + 1)) :=
        HF1.put hlt hsz1 _ rfl (fun a b x cs ha _ hx => hx.same (fun b' h1 _ => setCells_other _ _ _ _ (by omega)))
          (fun a ha1 ha2 => NdO.same (fun b' h1 _ => setCells_other _ _ _ _ (by omega)) (NdO.wide ha2 (Nat.le_refl _) hR1))
      have hsz2 : (w1.setCells w.heap.size (j * 7) [.int .i64 l[j].id, .string l[j].type, .int .i64 l[j].cells.kind, .int .i64 l[j].cells.num, .string l[j].cells.text, .slice p1 l[j].cells.list.length n1, .slice p1' l[j].cells.names.length n1']).heap.size = w1.heap.size := by
        simp [World.setCells, World.setCell]
      rw [← hsz2] at HF2
      have HB2 : Hid (Below w.heap.size w (w1.setCells w.heap.size (j * 7) [.int .i64 l[j].id, .string l[j].type, .int .i64 l[j].cells.kind, .int .i64 l[j].cells.num, .string l[j].cells.text, .slice p1 l[j].cells.list.length n1, .slice p1' l[j].cells.names.length n1'])) :=
        Below.setCells (Nat.le_refl _) _ _ (hb.trans (hb1.mono hb.size))
      clear HF1 HF HR hb1 hR1 c0 c1 c2 c3 c4 c5 c6 hk hb hsz2
      go_wp2_with fail
      exact ⟨⟨j + 1, by omega, by go_num, HF2, HB2⟩, by simp [intOf]; omega⟩
    · obtain rfl : j = l.length := by omega
      go_wp2_with fail
      go_ret
      exact ⟨_, rfl, HF.row (Or.inl (Nat.lt_succ_self _)) hw, fun b hb => ⟨hb.eq, HF.lt⟩, hb⟩

end Go.Proofs.Ythhnhigaoncakaa
