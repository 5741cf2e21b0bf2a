
/-
  DERIVED. THE WALKS OF laws.eqNode, laws.eqNodeS: two that read as the same are equal.
-/
import Derived.Test.YthhnhigaoncakaaRepN
import Derived.Test.YthhnhigaoncakaaVlEq
namespace Go.Proofs.Ythhnhigaoncakaa
open Go.RowKit
set_option linter.unusedVariables false
set_option linter.unusedSimpArgs false

set_option maxHeartbeats 400000 in
theorem eqNode_any (k : Nat) (x : Nd) (vl vn vl' vn' : Value) (w : World) (hx : NdR w 0 k x [.int .i64 x.id, .string x.type, .int .i64 x.cells.kind, .int .i64 x.cells.num, .string x.cells.text, vl, vn])
    (hx' : NdR w 0 k x [.int .i64 x.id, .string x.type, .int .i64 x.cells.kind, .int .i64 x.cells.num, .string x.cells.text, vl', vn']) :
    Calls Try.prog 21 #[.agg #[.int .i64 x.id, .string x.type, .int .i64 x.cells.kind, .int .i64 x.cells.num, .string x.cells.text, vl, vn], .agg #[.int .i64 x.id, .string x.type, .int .i64 x.cells.kind, .int .i64 x.cells.num, .string x.cells.text, vl', vn']] w
      fun e w' => e = .returned (.bool true) ∧ Below w.heap.size w w' := by
  obtain ⟨_, _, hv, _, _, hR⟩ := hx
  simp only [List.cons.injEq, true_and, and_true] at hv
  obtain ⟨rfl, rfl⟩ := hv
  obtain ⟨_, _, hv', _, _, hR'⟩ := hx'
  simp only [List.cons.injEq, true_and, and_true] at hv'
  obtain ⟨rfl, rfl⟩ := hv'
  have HR : Hid (∀ W, Keeps 0 w W → VlR W 0 k x.cells [.int .i64 x.cells.kind, .int .i64 x.cells.num, .string x.cells.text, vl, vn]) := fun W h => VlR.keeps h _ _ _ hR
  have HR' : Hid (∀ W, Keeps 0 w W → VlR W 0 k x.cells [.int .i64 x.cells.kind, .int .i64 x.cells.num, .string x.cells.text, vl', vn']) := fun W h => VlR.keeps h _ _ _ hR'
  clear hR hR'
  go_enter Try.func21, Try.ntmps21
  go_wp2_with fail
  refine ((eqV_all k).1 _ _ _ _ _ _ (HR.out _ (((Keeps.refl _ _).alloc _).alloc _)) (HR'.out _ (((Keeps.refl _ _).alloc _).alloc _))).mono ?_
  rintro e w1 ⟨rfl, hb1⟩
  have HB : Hid (Below w.heap.size w w1) := (((Below.refl _ _).alloc (Nat.le_refl _) _).alloc (by simp) _).trans (hb1.mono (by simp; omega))
  clear hb1
  go_wp2_with fail
  go_ret
  exact ⟨rfl, HB.out⟩

set_option maxHeartbeats 1000000 in
theorem eqNodeS_any (k : Nat) (l : List Nd) (v v' : Value) (w : World) (hrow : NdRow w 0 k l v) (hrow' : NdRow w 0 k l v') :
    Calls Try.prog 9 #[v, v'] w fun e w' => e = .returned (.bool true) ∧ Below w.heap.size w w' := by
  obtain ⟨a, cap, rfl, hw, hrest⟩ := Row.len hrow
  obtain ⟨a', cap', rfl, _, hrest'⟩ := Row.len hrow'
  have hlen : (l.length : Int) ≤ 140737488351232 := by omega
  clear hrow hrow'
  go_enter Try.func9, Try.ntmps9
  go_wp2_with fail
  go_loopw [5] (fun i wr => ∃ j : Nat, j ≤ l.length ∧ i = .int .i64 j ∧ Below w.heap.size w wr) (fun i _ => l.length - (intOf i).toNat)
  case atStart => exact ⟨0, Nat.zero_le _, rfl, Below.refl _ _⟩
  case round =>
    obtain ⟨j, hj, rfl, hb⟩ := hrel
    by_cases hlt : j < l.length
    · obtain ⟨b, off, rfl, _, hcs⟩ := hrest (List.ne_nil_of_length_pos (by omega))
      obtain ⟨cs, hl3, hc, hR⟩ := hcs j hlt
      obtain ⟨p, n, q, m, rfl⟩ := hR.cells
      obtain ⟨b', off', rfl, _, hcs'⟩ := hrest' (List.ne_nil_of_length_pos (by omega))
      obtain ⟨cs', hl3', hc', hR'⟩ := hcs' j hlt
      obtain ⟨p', n', q', m', rfl⟩ := hR'.cells
      have hk : Keeps 0 w wr := Keeps.of_below hb (Nat.le_refl _) _
      obtain ⟨c0, c1, c2, c3, c4, c5, c6⟩ := (hc.keeps hk (Nat.zero_le _)).seven
      obtain ⟨d0, d1, d2, d3, d4, d5, d6⟩ := (hc'.keeps hk (Nat.zero_le _)).seven
      have HR : Hid (NdR wr.drew 0 k l[j] [.int .i64 l[j].id, .string l[j].type, .int .i64 l[j].cells.kind, .int .i64 l[j].cells.num, .string l[j].cells.text, .slice p l[j].cells.list.length n, .slice q l[j].cells.names.length m]) := NdR.keeps hk.drew k _ _ hR
      have HR' : Hid (NdR wr.drew 0 k l[j] [.int .i64 l[j].id, .string l[j].type, .int .i64 l[j].cells.kind, .int .i64 l[j].cells.num, .string l[j].cells.text, .slice p' l[j].cells.list.length n', .slice q' l[j].cells.names.length m']) := NdR.keeps hk.drew k _ _ hR'
      clear hc hR hcs hrest hc' hR' hcs' hrest' hl3 hl3'
      go_wp2_with fail
      go_region_with (go_at_call 21; refine (eqNode_any k _ _ _ _ _ _ HR.out HR'.out).mono ?_; rintro e w1 ⟨rfl, hb1⟩)
      all_goals
        have HB : Hid (Below w.heap.size w w1) := hb.drew.trans (hb1.mono hb.size)
        clear hb1
        go_wp2_with fail
        exact ⟨⟨j + 1, by omega, by go_num, HB.out⟩, by simp [intOf]; omega⟩
    · go_wp2_with fail
      go_ret
      exact ⟨rfl, hb⟩

end Go.Proofs.Ythhnhigaoncakaa
