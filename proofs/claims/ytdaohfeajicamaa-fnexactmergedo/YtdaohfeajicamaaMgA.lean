
/-
  DERIVED. THE WALK OF spec.l1Tree, told of the memory in which the tree was read first.
-/
import Derived.Test.YtdaohfeajicamaaTreeAt
namespace Go.Proofs.Ytdaohfeajicamaa
open Go.RowKit
set_option linter.unusedVariables false
set_option linter.unusedSimpArgs false

def AtO (k : Nat) (o : Option Vl) (w0 w : World) (e : Ending) (w' : World) : Prop :=
  (match o with
  | some t => ∃ vl vn, e = .returned (.tuple #[.agg #[.int .i64 t.kind, .int .i64 t.num, .string t.text, vl, vn], .bool true]) ∧ VlR w0 0 k t [.int .i64 t.kind, .int .i64 t.num, .string t.text, vl, vn]
  | none => e = .returned (.tuple #[.agg #[.int .i64 0, .int .i64 0, .string ByteArray.empty, .slice none 0 0, .slice none 0 0], .bool false])) ∧ Below w.heap.size w w'

set_option maxHeartbeats 1000000 in
theorem l1TreeO_any (k : Nat) (t : Vl) (vl vn : Value) (s : ByteArray) (w0 w : World) (hk0 : Keeps 0 w0 w) (hlen : t.names.length ≤ t.list.length) (hs : s.size ≤ 140737488351232) (ht : VlR w0 0 (k + 1) t [.int .i64 t.kind, .int .i64 t.num, .string t.text, vl, vn]) :
    Calls Try.prog 74 #[.agg #[.int .i64 t.kind, .int .i64 t.num, .string t.text, vl, vn], .string s] w (AtO k (treeO t s) w0 w) := by
  obtain ⟨vl', vn', hv, hkd, hnm, hn, hrow, hnames⟩ := ht
  simp only [List.cons.injEq, true_and, and_true] at hv
  obtain ⟨rfl, rfl⟩ := hv
  obtain ⟨a, c, rfl, hw, hrest⟩ := Row.len hrow
  obtain ⟨a', c', rfl, hw', hrest'⟩ := StrRow.len hnames
  have hli : (t.names.length : Int) ≤ 140737488351232 := by omega
  have hlj : (t.list.length : Int) ≤ 140737488351232 := by omega
  have HK0 : Hid (Keeps 0 w0 w) := hk0
  clear hrow hnames hk0
  by_cases hk : t.kind = 5
  · have HO : Hid (treeO t s = findL t.names t.list s) := by show _ = _; unfold treeO; rw [if_pos hk]
    go_enter Try.func74, Try.ntmps74
    go_wp2_with fail
    go_loopw [6] (fun i wr => ∃ j : Nat, j ≤ t.names.length ∧ i = .int .i64 j ∧ Hid (treeO t s = findL (t.names.drop j) (t.list.drop j) s) ∧ Hid (Below w.heap.size w wr) ∧ Hid (Owns wr w.heap.size #[.int .i64 5, .int .i64 t.num, .string t.text, .slice a t.list.length c, .slice a' t.names.length c'] 29) ∧ Hid (Owns wr (w.heap.size + 1) #[.int .i64 0, .int .i64 0, .string ⟨#[]⟩, .slice none 0 0, .slice none 0 0] 29)) (fun i _ => t.names.length - (intOf i).toNat)
    case atStart =>
      refine ⟨0, Nat.zero_le _, rfl, HO.out, ((Below.refl _ _).alloc (Nat.le_refl _) _).alloc (by simp) _, (Owns.made w _ _).below ((Below.refl _ _).alloc (Nat.le_refl _) _) (by simp), ?_⟩
      have := Owns.made (w.alloc (.cells #[.int .i64 5, .int .i64 t.num, .string t.text, .slice a t.list.length c, .slice a' t.names.length c'] 29)) #[.int .i64 0, .int .i64 0, .string ⟨#[]⟩, .slice none 0 0, .slice none 0 0] 29
      rw [show (w.alloc (.cells #[.int .i64 5, .int .i64 t.num, .string t.text, .slice a t.list.length c, .slice a' t.names.length c'] 29)).heap.size = w.heap.size + 1 by simp] at this
      exact this
    case round =>
      obtain ⟨j, hj, rfl, HF, HB, HX, HZ⟩ := hrel
      have x0 : wr.cell? ⟨w.heap.size, 0, none⟩ = some (.int .i64 5) := by rw [HX.out.cell]; rfl
      have x3 : wr.cell? ⟨w.heap.size, 3, none⟩ = some (.slice a t.list.length c) := by rw [HX.out.cell]; rfl
      have x4 : wr.cell? ⟨w.heap.size, 4, none⟩ = some (.slice a' t.names.length c') := by rw [HX.out.cell]; rfl
      have y0 : wr.cell? ⟨w.heap.size + 1, 0, none⟩ = some (.int .i64 0) := by rw [HZ.out.cell]; rfl
      have y1 : wr.cell? ⟨w.heap.size + 1, 1, none⟩ = some (.int .i64 0) := by rw [HZ.out.cell]; rfl
      have y2 : wr.cell? ⟨w.heap.size + 1, 2, none⟩ = some (.string ⟨#[]⟩) := by rw [HZ.out.cell]; rfl
      have y3 : wr.cell? ⟨w.heap.size + 1, 3, none⟩ = some (.slice none 0 0) := by rw [HZ.out.cell]; rfl
      have y4 : wr.cell? ⟨w.heap.size + 1, 4, none⟩ = some (.slice none 0 0) := by rw [HZ.out.cell]; rfl
      have z0 := fun o => HZ.out.frozen o
      by_cases hlt : j < t.names.length
      · have hlt' : j < t.list.length := by omega
        have hlti : (j : Int) < (t.list.length : Int) := by omega
        obtain ⟨b', off', rfl, _, hcs'⟩ := hrest' (List.ne_nil_of_length_pos (by omega))
        obtain ⟨d0, _⟩ := hcs' j hlt
        obtain ⟨b, off, rfl, _, hcs⟩ := hrest (List.ne_nil_of_length_pos (by omega))
        obtain ⟨cs, hl5, hc, hR⟩ := hcs j hlt'
        obtain ⟨p, n, p', n', rfl⟩ := hR.cells
        have hkp : Keeps 0 w0 wr := HK0.out.trans (Keeps.of_below HB.out (Nat.le_refl _) _)
        obtain ⟨c0, c1, c2, c3, c4⟩ := (hc.keeps hkp (Nat.zero_le _)).five
        have e0 : wr.cell? ⟨b', off' + j, none⟩ = some (.string t.names[j]) := hkp.cell (Nat.zero_le _) d0
        have HR : Hid (VlR w0 0 k t.list[j] _) := hR
        clear hc hR hcs hrest hcs' hrest' hkp d0 hl5
        cases he : (t.names[j].toList == s.toList)
        · have HM : Hid (treeO t s = findL (t.names.drop (j + 1)) (t.list.drop (j + 1)) s) := HF.out.trans (findL_miss hlt hlt' he)
          go_wp2_with fail
          exact ⟨⟨j + 1, by omega, by go_num, HM, HB, HX, HZ⟩, by simp [intOf]; omega⟩
        · have HM : Hid (treeO t s = some t.list[j]) := HF.out.trans (findL_hit hlt hlt' he)
          go_wp2_with fail
          have hbF : Below w.heap.size w (wr.setCells (w.heap.size + 1) 0 [.int .i64 t.list[j].kind, .int .i64 t.list[j].num, .string t.list[j].text, .slice p t.list[j].list.length n, .slice p' t.list[j].names.length n']) := Below.setCells (by omega) _ _ HB.out
          refine bodyPost_ret (v := .tuple #[.agg #[.int .i64 t.list[j].kind, .int .i64 t.list[j].num, .string t.list[j].text, .slice p t.list[j].list.length n, .slice p' t.list[j].names.length n'], .bool true]) (by simp [results, Try.results74, go_sem, y0, y1, y2, y3, y4]) rfl ?_
          unfold AtO
          rw [HM.out]
          exact ⟨⟨_, _, rfl, HR.out⟩, hbF⟩
      · have HM : Hid (treeO t s = none) := by
          show _ = _
          rw [HF.out, List.drop_eq_nil_of_le (by omega)]; simp [findL]
        go_wp2_with fail
        have hbF : Below w.heap.size w (wr.setCells (w.heap.size + 1) 0 [.int .i64 0, .int .i64 0, .string ⟨#[]⟩, .slice none 0 0, .slice none 0 0]) := Below.setCells (by omega) _ _ HB.out
        refine bodyPost_ret (v := .tuple #[.agg #[.int .i64 0, .int .i64 0, .string ⟨#[]⟩, .slice none 0 0, .slice none 0 0], .bool false]) (by simp [results, Try.results74, go_sem, y0, y1, y2, y3, y4]) rfl ?_
        unfold AtO
        rw [HM.out]
        exact ⟨rfl, hbF⟩
  · have HO : Hid (treeO t s = none) := by show _ = _; unfold treeO; rw [if_neg hk]
    have hkb : (t.kind == 5) = false := beq_eq_false_iff_ne.2 hk
    clear hrest hrest'
    by_cases h0 : t.names.length = 0
    · have h0i : ((t.names.length : Nat) : Int) = 0 := by omega
      go_enter Try.func74, Try.ntmps74
      go_wp2_with fail
      refine wp_loop_rounds 1 ?_
      rw [rounds_succ]
      go_wp2_with fail
      refine bodyPost_ret (v := .tuple #[.agg #[.int .i64 0, .int .i64 0, .string ⟨#[]⟩, .slice none 0 0, .slice none 0 0], .bool false]) (by simp [results, Try.results74, go_sem]) rfl ?_
      unfold AtO
      rw [HO.out]
      exact ⟨rfl, ((Below.refl _ _).alloc (Nat.le_refl _) _).alloc (by simp) _⟩
    · have h0i : (0 : Int) < (t.names.length : Int) := by omega
      go_enter Try.func74, Try.ntmps74
      go_wp2_with fail
      refine wp_loop_rounds 1 ?_
      rw [rounds_succ]
      go_wp2_with fail
      refine bodyPost_ret (v := .tuple #[.agg #[.int .i64 0, .int .i64 0, .string ⟨#[]⟩, .slice none 0 0, .slice none 0 0], .bool false]) (by simp [results, Try.results74, go_sem]) rfl ?_
      unfold AtO
      rw [HO.out]
      exact ⟨rfl, ((Below.refl _ _).alloc (Nat.le_refl _) _).alloc (by simp) _⟩

end Go.Proofs.Ytdaohfeajicamaa
