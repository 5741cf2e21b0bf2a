
/-
  DERIVED. THE WALK OF impl.formWithin.
-/
import Derived.Test.YtoploikbbnofbaaTreeAt
import Derived.Test.YtoploikbbnofbaaRepF
import Derived.Test.YtoploikbbnofbaaFmAs
namespace Go.Proofs.Ytoploikbbnofbaa
open Go.RowKit
set_option linter.unusedVariables false
set_option linter.unusedSimpArgs false

def InC (k : Nat) (z : Value) (o : Option Vl) (w : World) (e : Ending) (w' : World) : Prop :=
  (match o with
  | some t => ∃ f, e = .returned (.tuple #[f, .bool true]) ∧ FmR w' 0 k t f
  | none => e = .returned (.tuple #[z, .bool false])) ∧ Below w.heap.size w w'

set_option maxHeartbeats 1000000 in
theorem formWithin_any (k : Nat) (t : Vl) (v : Value) (s : ByteArray) (w : World) (hs : s.size ≤ 140737488351232) (ht : FmR w 0 (k + 1) t v) :
    Calls Try.prog 38 #[v, .string s] w (InC k .nilIface (treeO t s) w) := by
  rcases ht with ⟨h0, rfl⟩ | ⟨h0, rfl⟩ | ⟨h0, rfl⟩ | ⟨h0, rfl⟩ | ⟨h0, vl, rfl, hrow⟩ | ⟨h0, hl, vl, rfl, hrow⟩ | ⟨h0, rfl⟩ | ⟨h0, rfl⟩
  · have HO : Hid (treeO t s = none) := by show _ = _; unfold treeO; rw [if_neg (by omega)]
    have ta := no_null
    go_enter Try.func38, Try.ntmps38
    go_wp2_with fail
    refine bodyPost_ret (v := .tuple #[.nilIface, .bool false]) (by simp [results, Try.results38, go_sem]) rfl ?_
    unfold InC
    rw [HO.out]
    exact ⟨rfl, Below.refl _ _⟩
  · have HO : Hid (treeO t s = none) := by show _ = _; unfold treeO; rw [if_neg (by omega)]
    have ta := no_bool
    go_enter Try.func38, Try.ntmps38
    go_wp2_with fail
    refine bodyPost_ret (v := .tuple #[.nilIface, .bool false]) (by simp [results, Try.results38, go_sem]) rfl ?_
    unfold InC
    rw [HO.out]
    exact ⟨rfl, Below.refl _ _⟩
  · have HO : Hid (treeO t s = none) := by show _ = _; unfold treeO; rw [if_neg (by omega)]
    have ta := no_num
    go_enter Try.func38, Try.ntmps38
    go_wp2_with fail
    refine bodyPost_ret (v := .tuple #[.nilIface, .bool false]) (by simp [results, Try.results38, go_sem]) rfl ?_
    unfold InC
    rw [HO.out]
    exact ⟨rfl, Below.refl _ _⟩
  · have HO : Hid (treeO t s = none) := by show _ = _; unfold treeO; rw [if_neg (by omega)]
    have ta := no_text
    go_enter Try.func38, Try.ntmps38
    go_wp2_with fail
    refine bodyPost_ret (v := .tuple #[.nilIface, .bool false]) (by simp [results, Try.results38, go_sem]) rfl ?_
    unfold InC
    rw [HO.out]
    exact ⟨rfl, Below.refl _ _⟩
  · have HO : Hid (treeO t s = none) := by show _ = _; unfold treeO; rw [if_neg (by omega)]
    have ta := no_list
    go_enter Try.func38, Try.ntmps38
    go_wp2_with fail
    refine bodyPost_ret (v := .tuple #[.nilIface, .bool false]) (by simp [results, Try.results38, go_sem]) rfl ?_
    unfold InC
    rw [HO.out]
    exact ⟨rfl, Below.refl _ _⟩
  · have HO : Hid (treeO t s = findL t.names t.list s) := by show _ = _; unfold treeO; rw [if_pos h0]
    have ta := yes_tree
    obtain ⟨a, c, rfl, hw, hrest⟩ := Row.len hrow
    have hzl : (t.names.zip t.list).length = t.names.length := by simp [hl]
    have hce : 0 < t.names.length → ∃ b off, a = some ⟨b, off, none⟩ ∧ ∀ i (hi : i < t.names.length) (hi' : i < t.list.length), ∃ T x, w.cell? ⟨b, off + i * 2, none⟩ = some (.string t.names[i]) ∧ w.cell? ⟨b, off + i * 2 + 1, none⟩ = some (.iface T x) ∧ FmR w 0 k t.list[i] (.iface T x) := by
      intro hp
      obtain ⟨b, off, ha, _, hcs⟩ := hrest (List.ne_nil_of_length_pos (by omega))
      refine ⟨b, off, ha, fun i hi hi' => ?_⟩
      obtain ⟨cs, _, hc, f, rfl, hR⟩ := hcs i (by omega)
      have hg : (t.names.zip t.list)[i]'(by omega) = (t.names[i], t.list[i]) := List.getElem_zip
      rw [hg] at hR hc
      obtain ⟨T, x, rfl⟩ := FmR.iface hR
      exact ⟨T, x, hc 0 (by simp), hc 1 (by simp), hR⟩
    rw [hzl] at hw ⊢
    clear hrow hrest hzl
    obtain ⟨N, hN⟩ : ∃ N, t.names.length = N := ⟨_, rfl⟩
    rw [hN] at hw ⊢
    have hli : (N : Int) ≤ 140737488351232 := by omega
    have HN : Hid (t.names.length = N) := hN
    have HL : Hid (t.names.length = t.list.length) := hl
    have HCE : Hid _ := hce
    clear hce hN hl
    clear h0
    go_enter Try.func38, Try.ntmps38
    go_wp2_with fail
    go_loopw [15] (fun i wr => ∃ j : Nat, j ≤ N ∧ i = .int .i64 j ∧ Hid (treeO t s = findL (t.names.drop j) (t.list.drop j) s) ∧ Hid (Below w.heap.size w wr)) (fun i _ => N - (intOf i).toNat)
    case atStart => exact ⟨0, Nat.zero_le _, rfl, HO.out, Below.refl _ _⟩
    case round =>
      obtain ⟨j, hj, rfl, HF, HB⟩ := hrel
      by_cases hlt : j < N
      · have hn1 : j < t.names.length := by have := HN.out; omega
        have hn2 : j < t.list.length := by have := HN.out; have := HL.out; omega
        obtain ⟨b, off, rfl, hcs⟩ := HCE.out (by omega)
        obtain ⟨T, x, c0, c1, hR⟩ := hcs j hn1 hn2
        have hkp : Keeps 0 w wr := Keeps.of_below HB.out (Nat.le_refl _) _
        have e0 : wr.cell? ⟨b, off + j * 2, none⟩ = some (.string t.names[j]) := hkp.cell (Nat.zero_le _) c0
        have e1 : wr.cell? ⟨b, off + j * 2 + 1, none⟩ = some (.iface T x) := hkp.cell (Nat.zero_le _) c1
        have HR : Hid (FmR w 0 k t.list[j] (.iface T x)) := hR
        clear hR hcs c0 c1 hkp
        cases he : (t.names[j].toList == s.toList)
        · have HM : Hid (treeO t s = findL (t.names.drop (j + 1)) (t.list.drop (j + 1)) s) := HF.out.trans (findL_miss hn1 hn2 he)
          go_wp2_with fail
          exact ⟨⟨j + 1, by omega, by go_num, HM, HB.out.alloc HB.out.size _⟩, by simp [intOf]; omega⟩
        · have HM : Hid (treeO t s = some t.list[j]) := HF.out.trans (findL_hit hn1 hn2 he)
          go_wp2_with fail
          refine bodyPost_ret (v := .tuple #[.iface T x, .bool true]) (by simp [results, Try.results38, go_sem]) rfl ?_
          unfold InC
          rw [HM.out]
          have hbF := HB.out.alloc HB.out.size (.cells #[.string t.names[j], .iface T x] 95)
          exact ⟨⟨_, rfl, FmR.keeps (Keeps.of_below hbF (Nat.le_refl _) 0) k _ _ HR.out⟩, hbF⟩
      · have HM : Hid (treeO t s = none) := by
          show _ = _
          rw [HF.out, List.drop_eq_nil_of_le (by have := HN.out; omega)]; simp [findL]
        go_wp2_with fail
        refine bodyPost_ret (v := .tuple #[.nilIface, .bool false]) (by simp [results, Try.results38, go_sem]) rfl ?_
        unfold InC
        rw [HM.out]
        exact ⟨rfl, HB.out⟩
  · have HO : Hid (treeO t s = none) := by show _ = _; unfold treeO; rw [if_neg (by omega)]
    have ta := no_var
    go_enter Try.func38, Try.ntmps38
    go_wp2_with fail
    refine bodyPost_ret (v := .tuple #[.nilIface, .bool false]) (by simp [results, Try.results38, go_sem]) rfl ?_
    unfold InC
    rw [HO.out]
    exact ⟨rfl, Below.refl _ _⟩
  · have HO : Hid (treeO t s = none) := by show _ = _; unfold treeO; rw [if_neg (by omega)]
    have ta := no_word
    go_enter Try.func38, Try.ntmps38
    go_wp2_with fail
    refine bodyPost_ret (v := .tuple #[.nilIface, .bool false]) (by simp [results, Try.results38, go_sem]) rfl ?_
    unfold InC
    rw [HO.out]
    exact ⟨rfl, Below.refl _ _⟩

end Go.Proofs.Ytoploikbbnofbaa
