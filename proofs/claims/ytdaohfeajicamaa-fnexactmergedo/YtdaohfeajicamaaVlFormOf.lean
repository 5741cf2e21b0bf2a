
/-
  DERIVED. THE WALKS OF impl.formOf, impl.ValueOk.
-/
import Derived.Test.YtdaohfeajicamaaPlainF
import Derived.Deep.QuietTactic
namespace Go.Proofs.Ytdaohfeajicamaa
open Go.RowKit
set_option linter.unusedVariables false
set_option linter.unusedSimpArgs false

set_option maxHeartbeats 1000000 in
theorem formOf_zero (words : Bool) : FormC words 0 := by
  intro k t vl vn w ht
  clear ht
  go_enter Try.func35, Try.ntmps35
  go_wp2_with fail
  go_ret2
  exact ⟨_, rfl, fun h => by simp [okB] at h, (Below.refl _ _).alloc (Nat.le_refl _) _⟩

set_option maxHeartbeats 4000000 in
set_option maxRecDepth 100000 in
theorem formOf_step (words : Bool) (d : Nat) (hd : d ≤ 10) (hL : ListC words d) (hT : TreeC words d) : FormC words (d + 1) := by
  intro k t vl vn w ht
  cases k with
  | zero => exact ht.elim
  | succ k =>
  have HR : Hid (∀ W, Keeps 0 w W → VlR W 0 (k + 1) t [.int .i64 t.kind, .int .i64 t.num, .string t.text, vl, vn]) := fun W h => VlR.keeps h _ _ _ ht
  obtain ⟨vl', vn', hv, hkd, hnm, htx, hrow, hnames⟩ := ht
  simp only [List.cons.injEq, true_and, and_true] at hv
  obtain ⟨rfl, rfl⟩ := hv
  obtain ⟨a, cap, rfl, hw, _⟩ := hrow.len
  obtain ⟨a', cap', rfl, hw', _⟩ := hnames.len
  clear hrow hnames
  rw [show ((d + 1 : Nat) : Int) = (d : Int) + 1 by omega]
  have hd1 : decide ((d : Int) + 1 < 1) = false := by simp; omega
  have hdd : (d : Int) ≤ 10 := by omega
  cases hp : partsB t.kind t.num t.text t.list.length t.names.length
  · have hfin : Hid (okB words (d + 1) t = false) := ok_parts words d hp
    clear HR
    go_enter Try.func35, Try.ntmps35
    go_wp2_with fail
    refine (parts_any _ _ _ _ _ _ _ _ _ _ (by omega) (by omega)).mono ?_
    rintro e w1 ⟨rfl, hb1⟩
    rw [hp]
    have HB : Hid (Below w.heap.size w w1) := ((Below.refl _ _).alloc (Nat.le_refl _) _).trans (hb1.mono (by simp))
    clear hb1
    go_wp2_with fail
    go_ret2
    exact ⟨_, ret_pair hfin.out.symm rfl, fun h => by rw [hfin.out] at h; exact absurd h (by decide), HB.out⟩
  have Hp : Hid (partsB t.kind t.num t.text t.list.length t.names.length = true) := hp
  go_enter Try.func35, Try.ntmps35
  go_wp2_with fail
  refine (parts_any _ _ _ _ _ _ _ _ _ _ (by omega) (by omega)).mono ?_
  rintro e w1 ⟨rfl, hb1⟩
  rw [hp]
  obtain ⟨hc, hf⟩ := bcell hb1
  have HB : Hid (Below w.heap.size w w1) := ((Below.refl _ _).alloc (Nat.le_refl _) _).trans (hb1.mono (by simp))
  have b0 : w1.cell? ⟨w.heap.size, 0, none⟩ = some (.int .i64 t.kind) := by rw [hc w.heap.size 0 (by simp)]; simp
  have b1 : w1.cell? ⟨w.heap.size, 1, none⟩ = some (.int .i64 t.num) := by rw [hc w.heap.size 1 (by simp)]; simp
  have b2 : w1.cell? ⟨w.heap.size, 2, none⟩ = some (.string t.text) := by rw [hc w.heap.size 2 (by simp)]; simp
  have b3 : w1.cell? ⟨w.heap.size, 3, none⟩ = some (.slice a t.list.length cap) := by rw [hc w.heap.size 3 (by simp)]; simp
  have b4 : w1.cell? ⟨w.heap.size, 4, none⟩ = some (.slice a' t.names.length cap') := by rw [hc w.heap.size 4 (by simp)]; simp
  clear hb1 hc hf hp
  by_cases k0 : t.kind = 0
  · have hfin : Hid (okB words (d + 1) t = true) := by
      have h := Hp.out; rw [k0] at h; exact (ok_k0 words d k0).trans h
    have HF : Hid (FmR w1 w.heap.size (k + 1) t (.iface 69 (.agg #[]))) := Or.inl ⟨k0, rfl⟩
    have e0 : (t.kind == 0) = true := by simp [k0]
    clear k0 HR
    go_wp2_with fail
    go_ret2
    exact ⟨_, ret_pair hfin.out.symm rfl, fun _ => HF.out, HB.out⟩
  have e0 : (t.kind == 0) = false := by simp [k0]
  by_cases k1 : t.kind = 1
  · have hfin : Hid (okB words (d + 1) t = (t.num == 0 || t.num == 1)) := by
      have h := Hp.out; rw [k1] at h; have := ok_k1 words d k1; rw [h, Bool.true_and] at this; exact this
    have HF : Hid (∀ W, FmR W w.heap.size (k + 1) t (.iface 70 (.bool (t.num == 1)))) := fun W => Or.inr (Or.inl ⟨k1, rfl⟩)
    have e1 : (t.kind == 1) = true := by simp [k1]
    clear k1 HR k0
    cases n0 : (t.num == 0) <;> cases n1 : (t.num == 1)
    all_goals
      rw [n0, n1] at hfin
      rw [n1] at HF
      go_wp2_with fail
      go_quiet (fail)
      go_wp2_with fail
      go_ret2
      exact ⟨_, ret_pair (by rw [hfin.out]; rfl) rfl, fun _ => HF.out _, below_drewN HB.out _⟩
  have e1 : (t.kind == 1) = false := by simp [k1]
  by_cases k2 : t.kind = 2
  · have hfin : Hid (okB words (d + 1) t = (decide (-2147483647 ≤ t.num) && decide (t.num ≤ 2147483647))) := by
      have h := Hp.out; rw [k2] at h; have := ok_k2 words d k2; rw [h, Bool.true_and] at this; exact this
    have HF : Hid (∀ W, FmR W w.heap.size (k + 1) t (.iface 71 (.int .i64 t.num))) := fun W => Or.inr (Or.inr (Or.inl ⟨k2, rfl⟩))
    have e2 : (t.kind == 2) = true := by simp [k2]
    clear k2 HR k0 k1
    cases n0 : decide (-2147483647 ≤ t.num) <;> cases n1 : decide (t.num ≤ 2147483647)
    all_goals
      rw [n0, n1] at hfin
      go_wp2_with fail
      go_quiet (fail)
      go_wp2_with fail
      go_ret2
      exact ⟨_, ret_pair (by rw [hfin.out]; rfl) rfl, fun _ => HF.out _, below_drewN HB.out _⟩
  have e2 : (t.kind == 2) = false := by simp [k2]
  by_cases k3 : t.kind = 3
  · have hfin : Hid (okB words (d + 1) t = (decide (t.text.size ≤ 40))) := by
      have h := Hp.out; rw [k3] at h; have := ok_k3 words d k3; rw [h, Bool.true_and] at this; exact this
    have HF : Hid (∀ W, FmR W w.heap.size (k + 1) t (.iface 72 (.string t.text))) := fun W => Or.inr (Or.inr (Or.inr (Or.inl ⟨k3, rfl⟩)))
    have e3 : (t.kind == 3) = true := by simp [k3]
    clear k3 HR k0 k1 k2
    all_goals
      go_wp2_with fail
      go_quiet (fail)
      go_wp2_with fail
      go_ret2
      exact ⟨_, ret_pair (by rw [hfin.out, Bool.eq_iff_iff]; simp only [decide_eq_true_eq]; omega) rfl, fun _ => HF.out _, below_drewN HB.out _⟩
  have e3 : (t.kind == 3) = false := by simp [k3]
  by_cases k4 : t.kind = 4
  · have hfin : Hid (okB words (d + 1) t = listB words d t) := by
      have h := Hp.out; rw [k4] at h; have := ok_k4 words d k4; rw [h, Bool.true_and] at this; exact this
    have e4 : (t.kind == 4) = true := by simp [k4]
    have K4 : Hid (t.kind = 4) := k4
    clear k4 k0 k1 k2 k3
    go_wp2_with fail
    refine (hL k t _ _ _ (HR.out _ (Keeps.of_below HB.out (Nat.le_refl _) _))).mono ?_
    rintro e w2 ⟨v2, rfl, h1, h2, hb2⟩
    have HB2 : Hid (Below w.heap.size w w2) := HB.out.trans (hb2.mono HB.out.size)
    have hsz := HB.out.size
    have HF : Hid (listB words d t = true → FmR w2 w.heap.size (k + 1) t (.iface 74 v2)) := fun h => by
      have k4 := K4.out
      exact FmR.base hsz _ _ _ (FmR.list k4 (h1 h))
    obtain ⟨x2, y2, z2, hv2⟩ : ∃ x y z, v2 = .slice x y z := by
      cases hx : listB words d t
      · exact ⟨_, _, _, h2 hx⟩
      · obtain ⟨p, q, hv, _⟩ := (h1 hx).len
        exact ⟨_, _, _, hv⟩
    subst hv2
    clear h1 h2 hb2 HR
    go_wp2_with fail
    go_ret2
    exact ⟨_, ret_pair hfin.out.symm rfl, fun h => HF.out (hfin.out.symm.trans h), HB2.out⟩
  have e4 : (t.kind == 4) = false := by simp [k4]
  by_cases k5 : t.kind = 5
  · have hfin : Hid (okB words (d + 1) t = treeB words d t) := by
      have h := Hp.out; rw [k5] at h; have := ok_k5 words d k5; rw [h, Bool.true_and] at this; exact this
    have e5 : (t.kind == 5) = true := by simp [k5]
    have K5 : Hid (t.kind = 5) := k5
    clear k5 k0 k1 k2 k3 k4
    go_wp2_with fail
    refine (hT k t _ _ _ (HR.out _ (Keeps.of_below HB.out (Nat.le_refl _) _))).mono ?_
    rintro e w2 ⟨v2, rfl, h1, h2, hb2⟩
    have HB2 : Hid (Below w.heap.size w w2) := HB.out.trans (hb2.mono HB.out.size)
    have hsz := HB.out.size
    have HF : Hid (treeB words d t = true → FmR w2 w.heap.size (k + 1) t (.iface 78 v2)) := fun h => by
      have k5 := K5.out
      have hnl : t.names.length = t.list.length := by
        have h2 := h; simp only [treeB, Bool.and_eq_true, decide_eq_true_eq] at h2; exact h2.1.2
      exact FmR.base hsz _ _ _ (FmR.tree k5 hnl (h1 h))
    obtain ⟨x2, y2, z2, hv2⟩ : ∃ x y z, v2 = .slice x y z := by
      cases hx : treeB words d t
      · exact ⟨_, _, _, h2 hx⟩
      · obtain ⟨p, q, hv, _⟩ := (h1 hx).len
        exact ⟨_, _, _, hv⟩
    subst hv2
    clear h1 h2 hb2 HR
    go_wp2_with fail
    go_ret2
    exact ⟨_, ret_pair hfin.out.symm rfl, fun h => HF.out (hfin.out.symm.trans h), HB2.out⟩
  have e5 : (t.kind == 5) = false := by simp [k5]
  by_cases k6 : t.kind = 6
  · have hfin : Hid (okB words (d + 1) t = (words && nameB t.text.data.toList)) := by
      have h := Hp.out; rw [k6] at h; have := ok_k6 words d k6; rw [h, Bool.true_and] at this; exact this
    have HF : Hid (∀ W, FmR W w.heap.size (k + 1) t (.iface 81 (.string t.text))) := fun W => Or.inr (Or.inr (Or.inr (Or.inr (Or.inr (Or.inr (Or.inl ⟨k6, rfl⟩))))))
    have e6 : (t.kind == 6) = true := by simp [k6]
    clear k6 HR k0 k1 k2 k3 k4 k5
    cases words
    · go_wp2_with fail
      go_quiet (fail)
      go_wp2_with fail
      go_ret2
      exact ⟨_, ret_pair (by rw [hfin.out]; rfl) rfl, fun _ => HF.out _, below_drewN HB.out _⟩
    · go_wp2_with fail
      go_quiet ((go_at_call 60; exact Calls.quiet_of_same (isName_any _ _ (by unfold maxLen; omega))))
      go_wp2_with fail
      go_ret2
      exact ⟨_, ret_pair (by rw [hfin.out]; rfl) rfl, fun _ => HF.out _, below_drewN HB.out _⟩
  have e6 : (t.kind == 6) = false := by simp [k6]
  by_cases k7 : t.kind = 7
  · have hfin : Hid (okB words (d + 1) t = (words && nameB t.text.data.toList)) := by
      have h := Hp.out; rw [k7] at h; have := ok_k7 words d k7; rw [h, Bool.true_and] at this; exact this
    have HF : Hid (∀ W, FmR W w.heap.size (k + 1) t (.iface 83 (.string t.text))) := fun W => Or.inr (Or.inr (Or.inr (Or.inr (Or.inr (Or.inr (Or.inr ⟨k7, rfl⟩))))))
    have e7 : (t.kind == 7) = true := by simp [k7]
    clear k7 HR k0 k1 k2 k3 k4 k5 k6
    cases words
    · go_wp2_with fail
      go_quiet (fail)
      go_wp2_with fail
      go_ret2
      exact ⟨_, ret_pair (by rw [hfin.out]; rfl) rfl, fun _ => HF.out _, below_drewN HB.out _⟩
    · go_wp2_with fail
      go_quiet ((go_at_call 60; exact Calls.quiet_of_same (isName_any _ _ (by unfold maxLen; omega))))
      go_wp2_with fail
      go_ret2
      exact ⟨_, ret_pair (by rw [hfin.out]; rfl) rfl, fun _ => HF.out _, below_drewN HB.out _⟩
  have e7 : (t.kind == 7) = false := by simp [k7]
  have hfin : Hid (okB words (d + 1) t = false) := ok_k8 words d k0 k1 k2 k3 k4 k5 k6 k7
  clear k0 k1 k2 k3 k4 k5 k6 k7 HR
  go_wp2_with fail
  go_ret2
  exact ⟨_, ret_pair hfin.out.symm rfl, fun h => by rw [hfin.out] at h; exact absurd h (by decide), HB.out⟩

theorem form_all (words : Bool) : ∀ d : Nat, d ≤ 11 → FormC words d
  | 0, _ => formOf_zero words
  | d + 1, h =>
    have ih := form_all words d (by omega)
    have hL := listForm_step words d (by omega) ih
    formOf_step words d (by omega) hL (treeForm_step words d (by omega) hL)

end Go.Proofs.Ytdaohfeajicamaa
