
/-
  DERIVED. laws.FnValueSame: its walk out of the contracts.
-/
import Derived.Test.YtegnalfkdponhaaDoorVsLaw
namespace Go.Proofs.YtegnalfkdponhaaDoor
open Go.RowKit Go.Sort
set_option linter.unusedVariables false
set_option linter.unusedSimpArgs false

theorem bool_sameV {a b : Bool} {p q : Prop} (h1 : a = true ↔ p) (h2 : b = true ↔ q) (h : p ↔ q) : b = a := by
  rw [Bool.eq_iff_iff, h1, h2]; exact h.symm
theorem json_sameV {t u : Vl} {b : Bool} (ht : okB false 6 t = true) (hu : okB false 6 u = true) (h : b = true ↔ t = u) : ((⟨(jsonL t).toArray⟩ : ByteArray).toList == (⟨(jsonL u).toArray⟩ : ByteArray).toList) = b := by
  rw [Bool.eq_iff_iff, h, beq_iff_eq, ByteArray.toList_eq, ByteArray.toList_eq]
  show (jsonL t).toArray.toList = (jsonL u).toArray.toList ↔ _
  rw [List.toList_toArray, List.toList_toArray]
  unfold jsonL
  rw [ht, hu, if_pos rfl, if_pos rfl]
  exact put_same ht hu

set_option maxHeartbeats 1500000 in
theorem law_main (sz : Vl → Nat) (hsz : IsSz sz) (a : Option Addr) (n c : Nat) (w : World) (hn : n ≤ 1048576) (hc : n ≤ c) (h1 : CodeAt w a n) (htab : Tab w) :
    Calls Tryd.prog 5 #[.slice a n c] w fun e w' => e = .returned (.bool true) ∧ Below w.heap.size w w' := by
  have b1 : decide ((1048576 : Int) < (n : Int)) = false := decide_eq_false (by omega)
  have H1 : Hid (CodeAt w a n) := h1
  have HTAB : Hid (Tab w) := htab
  clear h1 htab
  go_enter Tryd.func5, Tryd.ntmps5
  go_wp2_with fail
  refine (drawValueSame_any a n c w hn hc H1.out).mono ?_
  rintro e w1 ⟨t, x, xc, y, yc, u, x', xc', y', yc', rfl, hQ, hQ', hb1, hZ, hZ'⟩
  obtain ⟨W1, hW1⟩ : ∃ W1, W1 = (w1.alloc (.cells #[.int .i64 t.kind, .int .i64 t.num, .string t.text, .slice x t.list.length xc, .slice y t.names.length yc] 30)).alloc (.cells #[.int .i64 u.kind, .int .i64 u.num, .string u.text, .slice x' u.list.length xc', .slice y' u.names.length yc'] 30) := ⟨_, rfl⟩
  have hbW : Below w1.heap.size w1 W1 := by rw [hW1]; exact two_below _ _ _
  have HQ : Hid (∀ W, Keeps 0 W1 W → VlQ W 0 20 t [.int .i64 t.kind, .int .i64 t.num, .string t.text, .slice x t.list.length xc, .slice y t.names.length yc]) := fun W h => VlQ.keeps ((Keeps.of_below hbW (Nat.le_refl _) 0).trans h) _ _ _ hQ
  have HQ' : Hid (∀ W, Keeps 0 W1 W → VlQ W 0 20 u [.int .i64 u.kind, .int .i64 u.num, .string u.text, .slice x' u.list.length xc', .slice y' u.names.length yc']) := fun W h => VlQ.keeps ((Keeps.of_below hbW (Nat.le_refl _) 0).trans h) _ _ _ hQ'
  have hO1 : Owns W1 w1.heap.size #[.int .i64 t.kind, .int .i64 t.num, .string t.text, .slice x t.list.length xc, .slice y t.names.length yc] 30 := by rw [hW1]; exact (Owns.made _ _ _).allocS _
  have hO1' : Owns W1 (w1.heap.size + 1) #[.int .i64 u.kind, .int .i64 u.num, .string u.text, .slice x' u.list.length xc', .slice y' u.names.length yc'] 30 := by
    rw [hW1]
    have h := Owns.made (w1.alloc (.cells #[.int .i64 t.kind, .int .i64 t.num, .string t.text, .slice x t.list.length xc, .slice y t.names.length yc] 30)) #[.int .i64 u.kind, .int .i64 u.num, .string u.text, .slice x' u.list.length xc', .slice y' u.names.length yc'] 30
    rw [show (w1.alloc (.cells #[.int .i64 t.kind, .int .i64 t.num, .string t.text, .slice x t.list.length xc, .slice y t.names.length yc] 30)).heap.size = w1.heap.size + 1 by simp] at h
    exact h
  have HO : Hid (∀ W, Keeps 0 W1 W → Owns W w1.heap.size #[.int .i64 t.kind, .int .i64 t.num, .string t.text, .slice x t.list.length xc, .slice y t.names.length yc] 30) := fun W h => owns_keepsT hO1 h
  have HO' : Hid (∀ W, Keeps 0 W1 W → Owns W (w1.heap.size + 1) #[.int .i64 u.kind, .int .i64 u.num, .string u.text, .slice x' u.list.length xc', .slice y' u.names.length yc'] 30) := fun W h => owns_keepsT hO1' h
  have HB1 : Hid (Below w.heap.size w W1) := hb1.trans (hbW.mono hb1.size)
  have HW1 : Hid (W1 = (w1.alloc (.cells #[.int .i64 t.kind, .int .i64 t.num, .string t.text, .slice x t.list.length xc, .slice y t.names.length yc] 30)).alloc (.cells #[.int .i64 u.kind, .int .i64 u.num, .string u.text, .slice x' u.list.length xc', .slice y' u.names.length yc'] 30)) := hW1
  have HZ : Hid (sz t ≤ 10000000) := by have := hZ sz hsz; show _ ≤ _; omega
  have HZ' : Hid (sz u ≤ 10000000) := by have := hZ' sz hsz; show _ ≤ _; omega
  have HP : Hid (∀ W, Keeps 0 W1 W → PL W 20 t.list (.slice x t.list.length xc) ∧ StrRow W 0 t.names (.slice y t.names.length yc)) := fun W h => VlQ.pl _ _ _ _ _ _ _ (HQ.out W h)
  have HP' : Hid (∀ W, Keeps 0 W1 W → PL W 20 u.list (.slice x' u.list.length xc') ∧ StrRow W 0 u.names (.slice y' u.names.length yc')) := fun W h => VlQ.pl _ _ _ _ _ _ _ (HQ'.out W h)
  clear hQ hQ' hb1 hbW hO1 hO1' hW1 hZ hZ'
  go_wp2_with fail
  rw [← HW1.out]
  clear HW1
  obtain ⟨V, hV⟩ : ∃ V, w1.heap.size = V := ⟨_, rfl⟩
  rw [hV] at HO HO' ⊢
  clear hV
  refine (implSame_any sz hsz t u 20 20 _ _ _ _ W1 (HP.out _ (Keeps.refl _ _)).1 (HP.out _ (Keeps.refl _ _)).2 (HP'.out _ (Keeps.refl _ _)).1 (HP'.out _ (Keeps.refl _ _)).2 HZ.out).mono ?_
  rintro e w2 ⟨b, rfl, hb, hb2⟩
  have HSM : Hid (b = true ↔ t = u) := hb
  have HK2 : Hid (Keeps 0 W1 w2) := Keeps.of_below hb2 (Nat.le_refl _) 0
  have HB2 : Hid (Below w.heap.size w w2) := HB1.out.trans (hb2.mono HB1.out.size)
  obtain ⟨c0, c1, c2, c3, c4⟩ := five_ofT (HO.out w2 HK2.out).cell
  obtain ⟨d0, d1, d2, d3, d4⟩ := five_ofT (HO'.out w2 HK2.out).cell
  have hbb : (b != b) = false := by simp
  clear hb hb2 HB1
  go_wp2_with fail
  refine (specVS 20 t u _ _ _ _ w2 (VlQ.read _ _ _ (HQ.out _ HK2.out)) (VlQ.read _ _ _ (HQ'.out _ HK2.out))).mono ?_
  rintro e w3 ⟨b', rfl, hb, hb3⟩
  obtain rfl : b' = b := bool_sameV HSM.out hb Iff.rfl
  have HK3 : Hid (Keeps 0 W1 w3) := keeps_belowT HK2.out hb3
  have HB3 : Hid (Below w.heap.size w w3) := HB2.out.trans (hb3.mono HB2.out.size)
  clear c0 c1 c2 c3 c4 d0 d1 d2 d3 d4 hb hb3 HK2 HB2
  obtain ⟨c0, c1, c2, c3, c4⟩ := five_ofT (HO.out w3 HK3.out).cell
  obtain ⟨d0, d1, d2, d3, d4⟩ := five_ofT (HO'.out w3 HK3.out).cell
  go_wp2_with fail
  refine (implSame_any sz hsz u t 20 20 _ _ _ _ w3 (HP'.out _ HK3.out).1 (HP'.out _ HK3.out).2 (HP.out _ HK3.out).1 (HP.out _ HK3.out).2 HZ'.out).mono ?_
  rintro e w4 ⟨b'', rfl, hb, hb4⟩
  obtain rfl : b'' = b' := bool_sameV HSM.out hb ⟨fun h => h.symm, fun h => h.symm⟩
  have HK4 : Hid (Keeps 0 W1 w4) := keeps_belowT HK3.out hb4
  have HB4 : Hid (Below w.heap.size w w4) := HB3.out.trans (hb4.mono HB3.out.size)
  clear c0 c1 c2 c3 c4 d0 d1 d2 d3 d4 hb hb4 HK3 HB3
  obtain ⟨c0, c1, c2, c3, c4⟩ := five_ofT (HO.out w4 HK4.out).cell
  go_wp2_with fail
  refine (implSame_any sz hsz t t 20 20 _ _ _ _ w4 (HP.out _ HK4.out).1 (HP.out _ HK4.out).2 (HP.out _ HK4.out).1 (HP.out _ HK4.out).2 HZ.out).mono ?_
  rintro e w5 ⟨b5, rfl, hb, hb5⟩
  obtain rfl : b5 = true := hb.2 rfl
  have HK5 : Hid (Keeps 0 W1 w5) := keeps_belowT HK4.out hb5
  have HB5 : Hid (Below w.heap.size w w5) := HB4.out.trans (hb5.mono HB4.out.size)
  clear c0 c1 c2 c3 c4 hb hb5 HK4 HB4
  obtain ⟨c0, c1, c2, c3, c4⟩ := five_ofT (HO.out w5 HK5.out).cell
  obtain ⟨d0, d1, d2, d3, d4⟩ := five_ofT (HO'.out w5 HK5.out).cell
  go_wp2_with fail
  have k0 := cell_regrown c0
  have k1 := cell_regrown c1
  have k2 := cell_regrown c2
  have k3 := cell_regrown c3
  have k4 := cell_regrown c4
  have l0 := cell_regrown d0
  have l1 := cell_regrown d1
  have l2 := cell_regrown d2
  have l3 := cell_regrown d3
  have l4 := cell_regrown d4
  clear c0 c1 c2 c3 c4 d0 d1 d2 d3 d4
  obtain ⟨okA, hokA⟩ : ∃ q, okB false 6 t = q := ⟨_, rfl⟩
  obtain ⟨okC, hokC⟩ : ∃ q, okB false 6 u = q := ⟨_, rfl⟩
  obtain ⟨ja, hja⟩ : ∃ q, (⟨(jsonL t).toArray⟩ : ByteArray) = q := ⟨_, rfl⟩
  obtain ⟨jb, hjb⟩ : ∃ q, (⟨(jsonL u).toArray⟩ : ByteArray) = q := ⟨_, rfl⟩
  have HKG : Hid (∀ d os, Keeps 0 W1 (grow (redrawn w5 d) os)) := fun d os => keeps_belowT HK5.out (below_regrown w5 d os)
  have HBG : Hid (∀ d os, Below w.heap.size w (grow (redrawn w5 d) os)) := fun d os => HB5.out.trans ((below_regrown w5 d os).mono HB5.out.size)
  have cA : ∀ d os, Calls Tryd.prog 16 #[.agg #[.int .i64 t.kind, .int .i64 t.num, .string t.text, .slice x t.list.length xc, .slice y t.names.length yc]] (grow (redrawn w5 d) os) fun e w'' => e = .returned (.bool okA) ∧ ∃ p : Regrown, w'' = grow (redrawn w5 p.d) p.os := fun d os => Calls.regrown_of ((specValueOk_any 20 t _ _ _ (VlQ.read _ _ _ (HQ.out _ (HKG.out d os)))).mono (by rintro e w6 ⟨rfl, hb⟩; exact ⟨by rw [hokA], hb⟩))
  have cC : ∀ d os, Calls Tryd.prog 16 #[.agg #[.int .i64 u.kind, .int .i64 u.num, .string u.text, .slice x' u.list.length xc', .slice y' u.names.length yc']] (grow (redrawn w5 d) os) fun e w'' => e = .returned (.bool okC) ∧ ∃ p : Regrown, w'' = grow (redrawn w5 p.d) p.os := fun d os => Calls.regrown_of ((specValueOk_any 20 u _ _ _ (VlQ.read _ _ _ (HQ'.out _ (HKG.out d os)))).mono (by rintro e w6 ⟨rfl, hb⟩; exact ⟨by rw [hokC], hb⟩))
  have cJ : ∀ d os, Calls Tryd.prog 9 #[.agg #[.int .i64 t.kind, .int .i64 t.num, .string t.text, .slice x t.list.length xc, .slice y t.names.length yc]] (grow (redrawn w5 d) os) fun e w'' => e = .returned (.string ja) ∧ ∃ p : Regrown, w'' = grow (redrawn w5 p.d) p.os := fun d os => Calls.regrown_of ((implJsonPut_any 20 t _ _ _ (VlQ.read _ _ _ (HQ.out _ (HKG.out d os))) (HTAB.out.on (HBG.out d os))).mono (by rintro e w6 ⟨rfl, hb⟩; exact ⟨by rw [hja], hb⟩))
  have cL : ∀ d os, Calls Tryd.prog 9 #[.agg #[.int .i64 u.kind, .int .i64 u.num, .string u.text, .slice x' u.list.length xc', .slice y' u.names.length yc']] (grow (redrawn w5 d) os) fun e w'' => e = .returned (.string jb) ∧ ∃ p : Regrown, w'' = grow (redrawn w5 p.d) p.os := fun d os => Calls.regrown_of ((implJsonPut_any 20 u _ _ _ (VlQ.read _ _ _ (HQ'.out _ (HKG.out d os))) (HTAB.out.on (HBG.out d os))).mono (by rintro e w6 ⟨rfl, hb⟩; exact ⟨by rw [hjb], hb⟩))
  have HJ : Hid (okA = true → okC = true → (ja.toList == jb.toList) = b'') := fun h2 h3 => by
    rw [← hja, ← hjb]
    exact json_sameV (by rw [hokA, h2]) (by rw [hokC, h3]) HSM.out
  clear hokA hokC hja hjb HK5 HB5 HKG HSM HZ HZ' HP HP' HQ HQ' HO HO' HTAB
  cases okA
  · refine wp_region_quiet_below (by kernel_rfl) (by kernel_rfl) ?_
    repeat (go_big_quiet_step (first | (go_at_call 16; with_reducible exact cA _ _)))
    refine wpQuiet_nil ?_
    intro _ hw'
    obtain ⟨⟨dq, osq⟩, hw''⟩ := hw'
    subst hw''
    go_wp2_with fail
    go_ret
    exact ⟨rfl, HBG.out _ _⟩
  cases okC
  · refine wp_region_quiet_below (by kernel_rfl) (by kernel_rfl) ?_
    repeat (go_big_quiet_step (first | (go_at_call 16; first | with_reducible exact cA _ _ | with_reducible exact cC _ _)))
    refine wpQuiet_nil ?_
    intro _ hw'
    obtain ⟨⟨dq, osq⟩, hw''⟩ := hw'
    subst hw''
    go_wp2_with fail
    go_ret
    exact ⟨rfl, HBG.out _ _⟩
  have hjj := HJ.out rfl rfl
  clear HJ
  have hbe : (b'' == b'') = true := by simp
  refine wp_region_quiet_below (by kernel_rfl) (by kernel_rfl) ?_
  repeat (go_big_quiet_step (first | (go_at_call 16; first | with_reducible exact cA _ _ | with_reducible exact cC _ _) | (go_at_call 9; first | with_reducible exact cJ _ _ | with_reducible exact cL _ _)))
  refine wpQuiet_nil ?_
  intro _ hw'
  obtain ⟨⟨dq, osq⟩, hw''⟩ := hw'
  subst hw''
  go_wp2_with fail
  go_ret
  exact ⟨rfl, HBG.out _ _⟩

end Go.Proofs.YtegnalfkdponhaaDoor
