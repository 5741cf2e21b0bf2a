
/-
  DERIVED. laws.FnValueSorted: its walk out of the contracts.
-/
import Derived.Test.YtdaohfeajicamaaSoT
import Derived.ProofKit
import Derived.SizedLaws
import Derived.ShutString
import Derived.ChangeOld
import Derived.OpenShut
import Derived.ChangeSlices
namespace Go.Proofs.Ytdaohfeajicamaa
open Go.RowKit
set_option linter.unusedVariables false
set_option linter.unusedSimpArgs false

set_option maxHeartbeats 16000000 in
set_option maxRecDepth 4000 in
theorem sorted_main (dep sz vz : Vl → Nat) (hd : IsDep dep) (hsz : IsSz sz) (hvz : IsVz vz) (a : Option Addr) (n c : Nat) (w : World) (hn : n ≤ 1048576) (hc : n ≤ c) (h1 : CodeAt w a n) :
    Calls Try.prog 4 #[.slice a n c] w fun e w' => e = .returned (.bool true) ∧ Below w.heap.size w w' := by
  have b1 : decide ((1048576 : Int) < (n : Int)) = false := decide_eq_false (by omega)
  have H1 : Hid (CodeAt w a n) := h1
  clear h1
  go_enter Try.func4, Try.ntmps4
  go_wp2_with fail
  refine (drawValueSorted_any a n c w hn hc H1.out).mono ?_
  rintro e w1 ⟨t, x, xc, y, yc, rfl, hQ, hb1, _⟩
  obtain ⟨W1, hW1⟩ : ∃ W1, W1 = w1.alloc (.cells #[.int .i64 t.kind, .int .i64 t.num, .string t.text, .slice x t.list.length xc, .slice y t.names.length yc] 29) := ⟨_, rfl⟩
  have hbW : Below w1.heap.size w1 W1 := by rw [hW1]; exact (Below.refl _ _).alloc (Nat.le_refl _) _
  have HQ : Hid (∀ W, Keeps 0 W1 W → VlQ W 0 20 t [.int .i64 t.kind, .int .i64 t.num, .string t.text, .slice x t.list.length xc, .slice y t.names.length yc]) := fun W h => VlQ.keeps ((Keeps.of_below hbW (Nat.le_refl _) 0).trans h) _ _ _ hQ
  have hO1 : Owns W1 w1.heap.size #[.int .i64 t.kind, .int .i64 t.num, .string t.text, .slice x t.list.length xc, .slice y t.names.length yc] 29 := by rw [hW1]; exact Owns.made _ _ _
  have HO : Hid (∀ W, Keeps 0 W1 W → Owns W w1.heap.size #[.int .i64 t.kind, .int .i64 t.num, .string t.text, .slice x t.list.length xc, .slice y t.names.length yc] 29) := fun W h => owns_keeps hO1 h
  have HB1 : Hid (Below w.heap.size w W1) := hb1.trans (hbW.mono hb1.size)
  have HD20 : Hid (dep t ≤ 20) := VlQ.depV hd _ _ _ hQ
  have HW1 : Hid (W1 = w1.alloc (.cells #[.int .i64 t.kind, .int .i64 t.num, .string t.text, .slice x t.list.length xc, .slice y t.names.length yc] 29)) := hW1
  clear hQ hb1 hbW hO1 hW1
  go_wp2_with fail
  rw [← HW1.out]
  clear HW1
  obtain ⟨V, hV⟩ : ∃ V, w1.heap.size = V := ⟨_, rfl⟩
  rw [hV] at HO ⊢
  clear hV
  obtain ⟨X, hX⟩ : ∃ X, sortG 18 t = X := ⟨_, rfl⟩
  have hc2 := implValueSorted_any 18 (by omega) t _ _ W1 (VlQ.read _ _ _ (HQ.out _ (Keeps.refl _ _)))
  unfold ImplSO at hc2
  rw [hX] at hc2
  refine hc2.mono ?_
  rintro e w2 ⟨vl2, vn2, rfl, hO2, hb2⟩
  obtain ⟨xa, xac, xa', xac', hv⟩ := hO2.cells
  simp only [List.cons.injEq, true_and, and_true] at hv
  obtain ⟨rfl, rfl⟩ := hv
  have HX : Hid (sortG 18 t = X) := hX
  obtain ⟨W3, hW3⟩ : ∃ W3, W3 = w2.alloc (.cells #[.int .i64 X.kind, .int .i64 X.num, .string X.text, .slice xa X.list.length xac, .slice xa' X.names.length xac'] 29) := ⟨_, rfl⟩
  have hb3 : Below w2.heap.size w2 W3 := by rw [hW3]; exact (Below.refl _ _).alloc (Nat.le_refl _) _
  have hOx : Owns W3 w2.heap.size #[.int .i64 X.kind, .int .i64 X.num, .string X.text, .slice xa X.list.length xac, .slice xa' X.names.length xac'] 29 := by rw [hW3]; exact Owns.made _ _ _
  have HOx : Hid (∀ W, Keeps 0 W3 W → Owns W w2.heap.size #[.int .i64 X.kind, .int .i64 X.num, .string X.text, .slice xa X.list.length xac, .slice xa' X.names.length xac'] 29) := fun W h => owns_keeps hOx h
  have HXR : Hid (∀ W, Keeps 0 W3 W → VlR W 0 20 X [.int .i64 X.kind, .int .i64 X.num, .string X.text, .slice xa X.list.length xac, .slice xa' X.names.length xac']) := fun W h => VlR.keeps ((Keeps.of_below hb3 (Nat.le_refl _) 0).trans h) _ _ _ (VlR.base (Nat.zero_le _) _ _ _ (VlO.read _ _ _ _ _ hO2))
  have HXP : Hid (∀ W, Below W3.heap.size W3 W → PIn W W.heap.size 20 X.list (.slice xa X.list.length xac)) := fun W h => by
    have q1 := VlO.pinS _ _ _ _ _ _ _ _ _ hO2 (Nat.le_refl _)
    have q2 : Below w2.heap.size w2 W := hb3.trans (h.mono hb3.size)
    exact PIn.mono q2.size _ _ _ (PIn.keep q2 _ _ _ q1)
  have HK3 : Hid (Keeps 0 W1 W3) := keeps_belowV (Keeps.of_below hb2 (Nat.le_refl _) 0) hb3
  have HB3 : Hid (Below w.heap.size w W3) := (HB1.out.trans (hb2.mono HB1.out.size)).trans (hb3.mono (Nat.le_trans HB1.out.size hb2.size))
  obtain ⟨v0, v1, v2, v3, v4⟩ := five_ofV (HO.out w2 (Keeps.of_below hb2 (Nat.le_refl _) 0)).cell
  have hvl2 : V < w2.heap.size := cell_lt v0
  have HW3 : Hid (W3 = w2.alloc (.cells #[.int .i64 X.kind, .int .i64 X.num, .string X.text, .slice xa X.list.length xac, .slice xa' X.names.length xac'] 29)) := hW3
  clear hb2 hb3 hO2 hOx hX hW3 HB1 hc2
  go_wp2_with fail
  rw [← HW3.out]
  clear HW3 v0 v1 v2 v3 v4
  obtain ⟨bx, hbx⟩ : ∃ bx, w2.heap.size = bx := ⟨_, rfl⟩
  rw [hbx] at HOx ⊢
  clear hbx hvl2
  have HVQ : Hid (∀ W, Keeps 0 W3 W → VlQ W 0 20 t [.int .i64 t.kind, .int .i64 t.num, .string t.text, .slice x t.list.length xc, .slice y t.names.length yc]) := fun W h => HQ.out _ (HK3.out.trans h)
  have HCELLS : Hid (∀ W, Below W3.heap.size W3 W → (W.cell? ⟨V, 0, none⟩ = some (.int .i64 t.kind) ∧ W.cell? ⟨V, 1, none⟩ = some (.int .i64 t.num) ∧ W.cell? ⟨V, 2, none⟩ = some (.string t.text) ∧ W.cell? ⟨V, 3, none⟩ = some (.slice x t.list.length xc) ∧ W.cell? ⟨V, 4, none⟩ = some (.slice y t.names.length yc)) ∧ (W.cell? ⟨bx, 0, none⟩ = some (.int .i64 X.kind) ∧ W.cell? ⟨bx, 1, none⟩ = some (.int .i64 X.num) ∧ W.cell? ⟨bx, 2, none⟩ = some (.string X.text) ∧ W.cell? ⟨bx, 3, none⟩ = some (.slice xa X.list.length xac) ∧ W.cell? ⟨bx, 4, none⟩ = some (.slice xa' X.names.length xac'))) := fun W h => by
    have hk : Keeps 0 W3 W := Keeps.of_below h (Nat.le_refl _) 0
    exact ⟨five_ofV (HO.out W (HK3.out.trans hk)).cell, five_ofV (HOx.out W hk).cell⟩
  clear HQ HO HOx HK3
  obtain ⟨ok, hok⟩ : ∃ ok, okB false 6 t = ok := ⟨_, rfl⟩
  have HSS : Hid (∀ W, Hid (Below W3.heap.size W3 W) → Calls Try.prog 10 #[.agg #[.int .i64 t.kind, .int .i64 t.num, .string t.text, .slice x t.list.length xc, .slice y t.names.length yc]] W fun e w1 => ∃ (p1 : Option Addr) (n1 : Nat) (p1' : Option Addr) (n1' : Nat), e = .returned (.agg #[.int .i64 X.kind, .int .i64 X.num, .string X.text, .slice p1 X.list.length n1, .slice p1' X.names.length n1']) ∧ ((w1.cell? ⟨V, 0, none⟩ = some (.int .i64 t.kind) ∧ w1.cell? ⟨V, 1, none⟩ = some (.int .i64 t.num) ∧ w1.cell? ⟨V, 2, none⟩ = some (.string t.text) ∧ w1.cell? ⟨V, 3, none⟩ = some (.slice x t.list.length xc) ∧ w1.cell? ⟨V, 4, none⟩ = some (.slice y t.names.length yc)) ∧ (w1.cell? ⟨bx, 0, none⟩ = some (.int .i64 X.kind) ∧ w1.cell? ⟨bx, 1, none⟩ = some (.int .i64 X.num) ∧ w1.cell? ⟨bx, 2, none⟩ = some (.string X.text) ∧ w1.cell? ⟨bx, 3, none⟩ = some (.slice xa X.list.length xac) ∧ w1.cell? ⟨bx, 4, none⟩ = some (.slice xa' X.names.length xac'))) ∧ Hid (VlR w1 0 20 X [.int .i64 X.kind, .int .i64 X.num, .string X.text, .slice p1 X.list.length n1, .slice p1' X.names.length n1']) ∧ Hid (Below W3.heap.size W3 w1)) := fun W hB => keptSS (w0 := W3) (C := fun W => (W.cell? ⟨V, 0, none⟩ = some (.int .i64 t.kind) ∧ W.cell? ⟨V, 1, none⟩ = some (.int .i64 t.num) ∧ W.cell? ⟨V, 2, none⟩ = some (.string t.text) ∧ W.cell? ⟨V, 3, none⟩ = some (.slice x t.list.length xc) ∧ W.cell? ⟨V, 4, none⟩ = some (.slice y t.names.length yc)) ∧ (W.cell? ⟨bx, 0, none⟩ = some (.int .i64 X.kind) ∧ W.cell? ⟨bx, 1, none⟩ = some (.int .i64 X.num) ∧ W.cell? ⟨bx, 2, none⟩ = some (.string X.text) ∧ W.cell? ⟨bx, 3, none⟩ = some (.slice xa X.list.length xac) ∧ W.cell? ⟨bx, 4, none⟩ = some (.slice xa' X.names.length xac'))) 18 (by omega) HX.out HCELLS.out hB (VlQ.read _ _ _ (HVQ.out _ (Keeps.of_below hB.out (Nat.le_refl _) 0)))
  have HPG : Hid (∀ (W : World) (p1 : Option Addr) (n1 : Nat) (p1' : Option Addr) (n1' : Nat), Hid (VlR W 0 20 X [.int .i64 X.kind, .int .i64 X.num, .string X.text, .slice p1 X.list.length n1, .slice p1' X.names.length n1']) → Hid (Below W3.heap.size W3 W) → Calls Try.prog 17 #[.agg #[.int .i64 X.kind, .int .i64 X.num, .string X.text, .slice xa X.list.length xac, .slice xa' X.names.length xac'], .agg #[.int .i64 X.kind, .int .i64 X.num, .string X.text, .slice p1 X.list.length n1, .slice p1' X.names.length n1']] W fun e w1 => e = .returned (.bool true) ∧ ((w1.cell? ⟨V, 0, none⟩ = some (.int .i64 t.kind) ∧ w1.cell? ⟨V, 1, none⟩ = some (.int .i64 t.num) ∧ w1.cell? ⟨V, 2, none⟩ = some (.string t.text) ∧ w1.cell? ⟨V, 3, none⟩ = some (.slice x t.list.length xc) ∧ w1.cell? ⟨V, 4, none⟩ = some (.slice y t.names.length yc)) ∧ (w1.cell? ⟨bx, 0, none⟩ = some (.int .i64 X.kind) ∧ w1.cell? ⟨bx, 1, none⟩ = some (.int .i64 X.num) ∧ w1.cell? ⟨bx, 2, none⟩ = some (.string X.text) ∧ w1.cell? ⟨bx, 3, none⟩ = some (.slice xa X.list.length xac) ∧ w1.cell? ⟨bx, 4, none⟩ = some (.slice xa' X.names.length xac'))) ∧ Hid (Below W3.heap.size W3 w1)) := fun W p1 n1 p1' n1' hR hB => keptS (w0 := W3) (C := fun W => (W.cell? ⟨V, 0, none⟩ = some (.int .i64 t.kind) ∧ W.cell? ⟨V, 1, none⟩ = some (.int .i64 t.num) ∧ W.cell? ⟨V, 2, none⟩ = some (.string t.text) ∧ W.cell? ⟨V, 3, none⟩ = some (.slice x t.list.length xc) ∧ W.cell? ⟨V, 4, none⟩ = some (.slice y t.names.length yc)) ∧ (W.cell? ⟨bx, 0, none⟩ = some (.int .i64 X.kind) ∧ W.cell? ⟨bx, 1, none⟩ = some (.int .i64 X.num) ∧ W.cell? ⟨bx, 2, none⟩ = some (.string X.text) ∧ W.cell? ⟨bx, 3, none⟩ = some (.slice xa X.list.length xac) ∧ W.cell? ⟨bx, 4, none⟩ = some (.slice xa' X.names.length xac'))) HCELLS.out hB (pgV_all 20 X _ _ _ _ W (HXR.out _ (Keeps.of_below hB.out (Nat.le_refl _) 0)) hR.out)
  have HOS : Hid (∀ W, Hid (Below W3.heap.size W3 W) → Calls Try.prog 18 #[.agg #[.int .i64 t.kind, .int .i64 t.num, .string t.text, .slice x t.list.length xc, .slice y t.names.length yc]] W fun e w1 => e = .returned (.bool ok) ∧ ((w1.cell? ⟨V, 0, none⟩ = some (.int .i64 t.kind) ∧ w1.cell? ⟨V, 1, none⟩ = some (.int .i64 t.num) ∧ w1.cell? ⟨V, 2, none⟩ = some (.string t.text) ∧ w1.cell? ⟨V, 3, none⟩ = some (.slice x t.list.length xc) ∧ w1.cell? ⟨V, 4, none⟩ = some (.slice y t.names.length yc)) ∧ (w1.cell? ⟨bx, 0, none⟩ = some (.int .i64 X.kind) ∧ w1.cell? ⟨bx, 1, none⟩ = some (.int .i64 X.num) ∧ w1.cell? ⟨bx, 2, none⟩ = some (.string X.text) ∧ w1.cell? ⟨bx, 3, none⟩ = some (.slice xa X.list.length xac) ∧ w1.cell? ⟨bx, 4, none⟩ = some (.slice xa' X.names.length xac'))) ∧ Hid (Below W3.heap.size W3 w1)) := fun W hB => keptS (w0 := W3) (C := fun W => (W.cell? ⟨V, 0, none⟩ = some (.int .i64 t.kind) ∧ W.cell? ⟨V, 1, none⟩ = some (.int .i64 t.num) ∧ W.cell? ⟨V, 2, none⟩ = some (.string t.text) ∧ W.cell? ⟨V, 3, none⟩ = some (.slice x t.list.length xc) ∧ W.cell? ⟨V, 4, none⟩ = some (.slice y t.names.length yc)) ∧ (W.cell? ⟨bx, 0, none⟩ = some (.int .i64 X.kind) ∧ W.cell? ⟨bx, 1, none⟩ = some (.int .i64 X.num) ∧ W.cell? ⟨bx, 2, none⟩ = some (.string X.text) ∧ W.cell? ⟨bx, 3, none⟩ = some (.slice xa X.list.length xac) ∧ W.cell? ⟨bx, 4, none⟩ = some (.slice xa' X.names.length xac'))) HCELLS.out hB (by rw [← hok]; exact specValueOk_any 20 t _ _ W (VlQ.read _ _ _ (HVQ.out _ (Keeps.of_below hB.out (Nat.le_refl _) 0))))
  have HOK : Hid (okB false 6 t = ok) := hok
  clear hok
  have HBd : Hid (Below W3.heap.size W3 W3.drew) := (Below.refl _ W3).drew
  obtain ⟨⟨v0, v1, v2, v3, v4⟩, ⟨x0, x1, x2, x3, x4⟩⟩ := HCELLS.out W3 (Below.refl _ _)
  cases ok
  · go_wp2_with fail
    go_region_held3 (fun w' => (w'.cell? ⟨V, 0, none⟩ = some (.int .i64 t.kind) ∧ w'.cell? ⟨V, 1, none⟩ = some (.int .i64 t.num) ∧ w'.cell? ⟨V, 2, none⟩ = some (.string t.text) ∧ w'.cell? ⟨V, 3, none⟩ = some (.slice x t.list.length xc) ∧ w'.cell? ⟨V, 4, none⟩ = some (.slice y t.names.length yc)) ∧ (w'.cell? ⟨bx, 0, none⟩ = some (.int .i64 X.kind) ∧ w'.cell? ⟨bx, 1, none⟩ = some (.int .i64 X.num) ∧ w'.cell? ⟨bx, 2, none⟩ = some (.string X.text) ∧ w'.cell? ⟨bx, 3, none⟩ = some (.slice xa X.list.length xac) ∧ w'.cell? ⟨bx, 4, none⟩ = some (.slice xa' X.names.length xac'))) (go_keep) (first | (go_at_call 10; refine (Hid.out HSS _ (by assumption)).mono ?_; (try clear v0 v1 v2 v3 v4 x0 x1 x2 x3 x4); rintro e wS ⟨p1, n1, p1', n1', rfl, ⟨⟨v0, v1, v2, v3, v4⟩, ⟨x0, x1, x2, x3, x4⟩⟩, HRS, HBS⟩) | (go_at_call 17; refine (Hid.out HPG _ _ _ _ _ HRS HBS).mono ?_; (try clear v0 v1 v2 v3 v4 x0 x1 x2 x3 x4); rintro e wG ⟨rfl, ⟨⟨v0, v1, v2, v3, v4⟩, ⟨x0, x1, x2, x3, x4⟩⟩, HBG⟩) | (go_at_call 18; refine (Hid.out HOS _ (by assumption)).mono ?_; (try clear v0 v1 v2 v3 v4 x0 x1 x2 x3 x4); rintro e wK ⟨rfl, ⟨⟨v0, v1, v2, v3, v4⟩, ⟨x0, x1, x2, x3, x4⟩⟩, HBK⟩))
    have HBe : Hid (Below W3.heap.size W3 wK.drew) := HBK.out.drew
    clear HBd HBS HBG HRS
    go_wp2_with fail
    go_region_held3 (fun w' => (w'.cell? ⟨V, 0, none⟩ = some (.int .i64 t.kind) ∧ w'.cell? ⟨V, 1, none⟩ = some (.int .i64 t.num) ∧ w'.cell? ⟨V, 2, none⟩ = some (.string t.text) ∧ w'.cell? ⟨V, 3, none⟩ = some (.slice x t.list.length xc) ∧ w'.cell? ⟨V, 4, none⟩ = some (.slice y t.names.length yc)) ∧ (w'.cell? ⟨bx, 0, none⟩ = some (.int .i64 X.kind) ∧ w'.cell? ⟨bx, 1, none⟩ = some (.int .i64 X.num) ∧ w'.cell? ⟨bx, 2, none⟩ = some (.string X.text) ∧ w'.cell? ⟨bx, 3, none⟩ = some (.slice xa X.list.length xac) ∧ w'.cell? ⟨bx, 4, none⟩ = some (.slice xa' X.names.length xac'))) (go_keep) (first | (go_at_call 10; refine (Hid.out HSS _ (by assumption)).mono ?_; (try clear v0 v1 v2 v3 v4 x0 x1 x2 x3 x4); rintro e wS ⟨p1, n1, p1', n1', rfl, ⟨⟨v0, v1, v2, v3, v4⟩, ⟨x0, x1, x2, x3, x4⟩⟩, HRS, HBS⟩) | (go_at_call 17; refine (Hid.out HPG _ _ _ _ _ HRS HBS).mono ?_; (try clear v0 v1 v2 v3 v4 x0 x1 x2 x3 x4); rintro e wG ⟨rfl, ⟨⟨v0, v1, v2, v3, v4⟩, ⟨x0, x1, x2, x3, x4⟩⟩, HBG⟩))
    clear v0 v1 v2 v3 v4 x0 x1 x2 x3 x4
    go_wp2_with fail
    go_ret
    exact ⟨rfl, below_endS HB3 HBG⟩
  · have hwf : wfB 20 t = true := ok_wf _ _ (okB_le (by omega) HOK.out)
    have hXs : X = srt 20 t := by rw [← HX.out, sortG_yes HOK.out]
    have HWF : Hid (wfB 20 t = true) := hwf
    have HXS : Hid (X = srt 20 t) := hXs
    have HOKX : Hid (okB false 6 X = true) := by show _ = _; rw [hXs]; exact okB_srt 6 20 t (by omega) HOK.out
    have HNM : Hid (t.names.length = 0 ∨ (t.kind = 5 ∧ t.names.length = t.list.length)) := ok_namesS HOK.out
    have HLX : Hid (X.names.length = t.names.length) := by show _ = _; rw [hXs]; exact (len_srt hwf).1
    have hnl : t.names.length ≤ 140737488351232 := by
      obtain ⟨vl, vn, e, _, _, _, _, hnames, _⟩ := HVQ.out _ (Keeps.refl _ _)
      obtain ⟨_, _, _, h16, _⟩ := StrRow.len hnames
      omega
    have hnli : (t.names.length : Int) ≤ 140737488351232 := by omega
    clear hwf hXs
    go_wp2_with fail
    go_region_held3 (fun w' => (w'.cell? ⟨V, 0, none⟩ = some (.int .i64 t.kind) ∧ w'.cell? ⟨V, 1, none⟩ = some (.int .i64 t.num) ∧ w'.cell? ⟨V, 2, none⟩ = some (.string t.text) ∧ w'.cell? ⟨V, 3, none⟩ = some (.slice x t.list.length xc) ∧ w'.cell? ⟨V, 4, none⟩ = some (.slice y t.names.length yc)) ∧ (w'.cell? ⟨bx, 0, none⟩ = some (.int .i64 X.kind) ∧ w'.cell? ⟨bx, 1, none⟩ = some (.int .i64 X.num) ∧ w'.cell? ⟨bx, 2, none⟩ = some (.string X.text) ∧ w'.cell? ⟨bx, 3, none⟩ = some (.slice xa X.list.length xac) ∧ w'.cell? ⟨bx, 4, none⟩ = some (.slice xa' X.names.length xac'))) (go_keep) (first | (go_at_call 10; refine (Hid.out HSS _ (by assumption)).mono ?_; (try clear v0 v1 v2 v3 v4 x0 x1 x2 x3 x4); rintro e wS ⟨p1, n1, p1', n1', rfl, ⟨⟨v0, v1, v2, v3, v4⟩, ⟨x0, x1, x2, x3, x4⟩⟩, HRS, HBS⟩) | (go_at_call 17; refine (Hid.out HPG _ _ _ _ _ HRS HBS).mono ?_; (try clear v0 v1 v2 v3 v4 x0 x1 x2 x3 x4); rintro e wG ⟨rfl, ⟨⟨v0, v1, v2, v3, v4⟩, ⟨x0, x1, x2, x3, x4⟩⟩, HBG⟩) | (go_at_call 18; refine (Hid.out HOS _ (by assumption)).mono ?_; (try clear v0 v1 v2 v3 v4 x0 x1 x2 x3 x4); rintro e wK ⟨rfl, ⟨⟨v0, v1, v2, v3, v4⟩, ⟨x0, x1, x2, x3, x4⟩⟩, HBK⟩))
    clear HBd HBS HBG HRS v0 v1 v2 v3 v4 x0 x1 x2 x3 x4
    obtain ⟨⟨v0, v1, v2, v3, v4⟩, _⟩ := HCELLS.out wK HBK.out
    go_wp2_with fail
    clear v0 v1 v2 v3 v4
    go_loopw [5] (fun i wr => ∃ j : Nat, j ≤ t.names.length ∧ i = .int .i64 (j : Int) ∧ Hid (Below W3.heap.size W3 wr)) (fun i _ => t.names.length - (intOf i).toNat)
    case atStart => exact ⟨0, Nat.zero_le _, rfl, HBK⟩
    case round =>
      obtain ⟨j, hj, rfl, HBr⟩ := hrel
      have HKr : Hid (Keeps 0 W3 wr) := Keeps.of_below HBr.out (Nat.le_refl _) 0
      have hjl : (j : Int) ≤ 140737488351232 := by omega
      by_cases hlt : j < t.names.length
      · have hlti : (j : Int) < (t.names.length : Int) := by omega
        obtain ⟨h5, hln⟩ : t.kind = 5 ∧ t.names.length = t.list.length := by
          rcases HNM.out with h | h
          · omega
          · exact h
        have hlt' : j < t.list.length := by omega
        have hlti' : (j : Int) < (t.list.length : Int) := by omega
        have HG1 : Hid (treeG X t.names[j] = some (srt 19 t.list[j])) := by
          show _ = _
          rw [treeG_yes HOKX.out, HXS.out]
          exact tree_srt HWF.out h5 hlt hlt'
        have HG2 : Hid (sortG 17 t.list[j] = srt 19 t.list[j]) := sortG_yes (okB_le (by omega) (ok_childS HOK.out (List.getElem_mem hlt')))
        obtain ⟨Y, hY⟩ : ∃ Y, srt 19 t.list[j] = Y := ⟨_, rfl⟩
        rw [hY] at HG1 HG2
        clear hY
        have hltX : j < X.names.length := by rw [HLX.out]; exact hlt
        have hltXi : (j : Int) < (X.names.length : Int) := by omega
        have HLT : Hid (∀ (i : Nat) (h : i + 1 < X.names.length), bLt X.names[i] X.names[i + 1] = true) := fun i h => by
          have hx := HXS.out
          subst hx
          exact names_srt HWF.out h5 h
        obtain ⟨vl, vn, e, _, _, _, hrow, hnames, _⟩ := HVQ.out wr HKr.out
        simp only [List.cons.injEq, true_and, and_true] at e
        obtain ⟨rfl, rfl⟩ := e
        obtain ⟨a', c', hv', _, hr⟩ := StrRow.len hnames
        obtain ⟨nb, noff, rfl, _, hcs⟩ := hr (List.ne_nil_of_length_pos (by omega))
        simp only [Value.slice.injEq, true_and] at hv'
        obtain ⟨rfl, rfl⟩ := hv'
        obtain ⟨n0, hn0⟩ := hcs j hlt
        obtain ⟨la, lc, hlv, _, hlr⟩ := Row.len hrow
        obtain ⟨lb, loff, rfl, _, hlcs⟩ := hlr (List.ne_nil_of_length_pos (by omega))
        simp only [Value.slice.injEq, true_and] at hlv
        obtain ⟨rfl, rfl⟩ := hlv
        obtain ⟨cs, _, hlc, hlq⟩ := hlcs j hlt'
        obtain ⟨p, n1, p', n1', rfl⟩ := (VlQ.read _ _ _ hlq).cells
        obtain ⟨e0, e1, e2, e3, e4⟩ := hlc.five
        obtain ⟨vlX, vnX, e, _, _, _, _, hnX⟩ := HXR.out wr HKr.out
        simp only [List.cons.injEq, true_and, and_true] at e
        obtain ⟨rfl, rfl⟩ := e
        obtain ⟨aX, cX, hvX, _, hrX⟩ := StrRow.len hnX
        obtain ⟨mb, moff, rfl, _, hcsX⟩ := hrX (List.ne_nil_of_length_pos (by omega))
        simp only [Value.slice.injEq, true_and] at hvX
        obtain ⟨rfl, rfl⟩ := hvX
        obtain ⟨m0, _⟩ := hcsX j hltX
        clear m0
        have HM1 : Hid (∀ (i : Nat) (h : i < X.names.length), wr.cell? ⟨mb, moff + i, none⟩ = some (.string X.names[i])) := fun i h => (hcsX i h).1
        have HCJ : Hid (VlR wr 0 19 t.list[j] [.int .i64 t.list[j].kind, .int .i64 t.list[j].num, .string t.list[j].text, .slice p t.list[j].list.length n1, .slice p' t.list[j].names.length n1']) := VlQ.read _ _ _ hlq
        have hs0 : t.names[j].size ≤ 140737488351232 := by first | exact hn0 | exact hn0.1 | omega
        clear hrow hnames hr hcs hln hlr hlcs hlc hlq hn0 hnX hrX hcsX h5
        obtain ⟨⟨v0, v1, v2, v3, v4⟩, ⟨x0, x1, x2, x3, x4⟩⟩ := HCELLS.out wr HBr.out
        have HTG : Hid (∀ W, Hid (Below wr.heap.size wr W) → Calls Try.prog 19 #[.agg #[.int .i64 X.kind, .int .i64 X.num, .string X.text, .slice xa X.list.length xac, .slice (some ⟨mb, moff, none⟩) X.names.length xac'], .string t.names[j]] W fun e w1 => ∃ (p1 : Option Addr) (n1 : Nat) (p1' : Option Addr) (n1' : Nat), e = .returned (.tuple #[.agg #[.int .i64 Y.kind, .int .i64 Y.num, .string Y.text, .slice p1 Y.list.length n1, .slice p1' Y.names.length n1'], .bool true]) ∧ ((w1.cell? ⟨bx, 0, none⟩ = some (.int .i64 X.kind) ∧ w1.cell? ⟨bx, 1, none⟩ = some (.int .i64 X.num) ∧ w1.cell? ⟨bx, 2, none⟩ = some (.string X.text) ∧ w1.cell? ⟨bx, 3, none⟩ = some (.slice xa X.list.length xac) ∧ w1.cell? ⟨bx, 4, none⟩ = some (.slice (some ⟨mb, moff, none⟩) X.names.length xac')) ∧ w1.cell? ⟨V, 4, none⟩ = some (.slice (some ⟨nb, noff, none⟩) t.names.length yc) ∧ w1.cell? ⟨nb, noff + j, none⟩ = some (.string t.names[j])) ∧ Hid (VlR w1 W.heap.size 19 Y [.int .i64 Y.kind, .int .i64 Y.num, .string Y.text, .slice p1 Y.list.length n1, .slice p1' Y.names.length n1']) ∧ Hid (Below wr.heap.size wr w1) ∧ Hid (Below W.heap.size W w1)) := fun W hB => keptTG (w0 := wr) (C := fun W => (W.cell? ⟨bx, 0, none⟩ = some (.int .i64 X.kind) ∧ W.cell? ⟨bx, 1, none⟩ = some (.int .i64 X.num) ∧ W.cell? ⟨bx, 2, none⟩ = some (.string X.text) ∧ W.cell? ⟨bx, 3, none⟩ = some (.slice xa X.list.length xac) ∧ W.cell? ⟨bx, 4, none⟩ = some (.slice (some ⟨mb, moff, none⟩) X.names.length xac')) ∧ W.cell? ⟨V, 4, none⟩ = some (.slice (some ⟨nb, noff, none⟩) t.names.length yc) ∧ W.cell? ⟨nb, noff + j, none⟩ = some (.string t.names[j])) 18 (by omega) hs0 HG1.out (fun W h => ⟨⟨cell_on h x0, cell_on h x1, cell_on h x2, cell_on h x3, cell_on h x4⟩, cell_on h v4, cell_on h n0⟩) hB (HXR.out W (Keeps.of_below (HBr.out.trans (hB.out.mono HBr.out.size)) (Nat.le_refl _) 0))
        have HBd : Hid (Below wr.heap.size wr wr.drew) := (Below.refl _ wr).drew
        have HBz : Hid (Below wr.heap.size wr (wr.alloc (Obj.cells #[.int .i64 0, .int .i64 0, .string ⟨#[]⟩, .slice none 0 0, .slice none 0 0] 29)).drew) := ((Below.refl _ wr).alloc (Nat.le_refl _) _).drew
        have hVlt := cell_lt v4
        have hblt := cell_lt x0
        have hnlt := cell_lt n0
        have hVne : V ≠ wr.heap.size := Nat.ne_of_lt hVlt
        have hbne : bx ≠ wr.heap.size := Nat.ne_of_lt hblt
        have hnne : nb ≠ wr.heap.size := Nat.ne_of_lt hnlt
        clear v0 v1 v2 v3
        go_wp2_with fail
        go_region_held3 (fun w' => (w'.cell? ⟨bx, 0, none⟩ = some (.int .i64 X.kind) ∧ w'.cell? ⟨bx, 1, none⟩ = some (.int .i64 X.num) ∧ w'.cell? ⟨bx, 2, none⟩ = some (.string X.text) ∧ w'.cell? ⟨bx, 3, none⟩ = some (.slice xa X.list.length xac) ∧ w'.cell? ⟨bx, 4, none⟩ = some (.slice (some ⟨mb, moff, none⟩) X.names.length xac')) ∧ w'.cell? ⟨V, 4, none⟩ = some (.slice (some ⟨nb, noff, none⟩) t.names.length yc) ∧ w'.cell? ⟨nb, noff + j, none⟩ = some (.string t.names[j])) (first | go_keep | exact ⟨⟨far5S (by first | exact hbne | exact Nat.ne_of_lt (cell_lt x0)) x0, far5S (by first | exact hbne | exact Nat.ne_of_lt (cell_lt x1)) x1, far5S (by first | exact hbne | exact Nat.ne_of_lt (cell_lt x2)) x2, far5S (by first | exact hbne | exact Nat.ne_of_lt (cell_lt x3)) x3, far5S (by first | exact hbne | exact Nat.ne_of_lt (cell_lt x4)) x4⟩, far5S (by first | exact hVne | exact Nat.ne_of_lt (cell_lt v4)) v4, far5S (by first | exact hnne | exact Nat.ne_of_lt (cell_lt n0)) n0⟩) (first | (go_at_call 19; refine (Hid.out HTG _ (by first | exact HBd | exact HBz)).mono ?_; (try clear x0 x1 x2 x3 x4 v4 n0); rintro e wT ⟨p2, n2, p2', n2', rfl, ⟨⟨x0, x1, x2, x3, x4⟩, v4, n0⟩, HRT, HBT, HBT2⟩; (try (have HZ := newbox_kept HBT2; obtain ⟨⟨z0, z1, z2, z3, z4⟩, zf, zn⟩ := HZ))))
        rotate_left
        · -- the box was made ahead of the call
          obtain ⟨WN, hWN⟩ : ∃ WN, WN = (((((wT.setCell ⟨wr.heap.size, 0, none⟩ (.int .i64 Y.kind)).setCell ⟨wr.heap.size, 1, none⟩ (.int .i64 Y.num)).setCell ⟨wr.heap.size, 2, none⟩ (.string Y.text)).setCell ⟨wr.heap.size, 3, none⟩ (.slice p2 Y.list.length n2)).setCell ⟨wr.heap.size, 4, none⟩ (.slice p2' Y.names.length n2')) := ⟨_, rfl⟩
          rw [← hWN]
          have HBN : Hid (Below wr.heap.size wr WN) := by rw [hWN]; exact below5S (Nat.le_refl _) HBT.out
          have HAN : Hid (WN.cell? ⟨wr.heap.size, 0, none⟩ = some (.int .i64 Y.kind) ∧ WN.cell? ⟨wr.heap.size, 1, none⟩ = some (.int .i64 Y.num) ∧ WN.cell? ⟨wr.heap.size, 2, none⟩ = some (.string Y.text) ∧ WN.cell? ⟨wr.heap.size, 3, none⟩ = some (.slice p2 Y.list.length n2) ∧ WN.cell? ⟨wr.heap.size, 4, none⟩ = some (.slice p2' Y.names.length n2')) := by rw [hWN]; exact set5S z0 z1 z2 z3 z4
          have HRN : Hid (VlR WN 0 19 Y [.int .i64 Y.kind, .int .i64 Y.num, .string Y.text, .slice p2 Y.list.length n2, .slice p2' Y.names.length n2']) := by rw [hWN]; exact VlR.base (Nat.zero_le _) _ _ _ (VlR.keeps keep5S _ _ _ (by have h := HRT.out; simpa using h))
          clear hWN HBT HBT2 HRT z0 z1 z2 z3 z4 zf zn x0 x1 x2 x3 x4 v4 n0
          obtain ⟨A, hA⟩ : ∃ A, wr.heap.size = A := ⟨_, rfl⟩
          rw [hA] at HAN ⊢
          clear hA
          have HBWN : Hid (Below W3.heap.size W3 WN) := HBr.out.trans (HBN.out.mono HBr.out.size)
          obtain ⟨⟨_, _, _, v3, _⟩, ⟨_, _, _, _, x4⟩⟩ := HCELLS.out WN HBWN.out
          obtain ⟨a0, a1, a2, a3, a4⟩ := HAN.out
          replace e0 := cell_on HBN.out e0
          replace e1 := cell_on HBN.out e1
          replace e2 := cell_on HBN.out e2
          replace e3 := cell_on HBN.out e3
          replace e4 := cell_on HBN.out e4
          have HBd : Hid (Below WN.heap.size WN WN.drew) := (Below.refl _ WN).drew
          rcases Nat.eq_zero_or_pos j with hj0 | hj0
          · have hgt : decide ((0 : Int) < (j : Int)) = false := decide_eq_false (by omega)
            have hgt' : decide (0 < j) = false := decide_eq_false (by omega)
            have HSI : Hid (∀ W, Hid (Below WN.heap.size WN W) → Calls Try.prog 12 #[.agg #[.int .i64 t.list[j].kind, .int .i64 t.list[j].num, .string t.list[j].text, .slice p t.list[j].list.length n1, .slice p' t.list[j].names.length n1']] W fun e w1 => ∃ (p3 : Option Addr) (n3 : Nat) (p3' : Option Addr) (n3' : Nat), e = .returned (.agg #[.int .i64 Y.kind, .int .i64 Y.num, .string Y.text, .slice p3 Y.list.length n3, .slice p3' Y.names.length n3']) ∧ ((w1.cell? ⟨A, 0, none⟩ = some (.int .i64 Y.kind) ∧ w1.cell? ⟨A, 1, none⟩ = some (.int .i64 Y.num) ∧ w1.cell? ⟨A, 2, none⟩ = some (.string Y.text) ∧ w1.cell? ⟨A, 3, none⟩ = some (.slice p2 Y.list.length n2) ∧ w1.cell? ⟨A, 4, none⟩ = some (.slice p2' Y.names.length n2')) ∧ w1.cell? ⟨V, 3, none⟩ = some (.slice (some ⟨lb, loff, none⟩) t.list.length xc) ∧ w1.cell? ⟨lb, loff + j * 5, none⟩ = some (.int .i64 t.list[j].kind) ∧ w1.cell? ⟨lb, loff + j * 5 + 1, none⟩ = some (.int .i64 t.list[j].num) ∧ w1.cell? ⟨lb, loff + j * 5 + 2, none⟩ = some (.string t.list[j].text) ∧ w1.cell? ⟨lb, loff + j * 5 + 3, none⟩ = some (.slice p t.list[j].list.length n1) ∧ w1.cell? ⟨lb, loff + j * 5 + 4, none⟩ = some (.slice p' t.list[j].names.length n1')) ∧ Hid (VlR w1 0 19 Y [.int .i64 Y.kind, .int .i64 Y.num, .string Y.text, .slice p3 Y.list.length n3, .slice p3' Y.names.length n3']) ∧ Hid (Below WN.heap.size WN w1)) := fun W hB => keptSI (w0 := WN) (C := fun W => (W.cell? ⟨A, 0, none⟩ = some (.int .i64 Y.kind) ∧ W.cell? ⟨A, 1, none⟩ = some (.int .i64 Y.num) ∧ W.cell? ⟨A, 2, none⟩ = some (.string Y.text) ∧ W.cell? ⟨A, 3, none⟩ = some (.slice p2 Y.list.length n2) ∧ W.cell? ⟨A, 4, none⟩ = some (.slice p2' Y.names.length n2')) ∧ W.cell? ⟨V, 3, none⟩ = some (.slice (some ⟨lb, loff, none⟩) t.list.length xc) ∧ W.cell? ⟨lb, loff + j * 5, none⟩ = some (.int .i64 t.list[j].kind) ∧ W.cell? ⟨lb, loff + j * 5 + 1, none⟩ = some (.int .i64 t.list[j].num) ∧ W.cell? ⟨lb, loff + j * 5 + 2, none⟩ = some (.string t.list[j].text) ∧ W.cell? ⟨lb, loff + j * 5 + 3, none⟩ = some (.slice p t.list[j].list.length n1) ∧ W.cell? ⟨lb, loff + j * 5 + 4, none⟩ = some (.slice p' t.list[j].names.length n1')) 17 (by omega) HG2.out (fun W h => ⟨⟨cell_on h a0, cell_on h a1, cell_on h a2, cell_on h a3, cell_on h a4⟩, cell_on h v3, cell_on h e0, cell_on h e1, cell_on h e2, cell_on h e3, cell_on h e4⟩) hB (VlR.keeps (Keeps.of_below (HBN.out.trans (hB.out.mono HBN.out.size)) (Nat.le_refl _) 0) _ _ _ HCJ.out)
            have HPY : Hid (∀ (W : World) (p3 : Option Addr) (n3 : Nat) (p3' : Option Addr) (n3' : Nat), Hid (VlR W 0 19 Y [.int .i64 Y.kind, .int .i64 Y.num, .string Y.text, .slice p3 Y.list.length n3, .slice p3' Y.names.length n3']) → Hid (Below WN.heap.size WN W) → Calls Try.prog 17 #[.agg #[.int .i64 Y.kind, .int .i64 Y.num, .string Y.text, .slice p2 Y.list.length n2, .slice p2' Y.names.length n2'], .agg #[.int .i64 Y.kind, .int .i64 Y.num, .string Y.text, .slice p3 Y.list.length n3, .slice p3' Y.names.length n3']] W fun e w1 => e = .returned (.bool true) ∧ ((w1.cell? ⟨A, 0, none⟩ = some (.int .i64 Y.kind) ∧ w1.cell? ⟨A, 1, none⟩ = some (.int .i64 Y.num) ∧ w1.cell? ⟨A, 2, none⟩ = some (.string Y.text) ∧ w1.cell? ⟨A, 3, none⟩ = some (.slice p2 Y.list.length n2) ∧ w1.cell? ⟨A, 4, none⟩ = some (.slice p2' Y.names.length n2')) ∧ w1.cell? ⟨V, 3, none⟩ = some (.slice (some ⟨lb, loff, none⟩) t.list.length xc) ∧ w1.cell? ⟨lb, loff + j * 5, none⟩ = some (.int .i64 t.list[j].kind) ∧ w1.cell? ⟨lb, loff + j * 5 + 1, none⟩ = some (.int .i64 t.list[j].num) ∧ w1.cell? ⟨lb, loff + j * 5 + 2, none⟩ = some (.string t.list[j].text) ∧ w1.cell? ⟨lb, loff + j * 5 + 3, none⟩ = some (.slice p t.list[j].list.length n1) ∧ w1.cell? ⟨lb, loff + j * 5 + 4, none⟩ = some (.slice p' t.list[j].names.length n1')) ∧ Hid (Below WN.heap.size WN w1)) := fun W p3 n3 p3' n3' hR hB => keptS (w0 := WN) (C := fun W => (W.cell? ⟨A, 0, none⟩ = some (.int .i64 Y.kind) ∧ W.cell? ⟨A, 1, none⟩ = some (.int .i64 Y.num) ∧ W.cell? ⟨A, 2, none⟩ = some (.string Y.text) ∧ W.cell? ⟨A, 3, none⟩ = some (.slice p2 Y.list.length n2) ∧ W.cell? ⟨A, 4, none⟩ = some (.slice p2' Y.names.length n2')) ∧ W.cell? ⟨V, 3, none⟩ = some (.slice (some ⟨lb, loff, none⟩) t.list.length xc) ∧ W.cell? ⟨lb, loff + j * 5, none⟩ = some (.int .i64 t.list[j].kind) ∧ W.cell? ⟨lb, loff + j * 5 + 1, none⟩ = some (.int .i64 t.list[j].num) ∧ W.cell? ⟨lb, loff + j * 5 + 2, none⟩ = some (.string t.list[j].text) ∧ W.cell? ⟨lb, loff + j * 5 + 3, none⟩ = some (.slice p t.list[j].list.length n1) ∧ W.cell? ⟨lb, loff + j * 5 + 4, none⟩ = some (.slice p' t.list[j].names.length n1')) (fun W h => ⟨⟨cell_on h a0, cell_on h a1, cell_on h a2, cell_on h a3, cell_on h a4⟩, cell_on h v3, cell_on h e0, cell_on h e1, cell_on h e2, cell_on h e3, cell_on h e4⟩) hB (pgV_all 19 Y _ _ _ _ W (VlR.keeps (Keeps.of_below hB.out (Nat.le_refl _) 0) _ _ _ HRN.out) hR.out)
            clear x4 hj0
            go_wp2_with fail
            refine wp_region_held_drew (S := fun w' => (w'.cell? ⟨A, 0, none⟩ = some (.int .i64 Y.kind) ∧ w'.cell? ⟨A, 1, none⟩ = some (.int .i64 Y.num) ∧ w'.cell? ⟨A, 2, none⟩ = some (.string Y.text) ∧ w'.cell? ⟨A, 3, none⟩ = some (.slice p2 Y.list.length n2) ∧ w'.cell? ⟨A, 4, none⟩ = some (.slice p2' Y.names.length n2')) ∧ w'.cell? ⟨V, 3, none⟩ = some (.slice (some ⟨lb, loff, none⟩) t.list.length xc) ∧ w'.cell? ⟨lb, loff + j * 5, none⟩ = some (.int .i64 t.list[j].kind) ∧ w'.cell? ⟨lb, loff + j * 5 + 1, none⟩ = some (.int .i64 t.list[j].num) ∧ w'.cell? ⟨lb, loff + j * 5 + 2, none⟩ = some (.string t.list[j].text) ∧ w'.cell? ⟨lb, loff + j * 5 + 3, none⟩ = some (.slice p t.list[j].list.length n1) ∧ w'.cell? ⟨lb, loff + j * 5 + 4, none⟩ = some (.slice p' t.list[j].names.length n1')) (by kernel_rfl) ?_ (fun hHeld => ?_)
            · try dsimp only
              go_keep
            refine wpAnyH_take (i := 0) (oi := { dst := some 46, op := Op.move (Operand.tmp 7), type := 4, pos := "laws.go:1140", after := #[], guard := none }) (v := ?_) rfl (by kernel_rfl) (by kernel_rfl) (by kernel_rfl) (fun _ _ _ h => h) (Or.inl ⟨by rfl, ?_⟩) (by assumption) ?_
            rotate_left 1
            · (intro w hSw; (try dsimp only at hSw); go_simp)
              all_goals (try with_reducible rfl)
            try simp only [Act.put, List.setIfInBounds_toArray, List.set_cons_zero, List.set_cons_succ]
            refine wpAnyH_take (i := 1) (oi := { dst := some 47, op := Op.unOp UnOp.not 4 (Operand.tmp 46), type := 4, pos := "laws.go:1140", after := #[{ on := 0, ground := Ground.data }], guard := none }) (v := ?_) rfl (by kernel_rfl) (by kernel_rfl) (by kernel_rfl) (fun _ _ _ h => h) (Or.inl ⟨by rfl, ?_⟩) (by assumption) ?_
            rotate_left 1
            · (intro w hSw; (try dsimp only at hSw); go_simp)
              all_goals (try with_reducible rfl)
            try simp only [Act.put, List.setIfInBounds_toArray, List.set_cons_zero, List.set_cons_succ]
            refine wpAnyH_take (i := 2) (oi := { dst := some 48, op := Op.move (Operand.tmp 47), type := 4, pos := "laws.go:1140", after := #[{ on := 1, ground := Ground.data }], guard := none }) (v := ?_) rfl (by kernel_rfl) (by kernel_rfl) (by kernel_rfl) (fun _ _ _ h => h) (Or.inl ⟨by rfl, ?_⟩) (by assumption) ?_
            rotate_left 1
            · (intro w hSw; (try dsimp only at hSw); go_simp)
              all_goals (try with_reducible rfl)
            try simp only [Act.put, List.setIfInBounds_toArray, List.set_cons_zero, List.set_cons_succ]
            refine wpAnyH_take (i := 3) (oi := { dst := some 49, op := Op.load 29 (Operand.tmp 6), type := 29, pos := "laws.go:1140", after := #[{ on := 2, ground := Ground.guard }], guard := some (2, false) }) (v := ?_) rfl (by kernel_rfl) (by kernel_rfl) (by kernel_rfl) (fun _ _ _ h => h) (Or.inl ⟨by rfl, ?_⟩) (by assumption) ?_
            rotate_left 1
            · (intro w hSw; (try dsimp only at hSw); go_simp)
              all_goals (try with_reducible rfl)
            try simp only [Act.put, List.setIfInBounds_toArray, List.set_cons_zero, List.set_cons_succ]
            refine wpAnyH_take (i := 4) (oi := { dst := some 50, op := Op.fieldAddr 29 (Operand.tmp 3) 3, type := 0, pos := "laws.go:1140", after := #[{ on := 2, ground := Ground.guard }], guard := some (2, false) }) (v := ?_) rfl (by kernel_rfl) (by kernel_rfl) (by kernel_rfl) (fun _ _ _ h => h) (Or.inl ⟨by rfl, ?_⟩) (by assumption) ?_
            rotate_left 1
            · (intro w hSw; (try dsimp only at hSw); go_simp)
              all_goals (try with_reducible rfl)
            try simp only [Act.put, List.setIfInBounds_toArray, List.set_cons_zero, List.set_cons_succ]
            refine wpAnyH_take (i := 5) (oi := { dst := some 51, op := Op.load 27 (Operand.tmp 50), type := 27, pos := "laws.go:1140", after := #[{ on := 4, ground := Ground.data }, { on := 2, ground := Ground.guard }], guard := some (2, false) }) (v := ?_) rfl (by kernel_rfl) (by kernel_rfl) (by kernel_rfl) (fun _ _ _ h => h) (Or.inl ⟨by rfl, ?_⟩) (by assumption) ?_
            rotate_left 1
            · (intro w hSw; (try dsimp only at hSw); go_simp)
              all_goals (try with_reducible rfl)
            try simp only [Act.put, List.setIfInBounds_toArray, List.set_cons_zero, List.set_cons_succ]
            refine wpAnyH_take (i := 6) (oi := { dst := some 52, op := Op.move (Operand.tmp 5), type := 3, pos := "laws.go:1140", after := #[{ on := 2, ground := Ground.guard }], guard := some (2, false) }) (v := ?_) rfl (by kernel_rfl) (by kernel_rfl) (by kernel_rfl) (fun _ _ _ h => h) (Or.inl ⟨by rfl, ?_⟩) (by assumption) ?_
            rotate_left 1
            · (intro w hSw; (try dsimp only at hSw); go_simp)
              all_goals (try with_reducible rfl)
            try simp only [Act.put, List.setIfInBounds_toArray, List.set_cons_zero, List.set_cons_succ]
            refine wpAnyH_take (i := 7) (oi := { dst := some 53, op := Op.indexAddr 27 (Operand.tmp 51) (Operand.tmp 52), type := 0, pos := "laws.go:1140", after := #[{ on := 5, ground := Ground.data }, { on := 6, ground := Ground.data }, { on := 2, ground := Ground.guard }], guard := some (2, false) }) (v := ?_) rfl (by kernel_rfl) (by kernel_rfl) (by kernel_rfl) (fun _ _ _ h => h) (Or.inl ⟨by rfl, ?_⟩) (by assumption) ?_
            rotate_left 1
            · (intro w hSw; (try dsimp only at hSw); go_simp)
              all_goals (try with_reducible rfl)
            try simp only [Act.put, List.setIfInBounds_toArray, List.set_cons_zero, List.set_cons_succ]
            refine wpAnyH_take (i := 8) (oi := { dst := some 54, op := Op.load 29 (Operand.tmp 53), type := 29, pos := "laws.go:1140", after := #[{ on := 7, ground := Ground.data }, { on := 2, ground := Ground.guard }], guard := some (2, false) }) (v := ?_) rfl (by kernel_rfl) (by kernel_rfl) (by kernel_rfl) (fun _ _ _ h => h) (Or.inl ⟨by rfl, ?_⟩) (by assumption) ?_
            rotate_left 1
            · (intro w hSw; (try dsimp only at hSw); go_simp)
              all_goals (try with_reducible rfl)
            try simp only [Act.put, List.setIfInBounds_toArray, List.set_cons_zero, List.set_cons_succ]
            refine wpAnyH_ready (rs := [9]) (by kernel_rfl) (by simp) ?_
            refine AllReadyH.cons (o := { dst := some 55, op := Op.call { callee := Callee.value (Operand.func 12), args := #[Operand.tmp 54], argTypes := #[29] }, type := 29, pos := "laws.go:1140", after := #[{ on := 8, ground := Ground.data }, { on := 2, ground := Ground.chain }, { on := 2, ground := Ground.guard }], guard := some (2, false) }) rfl (fun K hK => ?_) ?_
            · go_simp
              (go_at_call 12; refine (Hid.out HSI _ HBd).mono ?_; (try clear a0 a1 a2 a3 a4 v3 e0 e1 e2 e3 e4); rintro e wS ⟨p3, n3, p3', n3', rfl, ⟨⟨a0, a1, a2, a3, a4⟩, v3, e0, e1, e2, e3, e4⟩, HRS, HBS⟩)
              refine hK.out _ _ ?_ (fun hHeld0 => ?_)
              · try dsimp only
                go_keep
              clear hK K hHeld
              try simp only [Act.put, List.setIfInBounds_toArray, List.set_cons_zero, List.set_cons_succ]
              refine wpAnyH_ready (rs := [10]) (by kernel_rfl) (by simp) ?_
              refine AllReadyH.cons (o := { dst := some 56, op := Op.call { callee := Callee.value (Operand.func 17), args := #[Operand.tmp 49, Operand.tmp 55], argTypes := #[29, 29] }, type := 4, pos := "laws.go:1140", after := #[{ on := 3, ground := Ground.data }, { on := 9, ground := Ground.data }, { on := 9, ground := Ground.chain }, { on := 2, ground := Ground.guard }], guard := some (2, false) }) rfl (fun K hK => ?_) ?_
              · go_simp
                (go_at_call 17; refine (Hid.out HPY _ _ _ _ _ HRS HBS).mono ?_; (try clear a0 a1 a2 a3 a4 v3 e0 e1 e2 e3 e4); rintro e wG ⟨rfl, ⟨⟨a0, a1, a2, a3, a4⟩, v3, e0, e1, e2, e3, e4⟩, HBG⟩)
                refine hK.out _ _ ?_ (fun hHeld1 => ?_)
                · try dsimp only
                  go_keep
                clear hK K hHeld0
                try simp only [Act.put, List.setIfInBounds_toArray, List.set_cons_zero, List.set_cons_succ]
                refine wpAnyH_take (i := 11) (oi := { dst := some 57, op := Op.unOp UnOp.not 4 (Operand.tmp 56), type := 4, pos := "laws.go:1140", after := #[{ on := 10, ground := Ground.data }, { on := 2, ground := Ground.guard }], guard := some (2, false) }) (v := ?_) rfl (by kernel_rfl) (by kernel_rfl) (by kernel_rfl) (fun _ _ _ h => h) (Or.inl ⟨by rfl, ?_⟩) (by assumption) ?_
                rotate_left 1
                · (intro w hSw; (try dsimp only at hSw); go_simp)
                  all_goals (try with_reducible rfl)
                try simp only [Act.put, List.setIfInBounds_toArray, List.set_cons_zero, List.set_cons_succ]
                refine wpAnyH_take (i := 12) (oi := { dst := some 58, op := Op.pick (Operand.tmp 48) (Operand.const (Value.bool true)) (Operand.tmp 57), type := 4, pos := "laws.go:1140", after := #[{ on := 2, ground := Ground.data }, { on := 11, ground := Ground.data }], guard := none }) (v := ?_) rfl (by kernel_rfl) (by kernel_rfl) (by kernel_rfl) (fun _ _ _ h => h) (Or.inl ⟨by rfl, ?_⟩) (by assumption) ?_
                rotate_left 1
                · (intro w hSw; (try dsimp only at hSw); go_simp)
                  all_goals (try with_reducible rfl)
                try simp only [Act.put, List.setIfInBounds_toArray, List.set_cons_zero, List.set_cons_succ]
                refine wpAnyH_take (i := 13) (oi := { dst := some 59, op := Op.move (Operand.tmp 58), type := 4, pos := "laws.go:1140", after := #[{ on := 12, ground := Ground.data }, { on := 10, ground := Ground.chain }], guard := none }) (v := ?_) rfl (by kernel_rfl) (by kernel_rfl) (by kernel_rfl) (fun _ _ _ h => h) (Or.inl ⟨by rfl, ?_⟩) (by assumption) ?_
                rotate_left 1
                · (intro w hSw; (try dsimp only at hSw); go_simp)
                  all_goals (try with_reducible rfl)
                try simp only [Act.put, List.setIfInBounds_toArray, List.set_cons_zero, List.set_cons_succ]
                refine wpAnyH_take (i := 14) (oi := { dst := some 60, op := Op.move (Operand.tmp 5), type := 3, pos := "laws.go:1140", after := #[{ on := 13, ground := Ground.guard }], guard := some (13, false) }) (v := ?_) rfl (by kernel_rfl) (by kernel_rfl) (by kernel_rfl) (fun _ _ _ h => h) (Or.inl ⟨by rfl, ?_⟩) (by assumption) ?_
                rotate_left 1
                · (intro w hSw; (try dsimp only at hSw); go_simp)
                  all_goals (try with_reducible rfl)
                try simp only [Act.put, List.setIfInBounds_toArray, List.set_cons_zero, List.set_cons_succ]
                refine wpAnyH_take (i := 15) (oi := { dst := some 61, op := Op.binOp BinOp.gtr 3 (Operand.tmp 60) (Operand.const (Value.int IntKind.i64 0)) 3, type := 4, pos := "laws.go:1140", after := #[{ on := 14, ground := Ground.data }, { on := 13, ground := Ground.guard }], guard := some (13, false) }) (v := ?_) rfl (by kernel_rfl) (by kernel_rfl) (by kernel_rfl) (fun _ _ _ h => h) (Or.inl ⟨by rfl, ?_⟩) (by assumption) ?_
                rotate_left 1
                · (intro w hSw; (try dsimp only at hSw); go_simp)
                  all_goals (try with_reducible rfl)
                try simp only [Act.put, List.setIfInBounds_toArray, List.set_cons_zero, List.set_cons_succ]
                refine wpAnyH_take (i := 16) (oi := { dst := some 62, op := Op.move (Operand.tmp 61), type := 4, pos := "laws.go:1140", after := #[{ on := 15, ground := Ground.data }, { on := 13, ground := Ground.chain }, { on := 13, ground := Ground.guard }], guard := some (13, false) }) (v := ?_) rfl (by kernel_rfl) (by kernel_rfl) (by kernel_rfl) (fun _ _ _ h => h) (Or.inl ⟨by rfl, ?_⟩) (by assumption) ?_
                rotate_left 1
                · (intro w hSw; (try dsimp only at hSw); go_simp)
                  all_goals (try with_reducible rfl)
                try simp only [Act.put, List.setIfInBounds_toArray, List.set_cons_zero, List.set_cons_succ]
                refine wpAnyH_take (i := 17) (oi := { dst := some 63, op := Op.fieldAddr 29 (Operand.tmp 4) 4, type := 0, pos := "laws.go:1140", after := #[{ on := 16, ground := Ground.guard }], guard := some (16, true) }) (v := undef) rfl (by kernel_rfl) (by kernel_rfl) (by kernel_rfl) (fun _ _ _ h => h) (Or.inr ⟨by rfl, rfl⟩) (by assumption) ?_
                try simp only [Act.put, List.setIfInBounds_toArray, List.set_cons_zero, List.set_cons_succ]
                refine wpAnyH_take (i := 18) (oi := { dst := some 64, op := Op.load 23 (Operand.tmp 63), type := 23, pos := "laws.go:1140", after := #[{ on := 17, ground := Ground.data }, { on := 16, ground := Ground.guard }], guard := some (16, true) }) (v := undef) rfl (by kernel_rfl) (by kernel_rfl) (by kernel_rfl) (fun _ _ _ h => h) (Or.inr ⟨by rfl, rfl⟩) (by assumption) ?_
                try simp only [Act.put, List.setIfInBounds_toArray, List.set_cons_zero, List.set_cons_succ]
                refine wpAnyH_take (i := 19) (oi := { dst := some 65, op := Op.move (Operand.tmp 5), type := 3, pos := "laws.go:1140", after := #[{ on := 16, ground := Ground.guard }], guard := some (16, true) }) (v := undef) rfl (by kernel_rfl) (by kernel_rfl) (by kernel_rfl) (fun _ _ _ h => h) (Or.inr ⟨by rfl, rfl⟩) (by assumption) ?_
                try simp only [Act.put, List.setIfInBounds_toArray, List.set_cons_zero, List.set_cons_succ]
                refine wpAnyH_take (i := 20) (oi := { dst := some 66, op := Op.binOp BinOp.sub 3 (Operand.tmp 65) (Operand.const (Value.int IntKind.i64 1)) 3, type := 3, pos := "laws.go:1140", after := #[{ on := 19, ground := Ground.data }, { on := 16, ground := Ground.guard }], guard := some (16, true) }) (v := undef) rfl (by kernel_rfl) (by kernel_rfl) (by kernel_rfl) (fun _ _ _ h => h) (Or.inr ⟨by rfl, rfl⟩) (by assumption) ?_
                try simp only [Act.put, List.setIfInBounds_toArray, List.set_cons_zero, List.set_cons_succ]
                refine wpAnyH_take (i := 21) (oi := { dst := some 67, op := Op.indexAddr 23 (Operand.tmp 64) (Operand.tmp 66), type := 0, pos := "laws.go:1140", after := #[{ on := 18, ground := Ground.data }, { on := 20, ground := Ground.data }, { on := 16, ground := Ground.guard }], guard := some (16, true) }) (v := undef) rfl (by kernel_rfl) (by kernel_rfl) (by kernel_rfl) (fun _ _ _ h => h) (Or.inr ⟨by rfl, rfl⟩) (by assumption) ?_
                try simp only [Act.put, List.setIfInBounds_toArray, List.set_cons_zero, List.set_cons_succ]
                refine wpAnyH_take (i := 22) (oi := { dst := some 68, op := Op.load 9 (Operand.tmp 67), type := 9, pos := "laws.go:1140", after := #[{ on := 21, ground := Ground.data }, { on := 16, ground := Ground.guard }], guard := some (16, true) }) (v := undef) rfl (by kernel_rfl) (by kernel_rfl) (by kernel_rfl) (fun _ _ _ h => h) (Or.inr ⟨by rfl, rfl⟩) (by assumption) ?_
                try simp only [Act.put, List.setIfInBounds_toArray, List.set_cons_zero, List.set_cons_succ]
                refine wpAnyH_take (i := 23) (oi := { dst := some 69, op := Op.fieldAddr 29 (Operand.tmp 4) 4, type := 0, pos := "laws.go:1140", after := #[{ on := 16, ground := Ground.guard }], guard := some (16, true) }) (v := undef) rfl (by kernel_rfl) (by kernel_rfl) (by kernel_rfl) (fun _ _ _ h => h) (Or.inr ⟨by rfl, rfl⟩) (by assumption) ?_
                try simp only [Act.put, List.setIfInBounds_toArray, List.set_cons_zero, List.set_cons_succ]
                refine wpAnyH_take (i := 24) (oi := { dst := some 70, op := Op.load 23 (Operand.tmp 69), type := 23, pos := "laws.go:1140", after := #[{ on := 23, ground := Ground.data }, { on := 16, ground := Ground.guard }], guard := some (16, true) }) (v := undef) rfl (by kernel_rfl) (by kernel_rfl) (by kernel_rfl) (fun _ _ _ h => h) (Or.inr ⟨by rfl, rfl⟩) (by assumption) ?_
                try simp only [Act.put, List.setIfInBounds_toArray, List.set_cons_zero, List.set_cons_succ]
                refine wpAnyH_take (i := 25) (oi := { dst := some 71, op := Op.move (Operand.tmp 5), type := 3, pos := "laws.go:1140", after := #[{ on := 16, ground := Ground.guard }], guard := some (16, true) }) (v := undef) rfl (by kernel_rfl) (by kernel_rfl) (by kernel_rfl) (fun _ _ _ h => h) (Or.inr ⟨by rfl, rfl⟩) (by assumption) ?_
                try simp only [Act.put, List.setIfInBounds_toArray, List.set_cons_zero, List.set_cons_succ]
                refine wpAnyH_take (i := 26) (oi := { dst := some 72, op := Op.indexAddr 23 (Operand.tmp 70) (Operand.tmp 71), type := 0, pos := "laws.go:1140", after := #[{ on := 24, ground := Ground.data }, { on := 25, ground := Ground.data }, { on := 16, ground := Ground.guard }], guard := some (16, true) }) (v := undef) rfl (by kernel_rfl) (by kernel_rfl) (by kernel_rfl) (fun _ _ _ h => h) (Or.inr ⟨by rfl, rfl⟩) (by assumption) ?_
                try simp only [Act.put, List.setIfInBounds_toArray, List.set_cons_zero, List.set_cons_succ]
                refine wpAnyH_take (i := 27) (oi := { dst := some 73, op := Op.load 9 (Operand.tmp 72), type := 9, pos := "laws.go:1140", after := #[{ on := 26, ground := Ground.data }, { on := 16, ground := Ground.guard }], guard := some (16, true) }) (v := undef) rfl (by kernel_rfl) (by kernel_rfl) (by kernel_rfl) (fun _ _ _ h => h) (Or.inr ⟨by rfl, rfl⟩) (by assumption) ?_
                try simp only [Act.put, List.setIfInBounds_toArray, List.set_cons_zero, List.set_cons_succ]
                refine wpAnyH_take (i := 28) (oi := { dst := some 74, op := Op.binOp BinOp.geq 9 (Operand.tmp 68) (Operand.tmp 73) 9, type := 4, pos := "laws.go:1140", after := #[{ on := 22, ground := Ground.data }, { on := 27, ground := Ground.data }, { on := 16, ground := Ground.guard }], guard := some (16, true) }) (v := undef) rfl (by kernel_rfl) (by kernel_rfl) (by kernel_rfl) (fun _ _ _ h => h) (Or.inr ⟨by rfl, rfl⟩) (by assumption) ?_
                try simp only [Act.put, List.setIfInBounds_toArray, List.set_cons_zero, List.set_cons_succ]
                refine wpAnyH_take (i := 29) (oi := { dst := some 75, op := Op.pick (Operand.tmp 62) (Operand.tmp 74) (Operand.const (Value.bool false)), type := 4, pos := "laws.go:1140", after := #[{ on := 16, ground := Ground.data }, { on := 28, ground := Ground.data }, { on := 13, ground := Ground.guard }], guard := some (13, false) }) (v := ?_) rfl (by kernel_rfl) (by kernel_rfl) (by kernel_rfl) (fun _ _ _ h => h) (Or.inl ⟨by rfl, ?_⟩) (by assumption) ?_
                rotate_left 1
                · (intro w hSw; (try dsimp only at hSw); go_simp)
                  all_goals (try with_reducible rfl)
                try simp only [Act.put, List.setIfInBounds_toArray, List.set_cons_zero, List.set_cons_succ]
                refine wpAnyH_take (i := 30) (oi := { dst := some 76, op := Op.pick (Operand.tmp 59) (Operand.const (Value.bool true)) (Operand.tmp 75), type := 4, pos := "laws.go:1140", after := #[{ on := 13, ground := Ground.data }, { on := 29, ground := Ground.data }], guard := none }) (v := ?_) rfl (by kernel_rfl) (by kernel_rfl) (by kernel_rfl) (fun _ _ _ h => h) (Or.inl ⟨by rfl, ?_⟩) (by assumption) ?_
                rotate_left 1
                · (intro w hSw; (try dsimp only at hSw); go_simp)
                  all_goals (try with_reducible rfl)
                try simp only [Act.put, List.setIfInBounds_toArray, List.set_cons_zero, List.set_cons_succ]
                refine wpAnyH_done (by kernel_rfl) ?_ _
                clear a0 a1 a2 a3 a4 v3 e0 e1 e2 e3 e4
                go_wp2_with fail
                exact ⟨⟨j + 1, by omega, by go_num, HBWN.out.trans (HBG.out.mono HBWN.out.size)⟩, by simp [intOf]; omega⟩
              exact AllReadyH.nil
            exact AllReadyH.nil
          · obtain ⟨jm, hjm⟩ : ∃ jm, j = jm + 1 := ⟨j - 1, by omega⟩
            have hgt : decide ((0 : Int) < (j : Int)) = true := decide_eq_true (by omega)
            have hsub : IntKind.i64.wrap ((j : Int) - 1) = (jm : Int) := by rw [IntKind.wrap_i64]; omega
            have hjmX : jm < X.names.length := by omega
            have hjmXi : (jm : Int) < (X.names.length : Int) := by omega
            have hjm0 : (0 : Int) ≤ (jm : Int) := by omega
            have m1 : WN.cell? ⟨mb, moff + jm, none⟩ = some (.string X.names[jm]) := cell_on HBN.out (HM1.out jm hjmX)
            have m0 : WN.cell? ⟨mb, moff + j, none⟩ = some (.string X.names[j]) := cell_on HBN.out (HM1.out j hltX)
            have hlt2 : bLt X.names[jm] X.names[j] = true := by
              have h := HLT.out jm (by omega)
              subst hjm
              exact h
            have e7 : Op.bytesLess X.names[jm].toList X.names[j].toList = true := by rw [less_bLt]; exact hlt2
            have e9 : Op.bytesLess X.names[j].toList X.names[jm].toList = false := by rw [less_bLt]; exact bLt_asymm hlt2
            have e8 : (X.names[jm].toList == X.names[j].toList) = false := by
              cases hq : X.names[jm].toList == X.names[j].toList
              · rfl
              · have h := text_same hq
                rw [h, bLt_irrefl] at hlt2
                exact absurd hlt2 (by decide)
            have HSI : Hid (∀ W, Hid (Below WN.heap.size WN W) → Calls Try.prog 12 #[.agg #[.int .i64 t.list[j].kind, .int .i64 t.list[j].num, .string t.list[j].text, .slice p t.list[j].list.length n1, .slice p' t.list[j].names.length n1']] W fun e w1 => ∃ (p3 : Option Addr) (n3 : Nat) (p3' : Option Addr) (n3' : Nat), e = .returned (.agg #[.int .i64 Y.kind, .int .i64 Y.num, .string Y.text, .slice p3 Y.list.length n3, .slice p3' Y.names.length n3']) ∧ (((w1.cell? ⟨A, 0, none⟩ = some (.int .i64 Y.kind) ∧ w1.cell? ⟨A, 1, none⟩ = some (.int .i64 Y.num) ∧ w1.cell? ⟨A, 2, none⟩ = some (.string Y.text) ∧ w1.cell? ⟨A, 3, none⟩ = some (.slice p2 Y.list.length n2) ∧ w1.cell? ⟨A, 4, none⟩ = some (.slice p2' Y.names.length n2')) ∧ w1.cell? ⟨V, 3, none⟩ = some (.slice (some ⟨lb, loff, none⟩) t.list.length xc) ∧ w1.cell? ⟨lb, loff + j * 5, none⟩ = some (.int .i64 t.list[j].kind) ∧ w1.cell? ⟨lb, loff + j * 5 + 1, none⟩ = some (.int .i64 t.list[j].num) ∧ w1.cell? ⟨lb, loff + j * 5 + 2, none⟩ = some (.string t.list[j].text) ∧ w1.cell? ⟨lb, loff + j * 5 + 3, none⟩ = some (.slice p t.list[j].list.length n1) ∧ w1.cell? ⟨lb, loff + j * 5 + 4, none⟩ = some (.slice p' t.list[j].names.length n1')) ∧ w1.cell? ⟨bx, 4, none⟩ = some (.slice (some ⟨mb, moff, none⟩) X.names.length xac') ∧ w1.cell? ⟨mb, moff + jm, none⟩ = some (.string X.names[jm]) ∧ w1.cell? ⟨mb, moff + j, none⟩ = some (.string X.names[j])) ∧ Hid (VlR w1 0 19 Y [.int .i64 Y.kind, .int .i64 Y.num, .string Y.text, .slice p3 Y.list.length n3, .slice p3' Y.names.length n3']) ∧ Hid (Below WN.heap.size WN w1)) := fun W hB => keptSI (w0 := WN) (C := fun W => ((W.cell? ⟨A, 0, none⟩ = some (.int .i64 Y.kind) ∧ W.cell? ⟨A, 1, none⟩ = some (.int .i64 Y.num) ∧ W.cell? ⟨A, 2, none⟩ = some (.string Y.text) ∧ W.cell? ⟨A, 3, none⟩ = some (.slice p2 Y.list.length n2) ∧ W.cell? ⟨A, 4, none⟩ = some (.slice p2' Y.names.length n2')) ∧ W.cell? ⟨V, 3, none⟩ = some (.slice (some ⟨lb, loff, none⟩) t.list.length xc) ∧ W.cell? ⟨lb, loff + j * 5, none⟩ = some (.int .i64 t.list[j].kind) ∧ W.cell? ⟨lb, loff + j * 5 + 1, none⟩ = some (.int .i64 t.list[j].num) ∧ W.cell? ⟨lb, loff + j * 5 + 2, none⟩ = some (.string t.list[j].text) ∧ W.cell? ⟨lb, loff + j * 5 + 3, none⟩ = some (.slice p t.list[j].list.length n1) ∧ W.cell? ⟨lb, loff + j * 5 + 4, none⟩ = some (.slice p' t.list[j].names.length n1')) ∧ W.cell? ⟨bx, 4, none⟩ = some (.slice (some ⟨mb, moff, none⟩) X.names.length xac') ∧ W.cell? ⟨mb, moff + jm, none⟩ = some (.string X.names[jm]) ∧ W.cell? ⟨mb, moff + j, none⟩ = some (.string X.names[j])) 17 (by omega) HG2.out (fun W h => ⟨⟨⟨cell_on h a0, cell_on h a1, cell_on h a2, cell_on h a3, cell_on h a4⟩, cell_on h v3, cell_on h e0, cell_on h e1, cell_on h e2, cell_on h e3, cell_on h e4⟩, cell_on h x4, cell_on h m1, cell_on h m0⟩) hB (VlR.keeps (Keeps.of_below (HBN.out.trans (hB.out.mono HBN.out.size)) (Nat.le_refl _) 0) _ _ _ HCJ.out)
            have HPY : Hid (∀ (W : World) (p3 : Option Addr) (n3 : Nat) (p3' : Option Addr) (n3' : Nat), Hid (VlR W 0 19 Y [.int .i64 Y.kind, .int .i64 Y.num, .string Y.text, .slice p3 Y.list.length n3, .slice p3' Y.names.length n3']) → Hid (Below WN.heap.size WN W) → Calls Try.prog 17 #[.agg #[.int .i64 Y.kind, .int .i64 Y.num, .string Y.text, .slice p2 Y.list.length n2, .slice p2' Y.names.length n2'], .agg #[.int .i64 Y.kind, .int .i64 Y.num, .string Y.text, .slice p3 Y.list.length n3, .slice p3' Y.names.length n3']] W fun e w1 => e = .returned (.bool true) ∧ (((w1.cell? ⟨A, 0, none⟩ = some (.int .i64 Y.kind) ∧ w1.cell? ⟨A, 1, none⟩ = some (.int .i64 Y.num) ∧ w1.cell? ⟨A, 2, none⟩ = some (.string Y.text) ∧ w1.cell? ⟨A, 3, none⟩ = some (.slice p2 Y.list.length n2) ∧ w1.cell? ⟨A, 4, none⟩ = some (.slice p2' Y.names.length n2')) ∧ w1.cell? ⟨V, 3, none⟩ = some (.slice (some ⟨lb, loff, none⟩) t.list.length xc) ∧ w1.cell? ⟨lb, loff + j * 5, none⟩ = some (.int .i64 t.list[j].kind) ∧ w1.cell? ⟨lb, loff + j * 5 + 1, none⟩ = some (.int .i64 t.list[j].num) ∧ w1.cell? ⟨lb, loff + j * 5 + 2, none⟩ = some (.string t.list[j].text) ∧ w1.cell? ⟨lb, loff + j * 5 + 3, none⟩ = some (.slice p t.list[j].list.length n1) ∧ w1.cell? ⟨lb, loff + j * 5 + 4, none⟩ = some (.slice p' t.list[j].names.length n1')) ∧ w1.cell? ⟨bx, 4, none⟩ = some (.slice (some ⟨mb, moff, none⟩) X.names.length xac') ∧ w1.cell? ⟨mb, moff + jm, none⟩ = some (.string X.names[jm]) ∧ w1.cell? ⟨mb, moff + j, none⟩ = some (.string X.names[j])) ∧ Hid (Below WN.heap.size WN w1)) := fun W p3 n3 p3' n3' hR hB => keptS (w0 := WN) (C := fun W => ((W.cell? ⟨A, 0, none⟩ = some (.int .i64 Y.kind) ∧ W.cell? ⟨A, 1, none⟩ = some (.int .i64 Y.num) ∧ W.cell? ⟨A, 2, none⟩ = some (.string Y.text) ∧ W.cell? ⟨A, 3, none⟩ = some (.slice p2 Y.list.length n2) ∧ W.cell? ⟨A, 4, none⟩ = some (.slice p2' Y.names.length n2')) ∧ W.cell? ⟨V, 3, none⟩ = some (.slice (some ⟨lb, loff, none⟩) t.list.length xc) ∧ W.cell? ⟨lb, loff + j * 5, none⟩ = some (.int .i64 t.list[j].kind) ∧ W.cell? ⟨lb, loff + j * 5 + 1, none⟩ = some (.int .i64 t.list[j].num) ∧ W.cell? ⟨lb, loff + j * 5 + 2, none⟩ = some (.string t.list[j].text) ∧ W.cell? ⟨lb, loff + j * 5 + 3, none⟩ = some (.slice p t.list[j].list.length n1) ∧ W.cell? ⟨lb, loff + j * 5 + 4, none⟩ = some (.slice p' t.list[j].names.length n1')) ∧ W.cell? ⟨bx, 4, none⟩ = some (.slice (some ⟨mb, moff, none⟩) X.names.length xac') ∧ W.cell? ⟨mb, moff + jm, none⟩ = some (.string X.names[jm]) ∧ W.cell? ⟨mb, moff + j, none⟩ = some (.string X.names[j])) (fun W h => ⟨⟨⟨cell_on h a0, cell_on h a1, cell_on h a2, cell_on h a3, cell_on h a4⟩, cell_on h v3, cell_on h e0, cell_on h e1, cell_on h e2, cell_on h e3, cell_on h e4⟩, cell_on h x4, cell_on h m1, cell_on h m0⟩) hB (pgV_all 19 Y _ _ _ _ W (VlR.keeps (Keeps.of_below hB.out (Nat.le_refl _) 0) _ _ _ HRN.out) hR.out)
            have HJM : Hid (j = jm + 1) := hjm
            clear hlt2 hjm
            go_wp2_with fail
            go_region_held3 (fun w' => ((w'.cell? ⟨A, 0, none⟩ = some (.int .i64 Y.kind) ∧ w'.cell? ⟨A, 1, none⟩ = some (.int .i64 Y.num) ∧ w'.cell? ⟨A, 2, none⟩ = some (.string Y.text) ∧ w'.cell? ⟨A, 3, none⟩ = some (.slice p2 Y.list.length n2) ∧ w'.cell? ⟨A, 4, none⟩ = some (.slice p2' Y.names.length n2')) ∧ w'.cell? ⟨V, 3, none⟩ = some (.slice (some ⟨lb, loff, none⟩) t.list.length xc) ∧ w'.cell? ⟨lb, loff + j * 5, none⟩ = some (.int .i64 t.list[j].kind) ∧ w'.cell? ⟨lb, loff + j * 5 + 1, none⟩ = some (.int .i64 t.list[j].num) ∧ w'.cell? ⟨lb, loff + j * 5 + 2, none⟩ = some (.string t.list[j].text) ∧ w'.cell? ⟨lb, loff + j * 5 + 3, none⟩ = some (.slice p t.list[j].list.length n1) ∧ w'.cell? ⟨lb, loff + j * 5 + 4, none⟩ = some (.slice p' t.list[j].names.length n1')) ∧ w'.cell? ⟨bx, 4, none⟩ = some (.slice (some ⟨mb, moff, none⟩) X.names.length xac') ∧ w'.cell? ⟨mb, moff + jm, none⟩ = some (.string X.names[jm]) ∧ w'.cell? ⟨mb, moff + j, none⟩ = some (.string X.names[j])) (go_keep) (first | (go_at_call 12; refine (Hid.out HSI _ HBd).mono ?_; (try clear a0 a1 a2 a3 a4 v3 e0 e1 e2 e3 e4 x4 m1 m0); rintro e wS ⟨p3, n3, p3', n3', rfl, ⟨⟨⟨a0, a1, a2, a3, a4⟩, v3, e0, e1, e2, e3, e4⟩, x4, m1, m0⟩, HRS, HBS⟩) | (go_at_call 17; refine (Hid.out HPY _ _ _ _ _ HRS HBS).mono ?_; (try clear a0 a1 a2 a3 a4 v3 e0 e1 e2 e3 e4 x4 m1 m0); rintro e wG ⟨rfl, ⟨⟨⟨a0, a1, a2, a3, a4⟩, v3, e0, e1, e2, e3, e4⟩, x4, m1, m0⟩, HBG⟩))
            clear a0 a1 a2 a3 a4 v3 e0 e1 e2 e3 e4 x4 m1 m0
            go_wp2_with fail
            exact ⟨⟨j + 1, by omega, by go_num, HBWN.out.trans (HBG.out.mono HBWN.out.size)⟩, by simp [intOf]; omega⟩
        · obtain ⟨WN, hWN⟩ : ∃ WN, WN = wT.alloc (Obj.cells #[.int .i64 Y.kind, .int .i64 Y.num, .string Y.text, .slice p2 Y.list.length n2, .slice p2' Y.names.length n2'] 29) := ⟨_, rfl⟩
          rw [← hWN]
          have HBN : Hid (Below wr.heap.size wr WN) := by rw [hWN]; exact HBT.out.alloc HBT.out.size _
          have HAN : Hid (WN.cell? ⟨wT.heap.size, 0, none⟩ = some (.int .i64 Y.kind) ∧ WN.cell? ⟨wT.heap.size, 1, none⟩ = some (.int .i64 Y.num) ∧ WN.cell? ⟨wT.heap.size, 2, none⟩ = some (.string Y.text) ∧ WN.cell? ⟨wT.heap.size, 3, none⟩ = some (.slice p2 Y.list.length n2) ∧ WN.cell? ⟨wT.heap.size, 4, none⟩ = some (.slice p2' Y.names.length n2')) := by rw [hWN]; exact five_ofV (Owns.made _ _ _).cell
          have HRN : Hid (VlR WN 0 19 Y [.int .i64 Y.kind, .int .i64 Y.num, .string Y.text, .slice p2 Y.list.length n2, .slice p2' Y.names.length n2']) := by rw [hWN]; exact VlR.base (Nat.zero_le _) _ _ _ (VlR.keeps ((Keeps.refl _ _).alloc _) _ _ _ HRT.out)
          clear hWN HBT HBT2 HRT x0 x1 x2 x3 x4 v4 n0
          obtain ⟨A, hA⟩ : ∃ A, wT.heap.size = A := ⟨_, rfl⟩
          rw [hA] at HAN ⊢
          clear hA
          have HBWN : Hid (Below W3.heap.size W3 WN) := HBr.out.trans (HBN.out.mono HBr.out.size)
          obtain ⟨⟨_, _, _, v3, _⟩, ⟨_, _, _, _, x4⟩⟩ := HCELLS.out WN HBWN.out
          obtain ⟨a0, a1, a2, a3, a4⟩ := HAN.out
          replace e0 := cell_on HBN.out e0
          replace e1 := cell_on HBN.out e1
          replace e2 := cell_on HBN.out e2
          replace e3 := cell_on HBN.out e3
          replace e4 := cell_on HBN.out e4
          have HBd : Hid (Below WN.heap.size WN WN.drew) := (Below.refl _ WN).drew
          rcases Nat.eq_zero_or_pos j with hj0 | hj0
          · have hgt : decide ((0 : Int) < (j : Int)) = false := decide_eq_false (by omega)
            have hgt' : decide (0 < j) = false := decide_eq_false (by omega)
            have HSI : Hid (∀ W, Hid (Below WN.heap.size WN W) → Calls Try.prog 12 #[.agg #[.int .i64 t.list[j].kind, .int .i64 t.list[j].num, .string t.list[j].text, .slice p t.list[j].list.length n1, .slice p' t.list[j].names.length n1']] W fun e w1 => ∃ (p3 : Option Addr) (n3 : Nat) (p3' : Option Addr) (n3' : Nat), e = .returned (.agg #[.int .i64 Y.kind, .int .i64 Y.num, .string Y.text, .slice p3 Y.list.length n3, .slice p3' Y.names.length n3']) ∧ ((w1.cell? ⟨A, 0, none⟩ = some (.int .i64 Y.kind) ∧ w1.cell? ⟨A, 1, none⟩ = some (.int .i64 Y.num) ∧ w1.cell? ⟨A, 2, none⟩ = some (.string Y.text) ∧ w1.cell? ⟨A, 3, none⟩ = some (.slice p2 Y.list.length n2) ∧ w1.cell? ⟨A, 4, none⟩ = some (.slice p2' Y.names.length n2')) ∧ w1.cell? ⟨V, 3, none⟩ = some (.slice (some ⟨lb, loff, none⟩) t.list.length xc) ∧ w1.cell? ⟨lb, loff + j * 5, none⟩ = some (.int .i64 t.list[j].kind) ∧ w1.cell? ⟨lb, loff + j * 5 + 1, none⟩ = some (.int .i64 t.list[j].num) ∧ w1.cell? ⟨lb, loff + j * 5 + 2, none⟩ = some (.string t.list[j].text) ∧ w1.cell? ⟨lb, loff + j * 5 + 3, none⟩ = some (.slice p t.list[j].list.length n1) ∧ w1.cell? ⟨lb, loff + j * 5 + 4, none⟩ = some (.slice p' t.list[j].names.length n1')) ∧ Hid (VlR w1 0 19 Y [.int .i64 Y.kind, .int .i64 Y.num, .string Y.text, .slice p3 Y.list.length n3, .slice p3' Y.names.length n3']) ∧ Hid (Below WN.heap.size WN w1)) := fun W hB => keptSI (w0 := WN) (C := fun W => (W.cell? ⟨A, 0, none⟩ = some (.int .i64 Y.kind) ∧ W.cell? ⟨A, 1, none⟩ = some (.int .i64 Y.num) ∧ W.cell? ⟨A, 2, none⟩ = some (.string Y.text) ∧ W.cell? ⟨A, 3, none⟩ = some (.slice p2 Y.list.length n2) ∧ W.cell? ⟨A, 4, none⟩ = some (.slice p2' Y.names.length n2')) ∧ W.cell? ⟨V, 3, none⟩ = some (.slice (some ⟨lb, loff, none⟩) t.list.length xc) ∧ W.cell? ⟨lb, loff + j * 5, none⟩ = some (.int .i64 t.list[j].kind) ∧ W.cell? ⟨lb, loff + j * 5 + 1, none⟩ = some (.int .i64 t.list[j].num) ∧ W.cell? ⟨lb, loff + j * 5 + 2, none⟩ = some (.string t.list[j].text) ∧ W.cell? ⟨lb, loff + j * 5 + 3, none⟩ = some (.slice p t.list[j].list.length n1) ∧ W.cell? ⟨lb, loff + j * 5 + 4, none⟩ = some (.slice p' t.list[j].names.length n1')) 17 (by omega) HG2.out (fun W h => ⟨⟨cell_on h a0, cell_on h a1, cell_on h a2, cell_on h a3, cell_on h a4⟩, cell_on h v3, cell_on h e0, cell_on h e1, cell_on h e2, cell_on h e3, cell_on h e4⟩) hB (VlR.keeps (Keeps.of_below (HBN.out.trans (hB.out.mono HBN.out.size)) (Nat.le_refl _) 0) _ _ _ HCJ.out)
            have HPY : Hid (∀ (W : World) (p3 : Option Addr) (n3 : Nat) (p3' : Option Addr) (n3' : Nat), Hid (VlR W 0 19 Y [.int .i64 Y.kind, .int .i64 Y.num, .string Y.text, .slice p3 Y.list.length n3, .slice p3' Y.names.length n3']) → Hid (Below WN.heap.size WN W) → Calls Try.prog 17 #[.agg #[.int .i64 Y.kind, .int .i64 Y.num, .string Y.text, .slice p2 Y.list.length n2, .slice p2' Y.names.length n2'], .agg #[.int .i64 Y.kind, .int .i64 Y.num, .string Y.text, .slice p3 Y.list.length n3, .slice p3' Y.names.length n3']] W fun e w1 => e = .returned (.bool true) ∧ ((w1.cell? ⟨A, 0, none⟩ = some (.int .i64 Y.kind) ∧ w1.cell? ⟨A, 1, none⟩ = some (.int .i64 Y.num) ∧ w1.cell? ⟨A, 2, none⟩ = some (.string Y.text) ∧ w1.cell? ⟨A, 3, none⟩ = some (.slice p2 Y.list.length n2) ∧ w1.cell? ⟨A, 4, none⟩ = some (.slice p2' Y.names.length n2')) ∧ w1.cell? ⟨V, 3, none⟩ = some (.slice (some ⟨lb, loff, none⟩) t.list.length xc) ∧ w1.cell? ⟨lb, loff + j * 5, none⟩ = some (.int .i64 t.list[j].kind) ∧ w1.cell? ⟨lb, loff + j * 5 + 1, none⟩ = some (.int .i64 t.list[j].num) ∧ w1.cell? ⟨lb, loff + j * 5 + 2, none⟩ = some (.string t.list[j].text) ∧ w1.cell? ⟨lb, loff + j * 5 + 3, none⟩ = some (.slice p t.list[j].list.length n1) ∧ w1.cell? ⟨lb, loff + j * 5 + 4, none⟩ = some (.slice p' t.list[j].names.length n1')) ∧ Hid (Below WN.heap.size WN w1)) := fun W p3 n3 p3' n3' hR hB => keptS (w0 := WN) (C := fun W => (W.cell? ⟨A, 0, none⟩ = some (.int .i64 Y.kind) ∧ W.cell? ⟨A, 1, none⟩ = some (.int .i64 Y.num) ∧ W.cell? ⟨A, 2, none⟩ = some (.string Y.text) ∧ W.cell? ⟨A, 3, none⟩ = some (.slice p2 Y.list.length n2) ∧ W.cell? ⟨A, 4, none⟩ = some (.slice p2' Y.names.length n2')) ∧ W.cell? ⟨V, 3, none⟩ = some (.slice (some ⟨lb, loff, none⟩) t.list.length xc) ∧ W.cell? ⟨lb, loff + j * 5, none⟩ = some (.int .i64 t.list[j].kind) ∧ W.cell? ⟨lb, loff + j * 5 + 1, none⟩ = some (.int .i64 t.list[j].num) ∧ W.cell? ⟨lb, loff + j * 5 + 2, none⟩ = some (.string t.list[j].text) ∧ W.cell? ⟨lb, loff + j * 5 + 3, none⟩ = some (.slice p t.list[j].list.length n1) ∧ W.cell? ⟨lb, loff + j * 5 + 4, none⟩ = some (.slice p' t.list[j].names.length n1')) (fun W h => ⟨⟨cell_on h a0, cell_on h a1, cell_on h a2, cell_on h a3, cell_on h a4⟩, cell_on h v3, cell_on h e0, cell_on h e1, cell_on h e2, cell_on h e3, cell_on h e4⟩) hB (pgV_all 19 Y _ _ _ _ W (VlR.keeps (Keeps.of_below hB.out (Nat.le_refl _) 0) _ _ _ HRN.out) hR.out)
            clear x4 hj0
            go_wp2_with fail
            refine wp_region_held_drew (S := fun w' => (w'.cell? ⟨A, 0, none⟩ = some (.int .i64 Y.kind) ∧ w'.cell? ⟨A, 1, none⟩ = some (.int .i64 Y.num) ∧ w'.cell? ⟨A, 2, none⟩ = some (.string Y.text) ∧ w'.cell? ⟨A, 3, none⟩ = some (.slice p2 Y.list.length n2) ∧ w'.cell? ⟨A, 4, none⟩ = some (.slice p2' Y.names.length n2')) ∧ w'.cell? ⟨V, 3, none⟩ = some (.slice (some ⟨lb, loff, none⟩) t.list.length xc) ∧ w'.cell? ⟨lb, loff + j * 5, none⟩ = some (.int .i64 t.list[j].kind) ∧ w'.cell? ⟨lb, loff + j * 5 + 1, none⟩ = some (.int .i64 t.list[j].num) ∧ w'.cell? ⟨lb, loff + j * 5 + 2, none⟩ = some (.string t.list[j].text) ∧ w'.cell? ⟨lb, loff + j * 5 + 3, none⟩ = some (.slice p t.list[j].list.length n1) ∧ w'.cell? ⟨lb, loff + j * 5 + 4, none⟩ = some (.slice p' t.list[j].names.length n1')) (by kernel_rfl) ?_ (fun hHeld => ?_)
            · try dsimp only
              go_keep
            refine wpAnyH_take (i := 0) (oi := { dst := some 46, op := Op.move (Operand.tmp 7), type := 4, pos := "laws.go:1140", after := #[], guard := none }) (v := ?_) rfl (by kernel_rfl) (by kernel_rfl) (by kernel_rfl) (fun _ _ _ h => h) (Or.inl ⟨by rfl, ?_⟩) (by assumption) ?_
            rotate_left 1
            · (intro w hSw; (try dsimp only at hSw); go_simp)
              all_goals (try with_reducible rfl)
            try simp only [Act.put, List.setIfInBounds_toArray, List.set_cons_zero, List.set_cons_succ]
            refine wpAnyH_take (i := 1) (oi := { dst := some 47, op := Op.unOp UnOp.not 4 (Operand.tmp 46), type := 4, pos := "laws.go:1140", after := #[{ on := 0, ground := Ground.data }], guard := none }) (v := ?_) rfl (by kernel_rfl) (by kernel_rfl) (by kernel_rfl) (fun _ _ _ h => h) (Or.inl ⟨by rfl, ?_⟩) (by assumption) ?_
            rotate_left 1
            · (intro w hSw; (try dsimp only at hSw); go_simp)
              all_goals (try with_reducible rfl)
            try simp only [Act.put, List.setIfInBounds_toArray, List.set_cons_zero, List.set_cons_succ]
            refine wpAnyH_take (i := 2) (oi := { dst := some 48, op := Op.move (Operand.tmp 47), type := 4, pos := "laws.go:1140", after := #[{ on := 1, ground := Ground.data }], guard := none }) (v := ?_) rfl (by kernel_rfl) (by kernel_rfl) (by kernel_rfl) (fun _ _ _ h => h) (Or.inl ⟨by rfl, ?_⟩) (by assumption) ?_
            rotate_left 1
            · (intro w hSw; (try dsimp only at hSw); go_simp)
              all_goals (try with_reducible rfl)
            try simp only [Act.put, List.setIfInBounds_toArray, List.set_cons_zero, List.set_cons_succ]
            refine wpAnyH_take (i := 3) (oi := { dst := some 49, op := Op.load 29 (Operand.tmp 6), type := 29, pos := "laws.go:1140", after := #[{ on := 2, ground := Ground.guard }], guard := some (2, false) }) (v := ?_) rfl (by kernel_rfl) (by kernel_rfl) (by kernel_rfl) (fun _ _ _ h => h) (Or.inl ⟨by rfl, ?_⟩) (by assumption) ?_
            rotate_left 1
            · (intro w hSw; (try dsimp only at hSw); go_simp)
              all_goals (try with_reducible rfl)
            try simp only [Act.put, List.setIfInBounds_toArray, List.set_cons_zero, List.set_cons_succ]
            refine wpAnyH_take (i := 4) (oi := { dst := some 50, op := Op.fieldAddr 29 (Operand.tmp 3) 3, type := 0, pos := "laws.go:1140", after := #[{ on := 2, ground := Ground.guard }], guard := some (2, false) }) (v := ?_) rfl (by kernel_rfl) (by kernel_rfl) (by kernel_rfl) (fun _ _ _ h => h) (Or.inl ⟨by rfl, ?_⟩) (by assumption) ?_
            rotate_left 1
            · (intro w hSw; (try dsimp only at hSw); go_simp)
              all_goals (try with_reducible rfl)
            try simp only [Act.put, List.setIfInBounds_toArray, List.set_cons_zero, List.set_cons_succ]
            refine wpAnyH_take (i := 5) (oi := { dst := some 51, op := Op.load 27 (Operand.tmp 50), type := 27, pos := "laws.go:1140", after := #[{ on := 4, ground := Ground.data }, { on := 2, ground := Ground.guard }], guard := some (2, false) }) (v := ?_) rfl (by kernel_rfl) (by kernel_rfl) (by kernel_rfl) (fun _ _ _ h => h) (Or.inl ⟨by rfl, ?_⟩) (by assumption) ?_
            rotate_left 1
            · (intro w hSw; (try dsimp only at hSw); go_simp)
              all_goals (try with_reducible rfl)
            try simp only [Act.put, List.setIfInBounds_toArray, List.set_cons_zero, List.set_cons_succ]
            refine wpAnyH_take (i := 6) (oi := { dst := some 52, op := Op.move (Operand.tmp 5), type := 3, pos := "laws.go:1140", after := #[{ on := 2, ground := Ground.guard }], guard := some (2, false) }) (v := ?_) rfl (by kernel_rfl) (by kernel_rfl) (by kernel_rfl) (fun _ _ _ h => h) (Or.inl ⟨by rfl, ?_⟩) (by assumption) ?_
            rotate_left 1
            · (intro w hSw; (try dsimp only at hSw); go_simp)
              all_goals (try with_reducible rfl)
            try simp only [Act.put, List.setIfInBounds_toArray, List.set_cons_zero, List.set_cons_succ]
            refine wpAnyH_take (i := 7) (oi := { dst := some 53, op := Op.indexAddr 27 (Operand.tmp 51) (Operand.tmp 52), type := 0, pos := "laws.go:1140", after := #[{ on := 5, ground := Ground.data }, { on := 6, ground := Ground.data }, { on := 2, ground := Ground.guard }], guard := some (2, false) }) (v := ?_) rfl (by kernel_rfl) (by kernel_rfl) (by kernel_rfl) (fun _ _ _ h => h) (Or.inl ⟨by rfl, ?_⟩) (by assumption) ?_
            rotate_left 1
            · (intro w hSw; (try dsimp only at hSw); go_simp)
              all_goals (try with_reducible rfl)
            try simp only [Act.put, List.setIfInBounds_toArray, List.set_cons_zero, List.set_cons_succ]
            refine wpAnyH_take (i := 8) (oi := { dst := some 54, op := Op.load 29 (Operand.tmp 53), type := 29, pos := "laws.go:1140", after := #[{ on := 7, ground := Ground.data }, { on := 2, ground := Ground.guard }], guard := some (2, false) }) (v := ?_) rfl (by kernel_rfl) (by kernel_rfl) (by kernel_rfl) (fun _ _ _ h => h) (Or.inl ⟨by rfl, ?_⟩) (by assumption) ?_
            rotate_left 1
            · (intro w hSw; (try dsimp only at hSw); go_simp)
              all_goals (try with_reducible rfl)
            try simp only [Act.put, List.setIfInBounds_toArray, List.set_cons_zero, List.set_cons_succ]
            refine wpAnyH_ready (rs := [9]) (by kernel_rfl) (by simp) ?_
            refine AllReadyH.cons (o := { dst := some 55, op := Op.call { callee := Callee.value (Operand.func 12), args := #[Operand.tmp 54], argTypes := #[29] }, type := 29, pos := "laws.go:1140", after := #[{ on := 8, ground := Ground.data }, { on := 2, ground := Ground.chain }, { on := 2, ground := Ground.guard }], guard := some (2, false) }) rfl (fun K hK => ?_) ?_
            · go_simp
              (go_at_call 12; refine (Hid.out HSI _ HBd).mono ?_; (try clear a0 a1 a2 a3 a4 v3 e0 e1 e2 e3 e4); rintro e wS ⟨p3, n3, p3', n3', rfl, ⟨⟨a0, a1, a2, a3, a4⟩, v3, e0, e1, e2, e3, e4⟩, HRS, HBS⟩)
              refine hK.out _ _ ?_ (fun hHeld0 => ?_)
              · try dsimp only
                go_keep
              clear hK K hHeld
              try simp only [Act.put, List.setIfInBounds_toArray, List.set_cons_zero, List.set_cons_succ]
              refine wpAnyH_ready (rs := [10]) (by kernel_rfl) (by simp) ?_
              refine AllReadyH.cons (o := { dst := some 56, op := Op.call { callee := Callee.value (Operand.func 17), args := #[Operand.tmp 49, Operand.tmp 55], argTypes := #[29, 29] }, type := 4, pos := "laws.go:1140", after := #[{ on := 3, ground := Ground.data }, { on := 9, ground := Ground.data }, { on := 9, ground := Ground.chain }, { on := 2, ground := Ground.guard }], guard := some (2, false) }) rfl (fun K hK => ?_) ?_
              · go_simp
                (go_at_call 17; refine (Hid.out HPY _ _ _ _ _ HRS HBS).mono ?_; (try clear a0 a1 a2 a3 a4 v3 e0 e1 e2 e3 e4); rintro e wG ⟨rfl, ⟨⟨a0, a1, a2, a3, a4⟩, v3, e0, e1, e2, e3, e4⟩, HBG⟩)
                refine hK.out _ _ ?_ (fun hHeld1 => ?_)
                · try dsimp only
                  go_keep
                clear hK K hHeld0
                try simp only [Act.put, List.setIfInBounds_toArray, List.set_cons_zero, List.set_cons_succ]
                refine wpAnyH_take (i := 11) (oi := { dst := some 57, op := Op.unOp UnOp.not 4 (Operand.tmp 56), type := 4, pos := "laws.go:1140", after := #[{ on := 10, ground := Ground.data }, { on := 2, ground := Ground.guard }], guard := some (2, false) }) (v := ?_) rfl (by kernel_rfl) (by kernel_rfl) (by kernel_rfl) (fun _ _ _ h => h) (Or.inl ⟨by rfl, ?_⟩) (by assumption) ?_
                rotate_left 1
                · (intro w hSw; (try dsimp only at hSw); go_simp)
                  all_goals (try with_reducible rfl)
                try simp only [Act.put, List.setIfInBounds_toArray, List.set_cons_zero, List.set_cons_succ]
                refine wpAnyH_take (i := 12) (oi := { dst := some 58, op := Op.pick (Operand.tmp 48) (Operand.const (Value.bool true)) (Operand.tmp 57), type := 4, pos := "laws.go:1140", after := #[{ on := 2, ground := Ground.data }, { on := 11, ground := Ground.data }], guard := none }) (v := ?_) rfl (by kernel_rfl) (by kernel_rfl) (by kernel_rfl) (fun _ _ _ h => h) (Or.inl ⟨by rfl, ?_⟩) (by assumption) ?_
                rotate_left 1
                · (intro w hSw; (try dsimp only at hSw); go_simp)
                  all_goals (try with_reducible rfl)
                try simp only [Act.put, List.setIfInBounds_toArray, List.set_cons_zero, List.set_cons_succ]
                refine wpAnyH_take (i := 13) (oi := { dst := some 59, op := Op.move (Operand.tmp 58), type := 4, pos := "laws.go:1140", after := #[{ on := 12, ground := Ground.data }, { on := 10, ground := Ground.chain }], guard := none }) (v := ?_) rfl (by kernel_rfl) (by kernel_rfl) (by kernel_rfl) (fun _ _ _ h => h) (Or.inl ⟨by rfl, ?_⟩) (by assumption) ?_
                rotate_left 1
                · (intro w hSw; (try dsimp only at hSw); go_simp)
                  all_goals (try with_reducible rfl)
                try simp only [Act.put, List.setIfInBounds_toArray, List.set_cons_zero, List.set_cons_succ]
                refine wpAnyH_take (i := 14) (oi := { dst := some 60, op := Op.move (Operand.tmp 5), type := 3, pos := "laws.go:1140", after := #[{ on := 13, ground := Ground.guard }], guard := some (13, false) }) (v := ?_) rfl (by kernel_rfl) (by kernel_rfl) (by kernel_rfl) (fun _ _ _ h => h) (Or.inl ⟨by rfl, ?_⟩) (by assumption) ?_
                rotate_left 1
                · (intro w hSw; (try dsimp only at hSw); go_simp)
                  all_goals (try with_reducible rfl)
                try simp only [Act.put, List.setIfInBounds_toArray, List.set_cons_zero, List.set_cons_succ]
                refine wpAnyH_take (i := 15) (oi := { dst := some 61, op := Op.binOp BinOp.gtr 3 (Operand.tmp 60) (Operand.const (Value.int IntKind.i64 0)) 3, type := 4, pos := "laws.go:1140", after := #[{ on := 14, ground := Ground.data }, { on := 13, ground := Ground.guard }], guard := some (13, false) }) (v := ?_) rfl (by kernel_rfl) (by kernel_rfl) (by kernel_rfl) (fun _ _ _ h => h) (Or.inl ⟨by rfl, ?_⟩) (by assumption) ?_
                rotate_left 1
                · (intro w hSw; (try dsimp only at hSw); go_simp)
                  all_goals (try with_reducible rfl)
                try simp only [Act.put, List.setIfInBounds_toArray, List.set_cons_zero, List.set_cons_succ]
                refine wpAnyH_take (i := 16) (oi := { dst := some 62, op := Op.move (Operand.tmp 61), type := 4, pos := "laws.go:1140", after := #[{ on := 15, ground := Ground.data }, { on := 13, ground := Ground.chain }, { on := 13, ground := Ground.guard }], guard := some (13, false) }) (v := ?_) rfl (by kernel_rfl) (by kernel_rfl) (by kernel_rfl) (fun _ _ _ h => h) (Or.inl ⟨by rfl, ?_⟩) (by assumption) ?_
                rotate_left 1
                · (intro w hSw; (try dsimp only at hSw); go_simp)
                  all_goals (try with_reducible rfl)
                try simp only [Act.put, List.setIfInBounds_toArray, List.set_cons_zero, List.set_cons_succ]
                refine wpAnyH_take (i := 17) (oi := { dst := some 63, op := Op.fieldAddr 29 (Operand.tmp 4) 4, type := 0, pos := "laws.go:1140", after := #[{ on := 16, ground := Ground.guard }], guard := some (16, true) }) (v := undef) rfl (by kernel_rfl) (by kernel_rfl) (by kernel_rfl) (fun _ _ _ h => h) (Or.inr ⟨by rfl, rfl⟩) (by assumption) ?_
                try simp only [Act.put, List.setIfInBounds_toArray, List.set_cons_zero, List.set_cons_succ]
                refine wpAnyH_take (i := 18) (oi := { dst := some 64, op := Op.load 23 (Operand.tmp 63), type := 23, pos := "laws.go:1140", after := #[{ on := 17, ground := Ground.data }, { on := 16, ground := Ground.guard }], guard := some (16, true) }) (v := undef) rfl (by kernel_rfl) (by kernel_rfl) (by kernel_rfl) (fun _ _ _ h => h) (Or.inr ⟨by rfl, rfl⟩) (by assumption) ?_
                try simp only [Act.put, List.setIfInBounds_toArray, List.set_cons_zero, List.set_cons_succ]
                refine wpAnyH_take (i := 19) (oi := { dst := some 65, op := Op.move (Operand.tmp 5), type := 3, pos := "laws.go:1140", after := #[{ on := 16, ground := Ground.guard }], guard := some (16, true) }) (v := undef) rfl (by kernel_rfl) (by kernel_rfl) (by kernel_rfl) (fun _ _ _ h => h) (Or.inr ⟨by rfl, rfl⟩) (by assumption) ?_
                try simp only [Act.put, List.setIfInBounds_toArray, List.set_cons_zero, List.set_cons_succ]
                refine wpAnyH_take (i := 20) (oi := { dst := some 66, op := Op.binOp BinOp.sub 3 (Operand.tmp 65) (Operand.const (Value.int IntKind.i64 1)) 3, type := 3, pos := "laws.go:1140", after := #[{ on := 19, ground := Ground.data }, { on := 16, ground := Ground.guard }], guard := some (16, true) }) (v := undef) rfl (by kernel_rfl) (by kernel_rfl) (by kernel_rfl) (fun _ _ _ h => h) (Or.inr ⟨by rfl, rfl⟩) (by assumption) ?_
                try simp only [Act.put, List.setIfInBounds_toArray, List.set_cons_zero, List.set_cons_succ]
                refine wpAnyH_take (i := 21) (oi := { dst := some 67, op := Op.indexAddr 23 (Operand.tmp 64) (Operand.tmp 66), type := 0, pos := "laws.go:1140", after := #[{ on := 18, ground := Ground.data }, { on := 20, ground := Ground.data }, { on := 16, ground := Ground.guard }], guard := some (16, true) }) (v := undef) rfl (by kernel_rfl) (by kernel_rfl) (by kernel_rfl) (fun _ _ _ h => h) (Or.inr ⟨by rfl, rfl⟩) (by assumption) ?_
                try simp only [Act.put, List.setIfInBounds_toArray, List.set_cons_zero, List.set_cons_succ]
                refine wpAnyH_take (i := 22) (oi := { dst := some 68, op := Op.load 9 (Operand.tmp 67), type := 9, pos := "laws.go:1140", after := #[{ on := 21, ground := Ground.data }, { on := 16, ground := Ground.guard }], guard := some (16, true) }) (v := undef) rfl (by kernel_rfl) (by kernel_rfl) (by kernel_rfl) (fun _ _ _ h => h) (Or.inr ⟨by rfl, rfl⟩) (by assumption) ?_
                try simp only [Act.put, List.setIfInBounds_toArray, List.set_cons_zero, List.set_cons_succ]
                refine wpAnyH_take (i := 23) (oi := { dst := some 69, op := Op.fieldAddr 29 (Operand.tmp 4) 4, type := 0, pos := "laws.go:1140", after := #[{ on := 16, ground := Ground.guard }], guard := some (16, true) }) (v := undef) rfl (by kernel_rfl) (by kernel_rfl) (by kernel_rfl) (fun _ _ _ h => h) (Or.inr ⟨by rfl, rfl⟩) (by assumption) ?_
                try simp only [Act.put, List.setIfInBounds_toArray, List.set_cons_zero, List.set_cons_succ]
                refine wpAnyH_take (i := 24) (oi := { dst := some 70, op := Op.load 23 (Operand.tmp 69), type := 23, pos := "laws.go:1140", after := #[{ on := 23, ground := Ground.data }, { on := 16, ground := Ground.guard }], guard := some (16, true) }) (v := undef) rfl (by kernel_rfl) (by kernel_rfl) (by kernel_rfl) (fun _ _ _ h => h) (Or.inr ⟨by rfl, rfl⟩) (by assumption) ?_
                try simp only [Act.put, List.setIfInBounds_toArray, List.set_cons_zero, List.set_cons_succ]
                refine wpAnyH_take (i := 25) (oi := { dst := some 71, op := Op.move (Operand.tmp 5), type := 3, pos := "laws.go:1140", after := #[{ on := 16, ground := Ground.guard }], guard := some (16, true) }) (v := undef) rfl (by kernel_rfl) (by kernel_rfl) (by kernel_rfl) (fun _ _ _ h => h) (Or.inr ⟨by rfl, rfl⟩) (by assumption) ?_
                try simp only [Act.put, List.setIfInBounds_toArray, List.set_cons_zero, List.set_cons_succ]
                refine wpAnyH_take (i := 26) (oi := { dst := some 72, op := Op.indexAddr 23 (Operand.tmp 70) (Operand.tmp 71), type := 0, pos := "laws.go:1140", after := #[{ on := 24, ground := Ground.data }, { on := 25, ground := Ground.data }, { on := 16, ground := Ground.guard }], guard := some (16, true) }) (v := undef) rfl (by kernel_rfl) (by kernel_rfl) (by kernel_rfl) (fun _ _ _ h => h) (Or.inr ⟨by rfl, rfl⟩) (by assumption) ?_
                try simp only [Act.put, List.setIfInBounds_toArray, List.set_cons_zero, List.set_cons_succ]
                refine wpAnyH_take (i := 27) (oi := { dst := some 73, op := Op.load 9 (Operand.tmp 72), type := 9, pos := "laws.go:1140", after := #[{ on := 26, ground := Ground.data }, { on := 16, ground := Ground.guard }], guard := some (16, true) }) (v := undef) rfl (by kernel_rfl) (by kernel_rfl) (by kernel_rfl) (fun _ _ _ h => h) (Or.inr ⟨by rfl, rfl⟩) (by assumption) ?_
                try simp only [Act.put, List.setIfInBounds_toArray, List.set_cons_zero, List.set_cons_succ]
                refine wpAnyH_take (i := 28) (oi := { dst := some 74, op := Op.binOp BinOp.geq 9 (Operand.tmp 68) (Operand.tmp 73) 9, type := 4, pos := "laws.go:1140", after := #[{ on := 22, ground := Ground.data }, { on := 27, ground := Ground.data }, { on := 16, ground := Ground.guard }], guard := some (16, true) }) (v := undef) rfl (by kernel_rfl) (by kernel_rfl) (by kernel_rfl) (fun _ _ _ h => h) (Or.inr ⟨by rfl, rfl⟩) (by assumption) ?_
                try simp only [Act.put, List.setIfInBounds_toArray, List.set_cons_zero, List.set_cons_succ]
                refine wpAnyH_take (i := 29) (oi := { dst := some 75, op := Op.pick (Operand.tmp 62) (Operand.tmp 74) (Operand.const (Value.bool false)), type := 4, pos := "laws.go:1140", after := #[{ on := 16, ground := Ground.data }, { on := 28, ground := Ground.data }, { on := 13, ground := Ground.guard }], guard := some (13, false) }) (v := ?_) rfl (by kernel_rfl) (by kernel_rfl) (by kernel_rfl) (fun _ _ _ h => h) (Or.inl ⟨by rfl, ?_⟩) (by assumption) ?_
                rotate_left 1
                · (intro w hSw; (try dsimp only at hSw); go_simp)
                  all_goals (try with_reducible rfl)
                try simp only [Act.put, List.setIfInBounds_toArray, List.set_cons_zero, List.set_cons_succ]
                refine wpAnyH_take (i := 30) (oi := { dst := some 76, op := Op.pick (Operand.tmp 59) (Operand.const (Value.bool true)) (Operand.tmp 75), type := 4, pos := "laws.go:1140", after := #[{ on := 13, ground := Ground.data }, { on := 29, ground := Ground.data }], guard := none }) (v := ?_) rfl (by kernel_rfl) (by kernel_rfl) (by kernel_rfl) (fun _ _ _ h => h) (Or.inl ⟨by rfl, ?_⟩) (by assumption) ?_
                rotate_left 1
                · (intro w hSw; (try dsimp only at hSw); go_simp)
                  all_goals (try with_reducible rfl)
                try simp only [Act.put, List.setIfInBounds_toArray, List.set_cons_zero, List.set_cons_succ]
                refine wpAnyH_done (by kernel_rfl) ?_ _
                clear a0 a1 a2 a3 a4 v3 e0 e1 e2 e3 e4
                go_wp2_with fail
                exact ⟨⟨j + 1, by omega, by go_num, HBWN.out.trans (HBG.out.mono HBWN.out.size)⟩, by simp [intOf]; omega⟩
              exact AllReadyH.nil
            exact AllReadyH.nil
          · obtain ⟨jm, hjm⟩ : ∃ jm, j = jm + 1 := ⟨j - 1, by omega⟩
            have hgt : decide ((0 : Int) < (j : Int)) = true := decide_eq_true (by omega)
            have hsub : IntKind.i64.wrap ((j : Int) - 1) = (jm : Int) := by rw [IntKind.wrap_i64]; omega
            have hjmX : jm < X.names.length := by omega
            have hjmXi : (jm : Int) < (X.names.length : Int) := by omega
            have hjm0 : (0 : Int) ≤ (jm : Int) := by omega
            have m1 : WN.cell? ⟨mb, moff + jm, none⟩ = some (.string X.names[jm]) := cell_on HBN.out (HM1.out jm hjmX)
            have m0 : WN.cell? ⟨mb, moff + j, none⟩ = some (.string X.names[j]) := cell_on HBN.out (HM1.out j hltX)
            have hlt2 : bLt X.names[jm] X.names[j] = true := by
              have h := HLT.out jm (by omega)
              subst hjm
              exact h
            have e7 : Op.bytesLess X.names[jm].toList X.names[j].toList = true := by rw [less_bLt]; exact hlt2
            have e9 : Op.bytesLess X.names[j].toList X.names[jm].toList = false := by rw [less_bLt]; exact bLt_asymm hlt2
            have e8 : (X.names[jm].toList == X.names[j].toList) = false := by
              cases hq : X.names[jm].toList == X.names[j].toList
              · rfl
              · have h := text_same hq
                rw [h, bLt_irrefl] at hlt2
                exact absurd hlt2 (by decide)
            have HSI : Hid (∀ W, Hid (Below WN.heap.size WN W) → Calls Try.prog 12 #[.agg #[.int .i64 t.list[j].kind, .int .i64 t.list[j].num, .string t.list[j].text, .slice p t.list[j].list.length n1, .slice p' t.list[j].names.length n1']] W fun e w1 => ∃ (p3 : Option Addr) (n3 : Nat) (p3' : Option Addr) (n3' : Nat), e = .returned (.agg #[.int .i64 Y.kind, .int .i64 Y.num, .string Y.text, .slice p3 Y.list.length n3, .slice p3' Y.names.length n3']) ∧ (((w1.cell? ⟨A, 0, none⟩ = some (.int .i64 Y.kind) ∧ w1.cell? ⟨A, 1, none⟩ = some (.int .i64 Y.num) ∧ w1.cell? ⟨A, 2, none⟩ = some (.string Y.text) ∧ w1.cell? ⟨A, 3, none⟩ = some (.slice p2 Y.list.length n2) ∧ w1.cell? ⟨A, 4, none⟩ = some (.slice p2' Y.names.length n2')) ∧ w1.cell? ⟨V, 3, none⟩ = some (.slice (some ⟨lb, loff, none⟩) t.list.length xc) ∧ w1.cell? ⟨lb, loff + j * 5, none⟩ = some (.int .i64 t.list[j].kind) ∧ w1.cell? ⟨lb, loff + j * 5 + 1, none⟩ = some (.int .i64 t.list[j].num) ∧ w1.cell? ⟨lb, loff + j * 5 + 2, none⟩ = some (.string t.list[j].text) ∧ w1.cell? ⟨lb, loff + j * 5 + 3, none⟩ = some (.slice p t.list[j].list.length n1) ∧ w1.cell? ⟨lb, loff + j * 5 + 4, none⟩ = some (.slice p' t.list[j].names.length n1')) ∧ w1.cell? ⟨bx, 4, none⟩ = some (.slice (some ⟨mb, moff, none⟩) X.names.length xac') ∧ w1.cell? ⟨mb, moff + jm, none⟩ = some (.string X.names[jm]) ∧ w1.cell? ⟨mb, moff + j, none⟩ = some (.string X.names[j])) ∧ Hid (VlR w1 0 19 Y [.int .i64 Y.kind, .int .i64 Y.num, .string Y.text, .slice p3 Y.list.length n3, .slice p3' Y.names.length n3']) ∧ Hid (Below WN.heap.size WN w1)) := fun W hB => keptSI (w0 := WN) (C := fun W => ((W.cell? ⟨A, 0, none⟩ = some (.int .i64 Y.kind) ∧ W.cell? ⟨A, 1, none⟩ = some (.int .i64 Y.num) ∧ W.cell? ⟨A, 2, none⟩ = some (.string Y.text) ∧ W.cell? ⟨A, 3, none⟩ = some (.slice p2 Y.list.length n2) ∧ W.cell? ⟨A, 4, none⟩ = some (.slice p2' Y.names.length n2')) ∧ W.cell? ⟨V, 3, none⟩ = some (.slice (some ⟨lb, loff, none⟩) t.list.length xc) ∧ W.cell? ⟨lb, loff + j * 5, none⟩ = some (.int .i64 t.list[j].kind) ∧ W.cell? ⟨lb, loff + j * 5 + 1, none⟩ = some (.int .i64 t.list[j].num) ∧ W.cell? ⟨lb, loff + j * 5 + 2, none⟩ = some (.string t.list[j].text) ∧ W.cell? ⟨lb, loff + j * 5 + 3, none⟩ = some (.slice p t.list[j].list.length n1) ∧ W.cell? ⟨lb, loff + j * 5 + 4, none⟩ = some (.slice p' t.list[j].names.length n1')) ∧ W.cell? ⟨bx, 4, none⟩ = some (.slice (some ⟨mb, moff, none⟩) X.names.length xac') ∧ W.cell? ⟨mb, moff + jm, none⟩ = some (.string X.names[jm]) ∧ W.cell? ⟨mb, moff + j, none⟩ = some (.string X.names[j])) 17 (by omega) HG2.out (fun W h => ⟨⟨⟨cell_on h a0, cell_on h a1, cell_on h a2, cell_on h a3, cell_on h a4⟩, cell_on h v3, cell_on h e0, cell_on h e1, cell_on h e2, cell_on h e3, cell_on h e4⟩, cell_on h x4, cell_on h m1, cell_on h m0⟩) hB (VlR.keeps (Keeps.of_below (HBN.out.trans (hB.out.mono HBN.out.size)) (Nat.le_refl _) 0) _ _ _ HCJ.out)
            have HPY : Hid (∀ (W : World) (p3 : Option Addr) (n3 : Nat) (p3' : Option Addr) (n3' : Nat), Hid (VlR W 0 19 Y [.int .i64 Y.kind, .int .i64 Y.num, .string Y.text, .slice p3 Y.list.length n3, .slice p3' Y.names.length n3']) → Hid (Below WN.heap.size WN W) → Calls Try.prog 17 #[.agg #[.int .i64 Y.kind, .int .i64 Y.num, .string Y.text, .slice p2 Y.list.length n2, .slice p2' Y.names.length n2'], .agg #[.int .i64 Y.kind, .int .i64 Y.num, .string Y.text, .slice p3 Y.list.length n3, .slice p3' Y.names.length n3']] W fun e w1 => e = .returned (.bool true) ∧ (((w1.cell? ⟨A, 0, none⟩ = some (.int .i64 Y.kind) ∧ w1.cell? ⟨A, 1, none⟩ = some (.int .i64 Y.num) ∧ w1.cell? ⟨A, 2, none⟩ = some (.string Y.text) ∧ w1.cell? ⟨A, 3, none⟩ = some (.slice p2 Y.list.length n2) ∧ w1.cell? ⟨A, 4, none⟩ = some (.slice p2' Y.names.length n2')) ∧ w1.cell? ⟨V, 3, none⟩ = some (.slice (some ⟨lb, loff, none⟩) t.list.length xc) ∧ w1.cell? ⟨lb, loff + j * 5, none⟩ = some (.int .i64 t.list[j].kind) ∧ w1.cell? ⟨lb, loff + j * 5 + 1, none⟩ = some (.int .i64 t.list[j].num) ∧ w1.cell? ⟨lb, loff + j * 5 + 2, none⟩ = some (.string t.list[j].text) ∧ w1.cell? ⟨lb, loff + j * 5 + 3, none⟩ = some (.slice p t.list[j].list.length n1) ∧ w1.cell? ⟨lb, loff + j * 5 + 4, none⟩ = some (.slice p' t.list[j].names.length n1')) ∧ w1.cell? ⟨bx, 4, none⟩ = some (.slice (some ⟨mb, moff, none⟩) X.names.length xac') ∧ w1.cell? ⟨mb, moff + jm, none⟩ = some (.string X.names[jm]) ∧ w1.cell? ⟨mb, moff + j, none⟩ = some (.string X.names[j])) ∧ Hid (Below WN.heap.size WN w1)) := fun W p3 n3 p3' n3' hR hB => keptS (w0 := WN) (C := fun W => ((W.cell? ⟨A, 0, none⟩ = some (.int .i64 Y.kind) ∧ W.cell? ⟨A, 1, none⟩ = some (.int .i64 Y.num) ∧ W.cell? ⟨A, 2, none⟩ = some (.string Y.text) ∧ W.cell? ⟨A, 3, none⟩ = some (.slice p2 Y.list.length n2) ∧ W.cell? ⟨A, 4, none⟩ = some (.slice p2' Y.names.length n2')) ∧ W.cell? ⟨V, 3, none⟩ = some (.slice (some ⟨lb, loff, none⟩) t.list.length xc) ∧ W.cell? ⟨lb, loff + j * 5, none⟩ = some (.int .i64 t.list[j].kind) ∧ W.cell? ⟨lb, loff + j * 5 + 1, none⟩ = some (.int .i64 t.list[j].num) ∧ W.cell? ⟨lb, loff + j * 5 + 2, none⟩ = some (.string t.list[j].text) ∧ W.cell? ⟨lb, loff + j * 5 + 3, none⟩ = some (.slice p t.list[j].list.length n1) ∧ W.cell? ⟨lb, loff + j * 5 + 4, none⟩ = some (.slice p' t.list[j].names.length n1')) ∧ W.cell? ⟨bx, 4, none⟩ = some (.slice (some ⟨mb, moff, none⟩) X.names.length xac') ∧ W.cell? ⟨mb, moff + jm, none⟩ = some (.string X.names[jm]) ∧ W.cell? ⟨mb, moff + j, none⟩ = some (.string X.names[j])) (fun W h => ⟨⟨⟨cell_on h a0, cell_on h a1, cell_on h a2, cell_on h a3, cell_on h a4⟩, cell_on h v3, cell_on h e0, cell_on h e1, cell_on h e2, cell_on h e3, cell_on h e4⟩, cell_on h x4, cell_on h m1, cell_on h m0⟩) hB (pgV_all 19 Y _ _ _ _ W (VlR.keeps (Keeps.of_below hB.out (Nat.le_refl _) 0) _ _ _ HRN.out) hR.out)
            have HJM : Hid (j = jm + 1) := hjm
            clear hlt2 hjm
            go_wp2_with fail
            go_region_held3 (fun w' => ((w'.cell? ⟨A, 0, none⟩ = some (.int .i64 Y.kind) ∧ w'.cell? ⟨A, 1, none⟩ = some (.int .i64 Y.num) ∧ w'.cell? ⟨A, 2, none⟩ = some (.string Y.text) ∧ w'.cell? ⟨A, 3, none⟩ = some (.slice p2 Y.list.length n2) ∧ w'.cell? ⟨A, 4, none⟩ = some (.slice p2' Y.names.length n2')) ∧ w'.cell? ⟨V, 3, none⟩ = some (.slice (some ⟨lb, loff, none⟩) t.list.length xc) ∧ w'.cell? ⟨lb, loff + j * 5, none⟩ = some (.int .i64 t.list[j].kind) ∧ w'.cell? ⟨lb, loff + j * 5 + 1, none⟩ = some (.int .i64 t.list[j].num) ∧ w'.cell? ⟨lb, loff + j * 5 + 2, none⟩ = some (.string t.list[j].text) ∧ w'.cell? ⟨lb, loff + j * 5 + 3, none⟩ = some (.slice p t.list[j].list.length n1) ∧ w'.cell? ⟨lb, loff + j * 5 + 4, none⟩ = some (.slice p' t.list[j].names.length n1')) ∧ w'.cell? ⟨bx, 4, none⟩ = some (.slice (some ⟨mb, moff, none⟩) X.names.length xac') ∧ w'.cell? ⟨mb, moff + jm, none⟩ = some (.string X.names[jm]) ∧ w'.cell? ⟨mb, moff + j, none⟩ = some (.string X.names[j])) (go_keep) (first | (go_at_call 12; refine (Hid.out HSI _ HBd).mono ?_; (try clear a0 a1 a2 a3 a4 v3 e0 e1 e2 e3 e4 x4 m1 m0); rintro e wS ⟨p3, n3, p3', n3', rfl, ⟨⟨⟨a0, a1, a2, a3, a4⟩, v3, e0, e1, e2, e3, e4⟩, x4, m1, m0⟩, HRS, HBS⟩) | (go_at_call 17; refine (Hid.out HPY _ _ _ _ _ HRS HBS).mono ?_; (try clear a0 a1 a2 a3 a4 v3 e0 e1 e2 e3 e4 x4 m1 m0); rintro e wG ⟨rfl, ⟨⟨⟨a0, a1, a2, a3, a4⟩, v3, e0, e1, e2, e3, e4⟩, x4, m1, m0⟩, HBG⟩))
            clear a0 a1 a2 a3 a4 v3 e0 e1 e2 e3 e4 x4 m1 m0
            go_wp2_with fail
            exact ⟨⟨j + 1, by omega, by go_num, HBWN.out.trans (HBG.out.mono HBWN.out.size)⟩, by simp [intOf]; omega⟩
      · have hlti : decide ((j : Int) < (t.names.length : Int)) = false := decide_eq_false (by omega)
        have HSRT : Hid (sortG 18 X = X) := by show _ = _; rw [sortG_yes HOKX.out, HXS.out]; exact srt_idem 20 t HWF.out
        obtain ⟨Z, hZ⟩ : ∃ Z, (vz t : Int) = Z := ⟨_, rfl⟩
        obtain ⟨D, hD⟩ : ∃ D, (dep t : Int) = D := ⟨_, rfl⟩
        have HZT : Hid (vsO vz t = Z) := by show _ = _; rw [vsO_yes HOK.out]; exact hZ
        have HZX : Hid (vsO vz X = Z) := by show _ = _; rw [vsO_yes HOKX.out, HXS.out, vz_srt hvz 20 t HWF.out]; exact hZ
        have HDT : Hid ((dep t : Int) = D) := hD
        have HDX : Hid ((dep X : Int) = D) := by show _ = _; rw [HXS.out, dep_srt hd 20 t HWF.out]; exact hD
        have HDXle : Hid (dep X ≤ 2000000) := by show _ ≤ _; rw [HXS.out, dep_srt hd 20 t HWF.out]; have := HD20.out; omega
        clear hZ hD
        have HIO : Hid (∀ W, Hid (Below W3.heap.size W3 W) → Calls Try.prog 20 #[.agg #[.int .i64 X.kind, .int .i64 X.num, .string X.text, .slice xa X.list.length xac, .slice xa' X.names.length xac']] W fun e w1 => e = .returned (.bool true) ∧ ((w1.cell? ⟨V, 0, none⟩ = some (.int .i64 t.kind) ∧ w1.cell? ⟨V, 1, none⟩ = some (.int .i64 t.num) ∧ w1.cell? ⟨V, 2, none⟩ = some (.string t.text) ∧ w1.cell? ⟨V, 3, none⟩ = some (.slice x t.list.length xc) ∧ w1.cell? ⟨V, 4, none⟩ = some (.slice y t.names.length yc)) ∧ (w1.cell? ⟨bx, 0, none⟩ = some (.int .i64 X.kind) ∧ w1.cell? ⟨bx, 1, none⟩ = some (.int .i64 X.num) ∧ w1.cell? ⟨bx, 2, none⟩ = some (.string X.text) ∧ w1.cell? ⟨bx, 3, none⟩ = some (.slice xa X.list.length xac) ∧ w1.cell? ⟨bx, 4, none⟩ = some (.slice xa' X.names.length xac'))) ∧ Hid (Below W3.heap.size W3 w1)) := fun W hB => keptS (w0 := W3) (C := fun W => (W.cell? ⟨V, 0, none⟩ = some (.int .i64 t.kind) ∧ W.cell? ⟨V, 1, none⟩ = some (.int .i64 t.num) ∧ W.cell? ⟨V, 2, none⟩ = some (.string t.text) ∧ W.cell? ⟨V, 3, none⟩ = some (.slice x t.list.length xc) ∧ W.cell? ⟨V, 4, none⟩ = some (.slice y t.names.length yc)) ∧ (W.cell? ⟨bx, 0, none⟩ = some (.int .i64 X.kind) ∧ W.cell? ⟨bx, 1, none⟩ = some (.int .i64 X.num) ∧ W.cell? ⟨bx, 2, none⟩ = some (.string X.text) ∧ W.cell? ⟨bx, 3, none⟩ = some (.slice xa X.list.length xac) ∧ W.cell? ⟨bx, 4, none⟩ = some (.slice xa' X.names.length xac'))) HCELLS.out hB (by rw [← HOKX.out]; exact implValueOk_any 20 X _ _ W (HXR.out _ (Keeps.of_below hB.out (Nat.le_refl _) 0)))
        have HSX : Hid (∀ W, Hid (Below W3.heap.size W3 W) → Calls Try.prog 12 #[.agg #[.int .i64 X.kind, .int .i64 X.num, .string X.text, .slice xa X.list.length xac, .slice xa' X.names.length xac']] W fun e w1 => ∃ (p1 : Option Addr) (n1 : Nat) (p1' : Option Addr) (n1' : Nat), e = .returned (.agg #[.int .i64 X.kind, .int .i64 X.num, .string X.text, .slice p1 X.list.length n1, .slice p1' X.names.length n1']) ∧ ((w1.cell? ⟨V, 0, none⟩ = some (.int .i64 t.kind) ∧ w1.cell? ⟨V, 1, none⟩ = some (.int .i64 t.num) ∧ w1.cell? ⟨V, 2, none⟩ = some (.string t.text) ∧ w1.cell? ⟨V, 3, none⟩ = some (.slice x t.list.length xc) ∧ w1.cell? ⟨V, 4, none⟩ = some (.slice y t.names.length yc)) ∧ (w1.cell? ⟨bx, 0, none⟩ = some (.int .i64 X.kind) ∧ w1.cell? ⟨bx, 1, none⟩ = some (.int .i64 X.num) ∧ w1.cell? ⟨bx, 2, none⟩ = some (.string X.text) ∧ w1.cell? ⟨bx, 3, none⟩ = some (.slice xa X.list.length xac) ∧ w1.cell? ⟨bx, 4, none⟩ = some (.slice xa' X.names.length xac'))) ∧ Hid (VlR w1 0 20 X [.int .i64 X.kind, .int .i64 X.num, .string X.text, .slice p1 X.list.length n1, .slice p1' X.names.length n1']) ∧ Hid (Below W3.heap.size W3 w1)) := fun W hB => keptSI (w0 := W3) (C := fun W => (W.cell? ⟨V, 0, none⟩ = some (.int .i64 t.kind) ∧ W.cell? ⟨V, 1, none⟩ = some (.int .i64 t.num) ∧ W.cell? ⟨V, 2, none⟩ = some (.string t.text) ∧ W.cell? ⟨V, 3, none⟩ = some (.slice x t.list.length xc) ∧ W.cell? ⟨V, 4, none⟩ = some (.slice y t.names.length yc)) ∧ (W.cell? ⟨bx, 0, none⟩ = some (.int .i64 X.kind) ∧ W.cell? ⟨bx, 1, none⟩ = some (.int .i64 X.num) ∧ W.cell? ⟨bx, 2, none⟩ = some (.string X.text) ∧ W.cell? ⟨bx, 3, none⟩ = some (.slice xa X.list.length xac) ∧ W.cell? ⟨bx, 4, none⟩ = some (.slice xa' X.names.length xac'))) 18 (by omega) HSRT.out HCELLS.out hB (HXR.out _ (Keeps.of_below hB.out (Nat.le_refl _) 0))
        have HPX : Hid (∀ (W : World) (p1 : Option Addr) (n1 : Nat) (p1' : Option Addr) (n1' : Nat), Hid (VlR W 0 20 X [.int .i64 X.kind, .int .i64 X.num, .string X.text, .slice p1 X.list.length n1, .slice p1' X.names.length n1']) → Hid (Below W3.heap.size W3 W) → Calls Try.prog 17 #[.agg #[.int .i64 X.kind, .int .i64 X.num, .string X.text, .slice p1 X.list.length n1, .slice p1' X.names.length n1'], .agg #[.int .i64 X.kind, .int .i64 X.num, .string X.text, .slice xa X.list.length xac, .slice xa' X.names.length xac']] W fun e w1 => e = .returned (.bool true) ∧ ((w1.cell? ⟨V, 0, none⟩ = some (.int .i64 t.kind) ∧ w1.cell? ⟨V, 1, none⟩ = some (.int .i64 t.num) ∧ w1.cell? ⟨V, 2, none⟩ = some (.string t.text) ∧ w1.cell? ⟨V, 3, none⟩ = some (.slice x t.list.length xc) ∧ w1.cell? ⟨V, 4, none⟩ = some (.slice y t.names.length yc)) ∧ (w1.cell? ⟨bx, 0, none⟩ = some (.int .i64 X.kind) ∧ w1.cell? ⟨bx, 1, none⟩ = some (.int .i64 X.num) ∧ w1.cell? ⟨bx, 2, none⟩ = some (.string X.text) ∧ w1.cell? ⟨bx, 3, none⟩ = some (.slice xa X.list.length xac) ∧ w1.cell? ⟨bx, 4, none⟩ = some (.slice xa' X.names.length xac'))) ∧ Hid (Below W3.heap.size W3 w1)) := fun W p1 n1 p1' n1' hR hB => keptS (w0 := W3) (C := fun W => (W.cell? ⟨V, 0, none⟩ = some (.int .i64 t.kind) ∧ W.cell? ⟨V, 1, none⟩ = some (.int .i64 t.num) ∧ W.cell? ⟨V, 2, none⟩ = some (.string t.text) ∧ W.cell? ⟨V, 3, none⟩ = some (.slice x t.list.length xc) ∧ W.cell? ⟨V, 4, none⟩ = some (.slice y t.names.length yc)) ∧ (W.cell? ⟨bx, 0, none⟩ = some (.int .i64 X.kind) ∧ W.cell? ⟨bx, 1, none⟩ = some (.int .i64 X.num) ∧ W.cell? ⟨bx, 2, none⟩ = some (.string X.text) ∧ W.cell? ⟨bx, 3, none⟩ = some (.slice xa X.list.length xac) ∧ W.cell? ⟨bx, 4, none⟩ = some (.slice xa' X.names.length xac'))) HCELLS.out hB (pgV_all 20 X _ _ _ _ W hR.out (HXR.out _ (Keeps.of_below hB.out (Nat.le_refl _) 0)))
        have HCZX : Hid (∀ W, Hid (Below W3.heap.size W3 W) → Calls Try.prog 21 #[.agg #[.int .i64 X.kind, .int .i64 X.num, .string X.text, .slice xa X.list.length xac, .slice xa' X.names.length xac']] W fun e w1 => e = .returned (.int .i64 Z) ∧ ((w1.cell? ⟨V, 0, none⟩ = some (.int .i64 t.kind) ∧ w1.cell? ⟨V, 1, none⟩ = some (.int .i64 t.num) ∧ w1.cell? ⟨V, 2, none⟩ = some (.string t.text) ∧ w1.cell? ⟨V, 3, none⟩ = some (.slice x t.list.length xc) ∧ w1.cell? ⟨V, 4, none⟩ = some (.slice y t.names.length yc)) ∧ (w1.cell? ⟨bx, 0, none⟩ = some (.int .i64 X.kind) ∧ w1.cell? ⟨bx, 1, none⟩ = some (.int .i64 X.num) ∧ w1.cell? ⟨bx, 2, none⟩ = some (.string X.text) ∧ w1.cell? ⟨bx, 3, none⟩ = some (.slice xa X.list.length xac) ∧ w1.cell? ⟨bx, 4, none⟩ = some (.slice xa' X.names.length xac'))) ∧ Hid (Below W3.heap.size W3 w1)) := fun W hB => keptS (w0 := W3) (C := fun W => (W.cell? ⟨V, 0, none⟩ = some (.int .i64 t.kind) ∧ W.cell? ⟨V, 1, none⟩ = some (.int .i64 t.num) ∧ W.cell? ⟨V, 2, none⟩ = some (.string t.text) ∧ W.cell? ⟨V, 3, none⟩ = some (.slice x t.list.length xc) ∧ W.cell? ⟨V, 4, none⟩ = some (.slice y t.names.length yc)) ∧ (W.cell? ⟨bx, 0, none⟩ = some (.int .i64 X.kind) ∧ W.cell? ⟨bx, 1, none⟩ = some (.int .i64 X.num) ∧ W.cell? ⟨bx, 2, none⟩ = some (.string X.text) ∧ W.cell? ⟨bx, 3, none⟩ = some (.slice xa X.list.length xac) ∧ W.cell? ⟨bx, 4, none⟩ = some (.slice xa' X.names.length xac'))) HCELLS.out hB (by rw [← HZX.out]; exact implValueSize_any vz hvz 20 X _ _ W (HXR.out _ (Keeps.of_below hB.out (Nat.le_refl _) 0)))
        have HCZT : Hid (∀ W, Hid (Below W3.heap.size W3 W) → Calls Try.prog 21 #[.agg #[.int .i64 t.kind, .int .i64 t.num, .string t.text, .slice x t.list.length xc, .slice y t.names.length yc]] W fun e w1 => e = .returned (.int .i64 Z) ∧ ((w1.cell? ⟨V, 0, none⟩ = some (.int .i64 t.kind) ∧ w1.cell? ⟨V, 1, none⟩ = some (.int .i64 t.num) ∧ w1.cell? ⟨V, 2, none⟩ = some (.string t.text) ∧ w1.cell? ⟨V, 3, none⟩ = some (.slice x t.list.length xc) ∧ w1.cell? ⟨V, 4, none⟩ = some (.slice y t.names.length yc)) ∧ (w1.cell? ⟨bx, 0, none⟩ = some (.int .i64 X.kind) ∧ w1.cell? ⟨bx, 1, none⟩ = some (.int .i64 X.num) ∧ w1.cell? ⟨bx, 2, none⟩ = some (.string X.text) ∧ w1.cell? ⟨bx, 3, none⟩ = some (.slice xa X.list.length xac) ∧ w1.cell? ⟨bx, 4, none⟩ = some (.slice xa' X.names.length xac'))) ∧ Hid (Below W3.heap.size W3 w1)) := fun W hB => keptS (w0 := W3) (C := fun W => (W.cell? ⟨V, 0, none⟩ = some (.int .i64 t.kind) ∧ W.cell? ⟨V, 1, none⟩ = some (.int .i64 t.num) ∧ W.cell? ⟨V, 2, none⟩ = some (.string t.text) ∧ W.cell? ⟨V, 3, none⟩ = some (.slice x t.list.length xc) ∧ W.cell? ⟨V, 4, none⟩ = some (.slice y t.names.length yc)) ∧ (W.cell? ⟨bx, 0, none⟩ = some (.int .i64 X.kind) ∧ W.cell? ⟨bx, 1, none⟩ = some (.int .i64 X.num) ∧ W.cell? ⟨bx, 2, none⟩ = some (.string X.text) ∧ W.cell? ⟨bx, 3, none⟩ = some (.slice xa X.list.length xac) ∧ W.cell? ⟨bx, 4, none⟩ = some (.slice xa' X.names.length xac'))) HCELLS.out hB (by rw [← HZT.out]; exact implValueSize_any vz hvz 20 t _ _ W (VlQ.read _ _ _ (HVQ.out _ (Keeps.of_below hB.out (Nat.le_refl _) 0))))
        have HCDX : Hid (∀ W, Hid (Below W3.heap.size W3 W) → Calls Try.prog 22 #[.agg #[.int .i64 X.kind, .int .i64 X.num, .string X.text, .slice xa X.list.length xac, .slice xa' X.names.length xac']] W fun e w1 => e = .returned (.int .i64 D) ∧ ((w1.cell? ⟨V, 0, none⟩ = some (.int .i64 t.kind) ∧ w1.cell? ⟨V, 1, none⟩ = some (.int .i64 t.num) ∧ w1.cell? ⟨V, 2, none⟩ = some (.string t.text) ∧ w1.cell? ⟨V, 3, none⟩ = some (.slice x t.list.length xc) ∧ w1.cell? ⟨V, 4, none⟩ = some (.slice y t.names.length yc)) ∧ (w1.cell? ⟨bx, 0, none⟩ = some (.int .i64 X.kind) ∧ w1.cell? ⟨bx, 1, none⟩ = some (.int .i64 X.num) ∧ w1.cell? ⟨bx, 2, none⟩ = some (.string X.text) ∧ w1.cell? ⟨bx, 3, none⟩ = some (.slice xa X.list.length xac) ∧ w1.cell? ⟨bx, 4, none⟩ = some (.slice xa' X.names.length xac'))) ∧ Hid (Below W3.heap.size W3 w1)) := fun W hB => keptS (w0 := W3) (C := fun W => (W.cell? ⟨V, 0, none⟩ = some (.int .i64 t.kind) ∧ W.cell? ⟨V, 1, none⟩ = some (.int .i64 t.num) ∧ W.cell? ⟨V, 2, none⟩ = some (.string t.text) ∧ W.cell? ⟨V, 3, none⟩ = some (.slice x t.list.length xc) ∧ W.cell? ⟨V, 4, none⟩ = some (.slice y t.names.length yc)) ∧ (W.cell? ⟨bx, 0, none⟩ = some (.int .i64 X.kind) ∧ W.cell? ⟨bx, 1, none⟩ = some (.int .i64 X.num) ∧ W.cell? ⟨bx, 2, none⟩ = some (.string X.text) ∧ W.cell? ⟨bx, 3, none⟩ = some (.slice xa X.list.length xac) ∧ W.cell? ⟨bx, 4, none⟩ = some (.slice xa' X.names.length xac'))) HCELLS.out hB (by rw [← HDX.out]; exact implDeep_any dep sz hd hsz X _ _ _ _ _ 20 W (HXP.out W hB.out) HDXle.out ⟨_, _, _, _, rfl, rfl⟩ rfl rfl rfl)
        have HCDT : Hid (∀ W, Hid (Below W3.heap.size W3 W) → Calls Try.prog 22 #[.agg #[.int .i64 t.kind, .int .i64 t.num, .string t.text, .slice x t.list.length xc, .slice y t.names.length yc]] W fun e w1 => e = .returned (.int .i64 D) ∧ ((w1.cell? ⟨V, 0, none⟩ = some (.int .i64 t.kind) ∧ w1.cell? ⟨V, 1, none⟩ = some (.int .i64 t.num) ∧ w1.cell? ⟨V, 2, none⟩ = some (.string t.text) ∧ w1.cell? ⟨V, 3, none⟩ = some (.slice x t.list.length xc) ∧ w1.cell? ⟨V, 4, none⟩ = some (.slice y t.names.length yc)) ∧ (w1.cell? ⟨bx, 0, none⟩ = some (.int .i64 X.kind) ∧ w1.cell? ⟨bx, 1, none⟩ = some (.int .i64 X.num) ∧ w1.cell? ⟨bx, 2, none⟩ = some (.string X.text) ∧ w1.cell? ⟨bx, 3, none⟩ = some (.slice xa X.list.length xac) ∧ w1.cell? ⟨bx, 4, none⟩ = some (.slice xa' X.names.length xac'))) ∧ Hid (Below W3.heap.size W3 w1)) := fun W hB => keptS (w0 := W3) (C := fun W => (W.cell? ⟨V, 0, none⟩ = some (.int .i64 t.kind) ∧ W.cell? ⟨V, 1, none⟩ = some (.int .i64 t.num) ∧ W.cell? ⟨V, 2, none⟩ = some (.string t.text) ∧ W.cell? ⟨V, 3, none⟩ = some (.slice x t.list.length xc) ∧ W.cell? ⟨V, 4, none⟩ = some (.slice y t.names.length yc)) ∧ (W.cell? ⟨bx, 0, none⟩ = some (.int .i64 X.kind) ∧ W.cell? ⟨bx, 1, none⟩ = some (.int .i64 X.num) ∧ W.cell? ⟨bx, 2, none⟩ = some (.string X.text) ∧ W.cell? ⟨bx, 3, none⟩ = some (.slice xa X.list.length xac) ∧ W.cell? ⟨bx, 4, none⟩ = some (.slice xa' X.names.length xac'))) HCELLS.out hB (by rw [← HDT.out]; exact deepQ dep sz hd hsz 20 t _ _ _ _ W (by omega) (HVQ.out _ (Keeps.of_below hB.out (Nat.le_refl _) 0)))
        have HBd : Hid (Below W3.heap.size W3 wr.drew) := HBr.out.drew
        obtain ⟨⟨v0, v1, v2, v3, v4⟩, ⟨x0, x1, x2, x3, x4⟩⟩ := HCELLS.out wr HBr.out
        clear HSS HPG HOS
        go_wp2_with fail
        go_region_held3 (fun w' => (w'.cell? ⟨V, 0, none⟩ = some (.int .i64 t.kind) ∧ w'.cell? ⟨V, 1, none⟩ = some (.int .i64 t.num) ∧ w'.cell? ⟨V, 2, none⟩ = some (.string t.text) ∧ w'.cell? ⟨V, 3, none⟩ = some (.slice x t.list.length xc) ∧ w'.cell? ⟨V, 4, none⟩ = some (.slice y t.names.length yc)) ∧ (w'.cell? ⟨bx, 0, none⟩ = some (.int .i64 X.kind) ∧ w'.cell? ⟨bx, 1, none⟩ = some (.int .i64 X.num) ∧ w'.cell? ⟨bx, 2, none⟩ = some (.string X.text) ∧ w'.cell? ⟨bx, 3, none⟩ = some (.slice xa X.list.length xac) ∧ w'.cell? ⟨bx, 4, none⟩ = some (.slice xa' X.names.length xac'))) (go_keep) (first | (go_at_call 20; refine (Hid.out HIO _ (by assumption)).mono ?_; (try clear v0 v1 v2 v3 v4 x0 x1 x2 x3 x4); rintro e wL ⟨rfl, ⟨⟨v0, v1, v2, v3, v4⟩, ⟨x0, x1, x2, x3, x4⟩⟩, HBL⟩) | (go_at_call 12; refine (Hid.out HSX _ (by assumption)).mono ?_; (try clear v0 v1 v2 v3 v4 x0 x1 x2 x3 x4); rintro e wS ⟨p1, n1, p1', n1', rfl, ⟨⟨v0, v1, v2, v3, v4⟩, ⟨x0, x1, x2, x3, x4⟩⟩, HRS, HBS⟩) | (go_at_call 17; refine (Hid.out HPX _ _ _ _ _ HRS HBS).mono ?_; (try clear v0 v1 v2 v3 v4 x0 x1 x2 x3 x4); rintro e wL ⟨rfl, ⟨⟨v0, v1, v2, v3, v4⟩, ⟨x0, x1, x2, x3, x4⟩⟩, HBL⟩) | (go_at_call 21; refine (Hid.out HCZX _ (by assumption)).mono ?_; (try clear v0 v1 v2 v3 v4 x0 x1 x2 x3 x4); rintro e wL ⟨rfl, ⟨⟨v0, v1, v2, v3, v4⟩, ⟨x0, x1, x2, x3, x4⟩⟩, HBL⟩) | (go_at_call 21; refine (Hid.out HCZT _ (by assumption)).mono ?_; (try clear v0 v1 v2 v3 v4 x0 x1 x2 x3 x4); rintro e wL ⟨rfl, ⟨⟨v0, v1, v2, v3, v4⟩, ⟨x0, x1, x2, x3, x4⟩⟩, HBL⟩) | (go_at_call 22; refine (Hid.out HCDX _ (by assumption)).mono ?_; (try clear v0 v1 v2 v3 v4 x0 x1 x2 x3 x4); rintro e wL ⟨rfl, ⟨⟨v0, v1, v2, v3, v4⟩, ⟨x0, x1, x2, x3, x4⟩⟩, HBL⟩) | (go_at_call 22; refine (Hid.out HCDT _ (by assumption)).mono ?_; (try clear v0 v1 v2 v3 v4 x0 x1 x2 x3 x4); rintro e wL ⟨rfl, ⟨⟨v0, v1, v2, v3, v4⟩, ⟨x0, x1, x2, x3, x4⟩⟩, HBL⟩))
        all_goals
          clear v0 v1 v2 v3 v4 x0 x1 x2 x3 x4
          go_wp2_with fail
          go_ret
          exact ⟨rfl, below_endS HB3 HBL⟩

end Go.Proofs.Ytdaohfeajicamaa

namespace Go.Proofs.Ytdaohfeajicamaa
open Go.ChangeShapes Go.WideShapes Go.ChangeAt Go.RowKit
set_option linter.unusedVariables false
set_option linter.unusedSimpArgs false

theorem law_walk (dep : Vl → Nat) (sz : Vl → Nat) (vz : Vl → Nat) (hd : IsDep dep) (hsz : IsSz sz) (hvz : IsVz vz) (a : Option Addr) (n c : Nat) (w : World) (hn : n ≤ maxLen) (hc : n ≤ c) (h1 : CodeAt w a n) :
    Calls Try.prog 4 #[.slice a n c] w fun e w' => e = .returned (.bool true) ∧ Below w.heap.size w w' := by
  by_cases hs : n ≤ 1048576
  · exact sorted_main dep sz vz hd hsz hvz a n c w hs hc h1
  · have b1 : decide ((1048576 : Int) < (n : Int)) = true := decide_eq_true (by omega)
    clear h1
    go_enter Try.func4, Try.ntmps4
    go_wp2_with fail
    go_ret
    exact ⟨rfl, Below.refl _ _⟩

/-- A slice of bytes that came in. -/
def IsRow (k : IntKind) (w : World) (a : Option Addr) (len cap : Nat) (zs : List Int) : Prop :=
  (a = none ∧ len = 0 ∧ cap = 0 ∧ zs = []) ∨
  ∃ x, a = some x ∧ len ≤ cap ∧ cap ≤ maxLen ∧ zs.length = cap ∧ (∀ i, i < zs.length → w.cell? (x.add i) = some (.int k (zs.getD i 0))) ∧ ∀ n ∈ zs, (Lit.int k n).wf = true

theorem IsRow.le {k : IntKind} {w : World} {a : Option Addr} {len cap : Nat} {zs : List Int} (h : IsRow k w a len cap zs) : len ≤ cap ∧ len ≤ maxLen := by
  rcases h with ⟨_, rfl, rfl, _⟩ | ⟨x, _, h1, h2, _⟩
  · exact ⟨Nat.le_refl _, Nat.zero_le _⟩
  · exact ⟨h1, by omega⟩

theorem IsRow.code {w : World} {a : Option Addr} {len cap : Nat} {zs : List Int} (h : IsRow .u8 w a len cap zs) : CodeAt w a len := by
  intro i hi
  rcases h with ⟨_, rfl, _, _⟩ | ⟨x, rfl, h1, h2, h3, h4, h5⟩
  · omega
  · have hc := h4 i (by omega)
    obtain ⟨b, off, spot⟩ := x
    have hc0 := h4 0 (by omega)
    have hspot : spot = none := by simpa [Addr.add] using World.cell?_spot hc0
    clear hc0
    subst hspot
    have hi' : i < zs.length := by omega
    have hw := h5 zs[i] (List.getElem_mem hi')
    have hg : zs.getD i 0 = zs[i] := by simp [hi']
    rw [hg, Addr.add_lit] at hc
    generalize zs[i] = z at *
    have hz : 0 ≤ z ∧ z < 256 := by
      simp only [Lit.wf, Bool.and_eq_true, decide_eq_true_eq] at hw
      have e1 : IntKind.u8.min = 0 := by decide
      have e2 : IntKind.u8.max = 255 := by decide
      rw [e1, e2] at hw
      omega
    obtain ⟨m, rfl⟩ := Int.eq_ofNat_of_zero_le hz.1
    exact ⟨b, off, m, rfl, by omega, hc⟩

theorem own : ownKnob Try.prog.godebug = none := by kernel_rfl
theorem laidOut : laidOutB Try.prog = true := by kernel_rfl

set_option maxRecDepth 100000 in
theorem lifted (os : Os) (started : os.Started) (H : Type) (enc : TypeId × Value → H) :
    ReturnsInHanded {} Try.checked os 4 .any (Rows.fnValueSortedSpec.pre6 enc Try.prog Try.f4 Rows.fnValueSortedRow.domain false) (Rows.fnValueSortedSpec.post enc Try.prog Try.f4 false true false false) := by
  refine returnsInHanded_of_change (C := Try.checked) own started (by kernel_rfl) Try.func4
    (ChangeSpec.witness6 (enc := enc) (C := Try.checked) false ⟨#[], #[.slice none 0 0], []⟩ 8 (by kernel_rfl) (by kernel_rfl) (by kernel_rfl) (by kernel_rfl)) ?_
  intro W base args ds gs before hval0 hW hcnd _
  have hval : ∀ (j : Nat) t v, Try.f4.params[j]? = some t → args[j]? = some v → Value.okWide Try.prog W .any base t v := hval0
  have hW' := hW
  obtain ⟨p, q, hA0, hV, rfl, hfz, hnd⟩ := hW
  have hA : DataW.TrodAll enc Try.prog W 0 (fun _ => true) true Try.f4.params.toList args.toList ds p := hA0
  rw [Try.params4] at hA hval
  obtain ⟨v0, vs0, d0, ds0, p0, q0, hargs, rfl, rfl, h0, r0⟩ := trodAll_cons hA
  obtain ⟨rfl, rfl, rfl⟩ := trodAll_nil r0
  obtain rfl : args = #[v0] := by cases args; simp_all
  obtain ⟨rfl, rfl⟩ := trodVars_none hV
  obtain ⟨a0, len0, cap0, rfl⟩ := okWide_slice Try.underlying35 (hval 0 35 v0 rfl rfl)
  have k0 := h0
  have lt0 : ∀ x ∈ p0, x.block < W.heap.size := by obtain ⟨m, hm⟩ := k0; exact DataW.trod_lt m _ _ _ hm
  obtain ⟨z0, w0⟩ : ∃ zs, IsRow .u8 W a0 len0 cap0 zs := by
    obtain ⟨fuel, hf⟩ := h0
    rcases open_ints Try.underlying35 Try.underlying5 (by kernel_rfl) hf with ⟨hcs, _⟩ | ⟨x, l, c, zs, hcs, _, hl, hm, hz, _, hcell, hwz⟩
    · simp [Value.cells] at hcs
      obtain ⟨rfl, rfl, rfl⟩ := hcs
      exact ⟨[], .inl ⟨rfl, rfl, rfl, rfl⟩⟩
    · simp [Value.cells] at hcs
      obtain ⟨rfl, rfl, rfl⟩ := hcs
      exact ⟨zs, .inr ⟨_, rfl, hl, hm, by simpa using hz, hcell, hwz⟩⟩
  clear hA0 hval0
  obtain ⟨dep, hd⟩ := exists_dep
  obtain ⟨sz, hsz⟩ := exists_sz
  obtain ⟨vz, hvz⟩ := exists_vz
  refine (law_walk dep sz vz hd hsz hvz a0 len0 cap0 W w0.le.2 w0.le.1 w0.code).mono fun e W' ⟨he, bel⟩ => ?_
  subst he
  exact ⟨_, rfl, _, _, _, [], _, [], hW', trodAll_mk1 (shut_bool Try.underlying4 _), (trodAll_cons_mk (Below.trod laidOut (by kernel_rfl) (of_decide_eq_true (by kernel_rfl)) k0 bel lt0) trodAll_mk0), rfl, bel.frame _, fun h => by cases h⟩

theorem fnValueSorted_holds : Rows.FnValueSortedSaid :=
  OpenClaim.holds_of_wide 4 Try.f4 rfl rfl rfl rfl rfl rfl rfl ⟨rfl, rfl, rfl, rfl, rfl⟩ rfl rfl rfl rfl rfl (by kernel_rfl) Try.func4 (by kernel_rfl)
    (of_decide_eq_true (by kernel_rfl)) (by unfold Func.isWrapper; first | (rw [if_pos (by decide +kernel)]; kernel_rfl) | (rw [if_neg (by decide +kernel)]; exact ⟨rfl, rfl⟩))
    (fun os started H enc _ => lifted os started H enc)

end Go.Proofs.Ytdaohfeajicamaa
