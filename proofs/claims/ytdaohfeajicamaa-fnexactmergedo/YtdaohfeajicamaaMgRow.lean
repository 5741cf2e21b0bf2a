
/-
  DERIVED. laws.FnExactMergeDo: its walk out of the contracts.
-/
import Derived.Test.YtdaohfeajicamaaMgH
import Derived.Test.YtdaohfeajicamaaVlSzC
import Derived.Test.YtdaohfeajicamaaVlToO
import Derived.Test.YtdaohfeajicamaaVlHeld
import Derived.Deep.Cut
import Derived.Test.YtdaohfeajicamaaReadV
import Derived.ProofKit
import Derived.SizedLaws
import Derived.ChangeOld
import Derived.OpenShut
namespace Go.Proofs.Ytdaohfeajicamaa
open Go.RowKit
set_option linter.unusedVariables false
set_option linter.unusedSimpArgs false

/-! ### How much there is of what MergeDo answers -/
def cM : Nat → Nat
  | 0 => 0
  | d + 1 => 15 + 12 * cM d
theorem cntS_leM {c : Vl → Nat} {b : Nat} : ∀ {l : List Vl}, (∀ x ∈ l, c x ≤ b) → cntS c l ≤ l.length * b
  | [], _ => by simp [cntS]
  | x :: r, h => by
    have h1 := h x List.mem_cons_self
    have h2 := cntS_leM (l := r) (fun y hy => h y (List.mem_cons_of_mem _ hy))
    simp only [cntS, List.length_cons, Nat.succ_mul]
    omega
theorem names_leM {d : Nat} {t : Vl} (h : okB false (d + 1) t = true) : t.names.length ≤ 12 := by
  have hl := ok_len12 h
  by_cases h5 : t.kind = 5
  · rw [(ok_five h5 h).1]; exact hl
  · have hp := (fm_parts (ok_fm _ _ h)).1
    have := parts_no_names hp h5
    omega
theorem cnt_okM : ∀ (d j : Nat) (t : Vl), okB false d t = true → cntE j t ≤ cM d
  | 0, _, _, h => by simp [okB] at h
  | d + 1, 0, _, _ => Nat.zero_le _
  | d + 1, j + 1, t, h => by
    have h1 : cntS (cntE j) t.list ≤ t.list.length * cM d := cntS_leM (fun x hx => cnt_okM d j x (ok_kid h hx))
    have h2 := ok_len12 h
    have h3 := names_leM h
    have h4 : t.list.length * cM d ≤ 12 * cM d := Nat.mul_le_mul_right _ h2
    show 3 + cntS (cntE j) t.list + t.names.length ≤ 15 + 12 * cM d
    omega
theorem cnt_mdG {k j : Nat} {v m : Vl} (hk : 5 ≤ k) : cntS (cntE j) (mdG k v m).list + (mdG k v m).names.length ≤ 9999999 := by
  have hok : mdG k v m = zeroV ∨ okB false 6 (mdG k v m) = true := by
    unfold mdG
    cases h : okB false 6 v
    · exact Or.inl rfl
    · right
      simp only [if_true]
      split
      · rename_i h2
        simp only [Bool.and_eq_true] at h2
        exact h2.2
      · exact okB_srt 6 (k + 2) v (by omega) h
  rcases hok with h | h
  · rw [h]
    exact Nat.zero_le _
  · have h1 : cntE (j + 1) (mdG k v m) ≤ cM 6 := cnt_okM 6 (j + 1) _ h
    have h2 : cntE (j + 1) (mdG k v m) = 3 + cntS (cntE j) (mdG k v m).list + (mdG k v m).names.length := rfl
    have h3 : cM 6 ≤ 5000000 := by decide
    omega

/-! ### What is carried along -/
theorem keepR {w W : World} {k : Nat} {t : Vl} {cs : List Value} (h : Hid (VlR w 0 k t cs)) (hb : Hid (Below w.heap.size w W)) : Hid (VlR W 0 k t cs) := VlR.keeps (Keeps.of_below hb.out (Nat.le_refl _) 0) _ _ _ h.out
theorem keepRa {w W : World} {o : Obj} {k : Nat} {t : Vl} {cs : List Value} (h : Hid (VlR w 0 k t cs)) (hb : Hid (Below (w.alloc o).heap.size (w.alloc o) W)) : Hid (VlR W 0 k t cs) := VlR.keeps (((Keeps.refl 0 w).alloc o).trans (Keeps.of_below hb.out (Nat.le_refl _) 0)) _ _ _ h.out
theorem keepAl {w : World} {o : Obj} {k : Nat} {t : Vl} {cs : List Value} (h : Hid (VlR w 0 k t cs)) : Hid (VlR (w.alloc o) 0 k t cs) := VlR.keeps ((Keeps.refl 0 w).alloc o) _ _ _ h.out
theorem belAl {w W : World} {o : Obj} (h : Hid (Below w.heap.size w W)) : Hid (Below w.heap.size w (W.alloc o)) := h.out.alloc h.out.size o
theorem szM {n : Nat} {w W : World} (hz : n < w.heap.size) (h : Hid (Below w.heap.size w W)) : n < W.heap.size := Nat.lt_of_lt_of_le hz h.out.size
theorem frozen_onM {W w1 : World} {b : Nat} (hb : Hid (Below W.heap.size W w1)) (hlt : b < W.heap.size) (h : ∀ o, W.frozen? ⟨b, o, none⟩ = false) : ∀ o, w1.frozen? ⟨b, o, none⟩ = false := fun o => (hb.out.frozen (p := ⟨b, o, none⟩) hlt).trans (h o)
theorem newbox_keptN {wr wT : World} {y0 y1 y2 y3 y4 : Value} {e : TypeId} (h : Hid (Below (wr.alloc (Obj.cells #[y0, y1, y2, y3, y4] e)).heap.size (wr.alloc (Obj.cells #[y0, y1, y2, y3, y4] e)) wT)) :
    (wT.cell? ⟨wr.heap.size, 0, none⟩ = some y0 ∧ wT.cell? ⟨wr.heap.size, 1, none⟩ = some y1 ∧ wT.cell? ⟨wr.heap.size, 2, none⟩ = some y2 ∧ wT.cell? ⟨wr.heap.size, 3, none⟩ = some y3 ∧ wT.cell? ⟨wr.heap.size, 4, none⟩ = some y4) ∧ (∀ o, wT.frozen? ⟨wr.heap.size, o, none⟩ = false) ∧ wr.heap.size < wT.heap.size := by
  have h2 : Owns wT wr.heap.size #[y0, y1, y2, y3, y4] e := (Owns.made wr _ _).below h.out (by simp)
  exact ⟨five_ofQ h2.cell, fun o => h2.frozen o, h2.lt⟩
theorem set5Q {w : World} {B : Nat} {z0 z1 z2 z3 z4 y0 y1 y2 y3 y4 : Value} (h0 : w.cell? ⟨B, 0, none⟩ = some z0) (h1 : w.cell? ⟨B, 1, none⟩ = some z1) (h2 : w.cell? ⟨B, 2, none⟩ = some z2) (h3 : w.cell? ⟨B, 3, none⟩ = some z3) (h4 : w.cell? ⟨B, 4, none⟩ = some z4) :
    (((((w.setCell ⟨B, 0, none⟩ y0).setCell ⟨B, 1, none⟩ y1).setCell ⟨B, 2, none⟩ y2).setCell ⟨B, 3, none⟩ y3).setCell ⟨B, 4, none⟩ y4).cell? ⟨B, 0, none⟩ = some y0 ∧ (((((w.setCell ⟨B, 0, none⟩ y0).setCell ⟨B, 1, none⟩ y1).setCell ⟨B, 2, none⟩ y2).setCell ⟨B, 3, none⟩ y3).setCell ⟨B, 4, none⟩ y4).cell? ⟨B, 1, none⟩ = some y1 ∧ (((((w.setCell ⟨B, 0, none⟩ y0).setCell ⟨B, 1, none⟩ y1).setCell ⟨B, 2, none⟩ y2).setCell ⟨B, 3, none⟩ y3).setCell ⟨B, 4, none⟩ y4).cell? ⟨B, 2, none⟩ = some y2 ∧ (((((w.setCell ⟨B, 0, none⟩ y0).setCell ⟨B, 1, none⟩ y1).setCell ⟨B, 2, none⟩ y2).setCell ⟨B, 3, none⟩ y3).setCell ⟨B, 4, none⟩ y4).cell? ⟨B, 3, none⟩ = some y3 ∧ (((((w.setCell ⟨B, 0, none⟩ y0).setCell ⟨B, 1, none⟩ y1).setCell ⟨B, 2, none⟩ y2).setCell ⟨B, 3, none⟩ y3).setCell ⟨B, 4, none⟩ y4).cell? ⟨B, 4, none⟩ = some y4 := by
  refine ⟨?_, ?_, ?_, ?_, ?_⟩ <;> simp [World.cell?_setCell_other, World.cell?_setCell_same', h0, h1, h2, h3, h4]
theorem keep5Q {w : World} {B : Nat} {y0 y1 y2 y3 y4 : Value} : Keeps (B + 1) w (((((w.setCell ⟨B, 0, none⟩ y0).setCell ⟨B, 1, none⟩ y1).setCell ⟨B, 2, none⟩ y2).setCell ⟨B, 3, none⟩ y3).setCell ⟨B, 4, none⟩ y4) :=
  ⟨by simp [World.setCell], fun k h1 _ => by
    simp only [World.setCell, Array.getElem?_modify]
    repeat rw [if_neg (by omega)]⟩
/-- The box was made last. -/
theorem md_new {w2 wX : World} {lo k : Nat} {X : Vl} {p6 p6' : Option Addr} {n6 n6' : Nat} (hB : Hid (Below w2.heap.size w2 wX)) (hR : Hid (VlR wX lo k X [.int .i64 X.kind, .int .i64 X.num, .string X.text, .slice p6 X.list.length n6, .slice p6' X.names.length n6'])) :
    Hid ((wX.alloc (Obj.cells #[.int .i64 X.kind, .int .i64 X.num, .string X.text, .slice p6 X.list.length n6, .slice p6' X.names.length n6'] 29)).cell? ⟨wX.heap.size, 0, none⟩ = some (.int .i64 X.kind) ∧ (wX.alloc (Obj.cells #[.int .i64 X.kind, .int .i64 X.num, .string X.text, .slice p6 X.list.length n6, .slice p6' X.names.length n6'] 29)).cell? ⟨wX.heap.size, 1, none⟩ = some (.int .i64 X.num) ∧ (wX.alloc (Obj.cells #[.int .i64 X.kind, .int .i64 X.num, .string X.text, .slice p6 X.list.length n6, .slice p6' X.names.length n6'] 29)).cell? ⟨wX.heap.size, 2, none⟩ = some (.string X.text) ∧ (wX.alloc (Obj.cells #[.int .i64 X.kind, .int .i64 X.num, .string X.text, .slice p6 X.list.length n6, .slice p6' X.names.length n6'] 29)).cell? ⟨wX.heap.size, 3, none⟩ = some (.slice p6 X.list.length n6) ∧ (wX.alloc (Obj.cells #[.int .i64 X.kind, .int .i64 X.num, .string X.text, .slice p6 X.list.length n6, .slice p6' X.names.length n6'] 29)).cell? ⟨wX.heap.size, 4, none⟩ = some (.slice p6' X.names.length n6')) ∧ Hid (VlR (wX.alloc (Obj.cells #[.int .i64 X.kind, .int .i64 X.num, .string X.text, .slice p6 X.list.length n6, .slice p6' X.names.length n6'] 29)) 0 k X [.int .i64 X.kind, .int .i64 X.num, .string X.text, .slice p6 X.list.length n6, .slice p6' X.names.length n6']) ∧ Hid (Below w2.heap.size w2 (wX.alloc (Obj.cells #[.int .i64 X.kind, .int .i64 X.num, .string X.text, .slice p6 X.list.length n6, .slice p6' X.names.length n6'] 29))) :=
  ⟨five_ofQ (Owns.made _ _ _).cell, VlR.base (Nat.zero_le _) _ _ _ (VlR.keeps ((Keeps.refl _ _).alloc _) _ _ _ hR.out), hB.out.alloc hB.out.size _⟩
/-- The box was made ahead of the call. -/
theorem md_put {w2 wX : World} {lo k bx : Nat} {X : Vl} {p6 p6' : Option Addr} {n6 n6' : Nat} {z0 z1 z2 z3 z4 : Value} (hB : Hid (Below w2.heap.size w2 wX)) (hR : Hid (VlR wX lo k X [.int .i64 X.kind, .int .i64 X.num, .string X.text, .slice p6 X.list.length n6, .slice p6' X.names.length n6'])) (hb2 : w2.heap.size ≤ bx) (hlo : bx < lo) (h0 : wX.cell? ⟨bx, 0, none⟩ = some z0) (h1 : wX.cell? ⟨bx, 1, none⟩ = some z1) (h2 : wX.cell? ⟨bx, 2, none⟩ = some z2) (h3 : wX.cell? ⟨bx, 3, none⟩ = some z3) (h4 : wX.cell? ⟨bx, 4, none⟩ = some z4) :
    Hid ((((((wX.setCell ⟨bx, 0, none⟩ (.int .i64 X.kind)).setCell ⟨bx, 1, none⟩ (.int .i64 X.num)).setCell ⟨bx, 2, none⟩ (.string X.text)).setCell ⟨bx, 3, none⟩ (.slice p6 X.list.length n6)).setCell ⟨bx, 4, none⟩ (.slice p6' X.names.length n6')).cell? ⟨bx, 0, none⟩ = some (.int .i64 X.kind) ∧ (((((wX.setCell ⟨bx, 0, none⟩ (.int .i64 X.kind)).setCell ⟨bx, 1, none⟩ (.int .i64 X.num)).setCell ⟨bx, 2, none⟩ (.string X.text)).setCell ⟨bx, 3, none⟩ (.slice p6 X.list.length n6)).setCell ⟨bx, 4, none⟩ (.slice p6' X.names.length n6')).cell? ⟨bx, 1, none⟩ = some (.int .i64 X.num) ∧ (((((wX.setCell ⟨bx, 0, none⟩ (.int .i64 X.kind)).setCell ⟨bx, 1, none⟩ (.int .i64 X.num)).setCell ⟨bx, 2, none⟩ (.string X.text)).setCell ⟨bx, 3, none⟩ (.slice p6 X.list.length n6)).setCell ⟨bx, 4, none⟩ (.slice p6' X.names.length n6')).cell? ⟨bx, 2, none⟩ = some (.string X.text) ∧ (((((wX.setCell ⟨bx, 0, none⟩ (.int .i64 X.kind)).setCell ⟨bx, 1, none⟩ (.int .i64 X.num)).setCell ⟨bx, 2, none⟩ (.string X.text)).setCell ⟨bx, 3, none⟩ (.slice p6 X.list.length n6)).setCell ⟨bx, 4, none⟩ (.slice p6' X.names.length n6')).cell? ⟨bx, 3, none⟩ = some (.slice p6 X.list.length n6) ∧ (((((wX.setCell ⟨bx, 0, none⟩ (.int .i64 X.kind)).setCell ⟨bx, 1, none⟩ (.int .i64 X.num)).setCell ⟨bx, 2, none⟩ (.string X.text)).setCell ⟨bx, 3, none⟩ (.slice p6 X.list.length n6)).setCell ⟨bx, 4, none⟩ (.slice p6' X.names.length n6')).cell? ⟨bx, 4, none⟩ = some (.slice p6' X.names.length n6')) ∧ Hid (VlR (((((wX.setCell ⟨bx, 0, none⟩ (.int .i64 X.kind)).setCell ⟨bx, 1, none⟩ (.int .i64 X.num)).setCell ⟨bx, 2, none⟩ (.string X.text)).setCell ⟨bx, 3, none⟩ (.slice p6 X.list.length n6)).setCell ⟨bx, 4, none⟩ (.slice p6' X.names.length n6')) 0 k X [.int .i64 X.kind, .int .i64 X.num, .string X.text, .slice p6 X.list.length n6, .slice p6' X.names.length n6']) ∧ Hid (Below w2.heap.size w2 (((((wX.setCell ⟨bx, 0, none⟩ (.int .i64 X.kind)).setCell ⟨bx, 1, none⟩ (.int .i64 X.num)).setCell ⟨bx, 2, none⟩ (.string X.text)).setCell ⟨bx, 3, none⟩ (.slice p6 X.list.length n6)).setCell ⟨bx, 4, none⟩ (.slice p6' X.names.length n6'))) :=
  ⟨set5Q h0 h1 h2 h3 h4, VlR.base (Nat.zero_le _) _ _ _ (VlR.keeps keep5Q _ _ _ (VlR.base (show bx + 1 ≤ lo from hlo) _ _ _ hR.out)), below5Q hb2 hB.out⟩
theorem toldT {k : Nat} {t : Vl} {vl vn : Value} {W w0 : World} {C : World → Prop} (hC : ∀ W, Below w0.heap.size w0 W → C W) (hB : Hid (Below w0.heap.size w0 W)) (ht : VlR W 0 k t [.int .i64 t.kind, .int .i64 t.num, .string t.text, vl, vn]) :
    Calls Try.prog 11 #[.agg #[.int .i64 t.kind, .int .i64 t.num, .string t.text, vl, vn]] W fun e w1 => ∃ (p : Option Addr) (n : Nat) (p' : Option Addr) (n' : Nat), e = .returned (.agg #[.int .i64 t.kind, .int .i64 t.num, .string t.text, .slice p t.list.length n, .slice p' t.names.length n']) ∧ C w1 ∧ Hid (VlR w1 0 k t [.int .i64 t.kind, .int .i64 t.num, .string t.text, .slice p t.list.length n, .slice p' t.names.length n']) ∧ Hid (Below w0.heap.size w0 w1) ∧ Hid (Below W.heap.size W w1) := by
  refine ((toO_all k).1 t _ _ _ ht).mono ?_
  rintro e w1 ⟨vl1, vn1, rfl, hO, hb⟩
  obtain ⟨p, n, p', n', hq⟩ := hO.cells
  simp only [List.cons.injEq, true_and, and_true] at hq
  obtain ⟨rfl, rfl⟩ := hq
  have h1 : Below w0.heap.size w0 w1 := hB.out.trans (hb.mono hB.out.size)
  exact ⟨p, n, p', n', rfl, hC _ h1, VlR.base (Nat.zero_le _) _ _ _ (VlO.read _ _ _ _ _ hO), h1, hb⟩
theorem keptM {f : Nat} {args : Array Value} {W w0 : World} {e0 : Ending} {C : World → Prop} (hC : ∀ W, Below w0.heap.size w0 W → C W) (hB : Hid (Below w0.heap.size w0 W)) (h : Calls Try.prog f args W fun e w' => e = e0 ∧ Below W.heap.size W w') :
    Calls Try.prog f args W fun e w' => e = e0 ∧ C w' ∧ Hid (Below w0.heap.size w0 w') := by
  refine h.mono ?_
  rintro e w' ⟨rfl, hb⟩
  have h1 : Below w0.heap.size w0 w' := hB.out.trans (hb.mono hB.out.size)
  exact ⟨rfl, hC _ h1, h1⟩
theorem markM1 (f lo hi : Nat) (t : Vl) (x0 x1 x2 vl vn : Value) (w : World) (ht : VlO w (f + 1) lo hi t [x0, x1, x2, vl, vn]) (hh : hi ≤ w.heap.size) (hk : cntS (cntE f) t.list + t.names.length ≤ 9999999) :
    Calls Try.prog 14 #[.agg #[x0, x1, x2, vl, vn], .int .i64 1] w fun e w' => e = .returned (.int .i64 ((1 + cntS (cntE f) t.list + t.names.length : Nat) : Int)) ∧ ∃ l' n', l'.length = t.list.length ∧ n'.length = t.names.length ∧ cntS (cntE f) l' = cntS (cntE f) t.list ∧
      MkL (MkE f) (cntE f) 1 l' ∧ MkN (1 + cntS (cntE f) t.list) n' ∧ VlO w' (f + 1) lo hi ⟨t.kind, t.num, t.text, l', n'⟩ [x0, x1, x2, vl, vn] ∧ TurnsP (FootV lo hi) w w' :=
  markValue_any f lo hi 1 t x0 x1 x2 vl vn w ht hh (Nat.le_refl _) (by omega) (markL_all f)
theorem heldM1 (f r : Nat) (t : Vl) (x0 x1 x2 vl vn : Value) (w : World) (ht : VlR w 0 (f + 1) t [x0, x1, x2, vl, vn]) (hM : MkL (MkE f) (cntE f) 1 t.list) (hN : MkN (1 + cntS (cntE f) t.list) t.names) (hk : cntS (cntE f) t.list + t.names.length ≤ 9999999) (hr : 1 + cntS (cntE f) t.list + t.names.length = r) :
    Calls Try.prog 15 #[.agg #[x0, x1, x2, vl, vn], .int .i64 1] w fun e w' => e = .returned (.int .i64 (r : Int)) ∧ Below w.heap.size w w' := by
  subst hr
  exact heldValue_any f 1 t x0 x1 x2 vl vn w ht hM hN (Nat.le_refl _) (by omega)
theorem twoM (w : World) (o o' : Obj) : Below w.heap.size w ((w.alloc o).alloc o') := ((Below.refl _ _).alloc (Nat.le_refl _) _).alloc (by simp) _
theorem dropNot {p : Prop} (h : p) : p := h

set_option maxHeartbeats 16000000 in
set_option maxRecDepth 4000 in
theorem law_walk (k : Nat) (hk5 : 5 ≤ k) (t u : Vl) (vl vn vl' vn' : Value) (w : World) (ht : VlR w 0 (k + 2) t [.int .i64 t.kind, .int .i64 t.num, .string t.text, vl, vn]) (hu : VlR w 0 (k + 2) u [.int .i64 u.kind, .int .i64 u.num, .string u.text, vl', vn']) :
    Calls Try.prog 6 #[.agg #[.int .i64 t.kind, .int .i64 t.num, .string t.text, vl, vn], .agg #[.int .i64 u.kind, .int .i64 u.num, .string u.text, vl', vn']] w fun e w' => e = .returned (.bool true) ∧ Below w.heap.size w w' := by
  obtain ⟨a, cap, a', cap', hv⟩ := ht.cells
  simp only [List.cons.injEq, true_and, and_true] at hv
  obtain ⟨rfl, rfl⟩ := hv
  obtain ⟨m, mcap, m', mcap', hv⟩ := hu.cells
  simp only [List.cons.injEq, true_and, and_true] at hv
  obtain ⟨rfl, rfl⟩ := hv
  have HR : Hid (∀ W, Keeps 0 w W → VlR W 0 (k + 2) t [.int .i64 t.kind, .int .i64 t.num, .string t.text, .slice a t.list.length cap, .slice a' t.names.length cap']) := fun W h => VlR.keeps h _ _ _ ht
  have HU : Hid (∀ W, Keeps 0 w W → VlR W 0 (k + 2) u [.int .i64 u.kind, .int .i64 u.num, .string u.text, .slice m u.list.length mcap, .slice m' u.names.length mcap']) := fun W h => VlR.keeps h _ _ _ hu
  clear ht hu
  go_enter Try.func6, Try.ntmps6
  go_wp2_with fail
  refine ((szC_all (k + 1)).1 t _ _ _ _ (HR.out _ (((Keeps.refl _ _).alloc _).alloc _)) (by omega) (by omega)).mono ?_
  rintro e w1 ⟨r1, rfl, hr1, hr2, hr3, hb1⟩
  have HB1 : Hid (Below w.heap.size w w1) := (twoM _ _ _).trans (hb1.mono (by simp <;> omega))
  have oA : Owns w1 w.heap.size #[.int .i64 t.kind, .int .i64 t.num, .string t.text, .slice a t.list.length cap, .slice a' t.names.length cap'] 25 := ((Owns.made w _ _).below ((Below.refl _ _).alloc (Nat.le_refl _) _) (by simp)).below hb1 (by simp <;> omega)
  have oB : Owns w1 (w.heap.size + 1) #[.int .i64 u.kind, .int .i64 u.num, .string u.text, .slice m u.list.length mcap, .slice m' u.names.length mcap'] 25 := by
    have h := Owns.made (w.alloc (.cells #[.int .i64 t.kind, .int .i64 t.num, .string t.text, .slice a t.list.length cap, .slice a' t.names.length cap'] 25)) #[.int .i64 u.kind, .int .i64 u.num, .string u.text, .slice m u.list.length mcap, .slice m' u.names.length mcap'] 25
    rw [show (w.alloc (.cells #[.int .i64 t.kind, .int .i64 t.num, .string t.text, .slice a t.list.length cap, .slice a' t.names.length cap'] 25)).heap.size = w.heap.size + 1 by simp] at h
    exact h.below hb1 (by simp <;> omega)
  have HAB : Hid (∀ W, Keeps 0 w1 W → (W.cell? ⟨w.heap.size, 0, none⟩ = some (.int .i64 t.kind) ∧ W.cell? ⟨w.heap.size, 1, none⟩ = some (.int .i64 t.num) ∧ W.cell? ⟨w.heap.size, 2, none⟩ = some (.string t.text) ∧ W.cell? ⟨w.heap.size, 3, none⟩ = some (.slice a t.list.length cap) ∧ W.cell? ⟨w.heap.size, 4, none⟩ = some (.slice a' t.names.length cap')) ∧ (W.cell? ⟨w.heap.size + 1, 0, none⟩ = some (.int .i64 u.kind) ∧ W.cell? ⟨w.heap.size + 1, 1, none⟩ = some (.int .i64 u.num) ∧ W.cell? ⟨w.heap.size + 1, 2, none⟩ = some (.string u.text) ∧ W.cell? ⟨w.heap.size + 1, 3, none⟩ = some (.slice m u.list.length mcap) ∧ W.cell? ⟨w.heap.size + 1, 4, none⟩ = some (.slice m' u.names.length mcap'))) := fun W h => by
    have q1 := five_ofQ oA.cell
    have q2 := five_ofQ oB.cell
    exact ⟨⟨h.cell (Nat.zero_le _) q1.1, h.cell (Nat.zero_le _) q1.2.1, h.cell (Nat.zero_le _) q1.2.2.1, h.cell (Nat.zero_le _) q1.2.2.2.1, h.cell (Nat.zero_le _) q1.2.2.2.2⟩, ⟨h.cell (Nat.zero_le _) q2.1, h.cell (Nat.zero_le _) q2.2.1, h.cell (Nat.zero_le _) q2.2.2.1, h.cell (Nat.zero_le _) q2.2.2.2.1, h.cell (Nat.zero_le _) q2.2.2.2.2⟩⟩
  have hzB := oB.lt
  clear hb1 oA oB
  by_cases hneg : r1 < 0
  · go_wp2_with fail
    go_ret
    exact ⟨rfl, HB1.out⟩
  have HCT : Hid (cntS (cntE (k + 1)) t.list + t.names.length ≤ 3145728) := by have := hr3 (by omega); show _ ≤ _; omega
  clear hr3
  obtain ⟨_, ⟨d0, d1, d2, d3, d4⟩⟩ := HAB.out _ (Keeps.refl _ _)
  go_wp2_with fail
  refine ((szC_all (k + 1)).1 u _ _ _ _ (HU.out _ (Keeps.of_below HB1.out (Nat.le_refl _) _)) (by omega) (by omega)).mono ?_
  rintro e w2 ⟨r2, rfl, hr4, hr5, hr6, hb2⟩
  have HB2 : Hid (Below w.heap.size w w2) := HB1.out.trans (hb2.mono HB1.out.size)
  have HK2 : Hid (Keeps 0 w1 w2) := Keeps.of_below hb2 (Nat.le_refl _) 0
  have hz2 : w.heap.size + 1 < w2.heap.size := Nat.lt_of_lt_of_le hzB hb2.size
  clear hb2 d0 d1 d2 d3 d4 hzB
  by_cases hneg2 : r2 < 0
  · go_wp2_with fail
    go_ret
    exact ⟨rfl, HB2.out⟩
  have HCU : Hid (cntS (cntE (k + 1)) u.list + u.names.length ≤ 3145728) := by have := hr6 (by omega); show _ ≤ _; omega
  have HKww2 : Hid (Keeps 0 w w2) := Keeps.of_below HB2.out (Nat.le_refl _) 0
  have HABw2 : Hid (∀ W, Below w2.heap.size w2 W → (W.cell? ⟨w.heap.size, 0, none⟩ = some (.int .i64 t.kind) ∧ W.cell? ⟨w.heap.size, 1, none⟩ = some (.int .i64 t.num) ∧ W.cell? ⟨w.heap.size, 2, none⟩ = some (.string t.text) ∧ W.cell? ⟨w.heap.size, 3, none⟩ = some (.slice a t.list.length cap) ∧ W.cell? ⟨w.heap.size, 4, none⟩ = some (.slice a' t.names.length cap')) ∧ (W.cell? ⟨w.heap.size + 1, 0, none⟩ = some (.int .i64 u.kind) ∧ W.cell? ⟨w.heap.size + 1, 1, none⟩ = some (.int .i64 u.num) ∧ W.cell? ⟨w.heap.size + 1, 2, none⟩ = some (.string u.text) ∧ W.cell? ⟨w.heap.size + 1, 3, none⟩ = some (.slice m u.list.length mcap) ∧ W.cell? ⟨w.heap.size + 1, 4, none⟩ = some (.slice m' u.names.length mcap'))) := fun W h => HAB.out W (HK2.out.trans (Keeps.of_below h (Nat.le_refl _) 0))
  clear hr6 HAB HK2 HB1
  obtain ⟨X, hX⟩ : ∃ X, mdG k t u = X := ⟨_, rfl⟩
  have HCX : Hid (cntS (cntE (k + 1)) X.list + X.names.length ≤ 9999999) := by show _ ≤ _; rw [← hX]; exact cnt_mdG hk5
  have HTC : Hid (∀ (W : World) (pA : Option Addr) (nA : Nat) (pA' : Option Addr) (nA' : Nat) (pB : Option Addr) (nB : Nat) (pB' : Option Addr) (nB' : Nat), Hid (VlR W 0 (k + 2) t [.int .i64 t.kind, .int .i64 t.num, .string t.text, .slice pA t.list.length nA, .slice pA' t.names.length nA']) → Hid (VlR W 0 (k + 2) u [.int .i64 u.kind, .int .i64 u.num, .string u.text, .slice pB u.list.length nB, .slice pB' u.names.length nB']) → Hid (Below w2.heap.size w2 W) → Calls Try.prog 25 #[.agg #[.int .i64 t.kind, .int .i64 t.num, .string t.text, .slice pA t.list.length nA, .slice pA' t.names.length nA'], .agg #[.int .i64 u.kind, .int .i64 u.num, .string u.text, .slice pB u.list.length nB, .slice pB' u.names.length nB']] W fun e w1 => ∃ (p6 : Option Addr) (n6 : Nat) (p6' : Option Addr) (n6' : Nat), e = .returned (.agg #[.int .i64 X.kind, .int .i64 X.num, .string X.text, .slice p6 X.list.length n6, .slice p6' X.names.length n6']) ∧ ((w1.cell? ⟨w.heap.size, 0, none⟩ = some (.int .i64 t.kind) ∧ w1.cell? ⟨w.heap.size, 1, none⟩ = some (.int .i64 t.num) ∧ w1.cell? ⟨w.heap.size, 2, none⟩ = some (.string t.text) ∧ w1.cell? ⟨w.heap.size, 3, none⟩ = some (.slice a t.list.length cap) ∧ w1.cell? ⟨w.heap.size, 4, none⟩ = some (.slice a' t.names.length cap')) ∧ (w1.cell? ⟨w.heap.size + 1, 0, none⟩ = some (.int .i64 u.kind) ∧ w1.cell? ⟨w.heap.size + 1, 1, none⟩ = some (.int .i64 u.num) ∧ w1.cell? ⟨w.heap.size + 1, 2, none⟩ = some (.string u.text) ∧ w1.cell? ⟨w.heap.size + 1, 3, none⟩ = some (.slice m u.list.length mcap) ∧ w1.cell? ⟨w.heap.size + 1, 4, none⟩ = some (.slice m' u.names.length mcap'))) ∧ Hid (VlR w1 W.heap.size (k + 2) X [.int .i64 X.kind, .int .i64 X.num, .string X.text, .slice p6 X.list.length n6, .slice p6' X.names.length n6']) ∧ Hid (Below w2.heap.size w2 w1) ∧ Hid (Below W.heap.size W w1)) := fun W pA nA pA' nA' pB nB pB' nB' hA hB hW => by
    have hc := specMergeDo_any k hk5 t u _ _ _ _ W hA.out hB.out
    unfold SpecGO at hc
    rw [hX] at hc
    refine hc.mono ?_
    rintro e w1 ⟨vl1, vn1, rfl, hR1, hb1⟩
    obtain ⟨p6, n6, p6', n6', hq⟩ := hR1.cells
    simp only [List.cons.injEq, true_and, and_true] at hq
    obtain ⟨rfl, rfl⟩ := hq
    have h1 : Below w2.heap.size w2 w1 := hW.out.trans (hb1.mono hW.out.size)
    exact ⟨p6, n6, p6', n6', rfl, HABw2.out _ h1, hR1, h1, hb1⟩
  have HIMP : Hid (∀ (W : World) (pA : Option Addr) (nA : Nat) (pA' : Option Addr) (nA' : Nat) (pB : Option Addr) (nB : Nat) (pB' : Option Addr) (nB' : Nat), Hid (VlR W 0 (k + 2) t [.int .i64 t.kind, .int .i64 t.num, .string t.text, .slice pA t.list.length nA, .slice pA' t.names.length nA']) → Hid (VlR W 0 (k + 2) u [.int .i64 u.kind, .int .i64 u.num, .string u.text, .slice pB u.list.length nB, .slice pB' u.names.length nB']) → Calls Try.prog 26 #[.agg #[.int .i64 t.kind, .int .i64 t.num, .string t.text, .slice pA t.list.length nA, .slice pA' t.names.length nA'], .agg #[.int .i64 u.kind, .int .i64 u.num, .string u.text, .slice pB u.list.length nB, .slice pB' u.names.length nB']] W fun e w1 => ∃ (p6 : Option Addr) (n6 : Nat) (p6' : Option Addr) (n6' : Nat), e = .returned (.agg #[.int .i64 X.kind, .int .i64 X.num, .string X.text, .slice p6 X.list.length n6, .slice p6' X.names.length n6']) ∧ Hid (VlO w1 (k + 2) W.heap.size w1.heap.size X [.int .i64 X.kind, .int .i64 X.num, .string X.text, .slice p6 X.list.length n6, .slice p6' X.names.length n6']) ∧ Hid (Below W.heap.size W w1)) := fun W pA nA pA' nA' pB nB pB' nB' hA hB => by
    have hc := implMergeDo_any k hk5 t u _ _ _ _ W hA.out hB.out
    unfold ImplGO at hc
    rw [hX] at hc
    refine hc.mono ?_
    rintro e w1 ⟨vl1, vn1, rfl, hR1, hb1⟩
    obtain ⟨p6, n6, p6', n6', hq⟩ := hR1.cells
    simp only [List.cons.injEq, true_and, and_true] at hq
    obtain ⟨rfl, rfl⟩ := hq
    exact ⟨p6, n6, p6', n6', rfl, hR1, hb1⟩
  clear hX
  have HTAw2 : Hid (∀ W, Hid (Below w2.heap.size w2 W) → Calls Try.prog 11 #[.agg #[.int .i64 t.kind, .int .i64 t.num, .string t.text, .slice a t.list.length cap, .slice a' t.names.length cap']] W fun e w1 => ∃ (p : Option Addr) (n : Nat) (p' : Option Addr) (n' : Nat), e = .returned (.agg #[.int .i64 t.kind, .int .i64 t.num, .string t.text, .slice p t.list.length n, .slice p' t.names.length n']) ∧ ((w1.cell? ⟨w.heap.size, 0, none⟩ = some (.int .i64 t.kind) ∧ w1.cell? ⟨w.heap.size, 1, none⟩ = some (.int .i64 t.num) ∧ w1.cell? ⟨w.heap.size, 2, none⟩ = some (.string t.text) ∧ w1.cell? ⟨w.heap.size, 3, none⟩ = some (.slice a t.list.length cap) ∧ w1.cell? ⟨w.heap.size, 4, none⟩ = some (.slice a' t.names.length cap')) ∧ (w1.cell? ⟨w.heap.size + 1, 0, none⟩ = some (.int .i64 u.kind) ∧ w1.cell? ⟨w.heap.size + 1, 1, none⟩ = some (.int .i64 u.num) ∧ w1.cell? ⟨w.heap.size + 1, 2, none⟩ = some (.string u.text) ∧ w1.cell? ⟨w.heap.size + 1, 3, none⟩ = some (.slice m u.list.length mcap) ∧ w1.cell? ⟨w.heap.size + 1, 4, none⟩ = some (.slice m' u.names.length mcap'))) ∧ Hid (VlR w1 0 (k + 2) t [.int .i64 t.kind, .int .i64 t.num, .string t.text, .slice p t.list.length n, .slice p' t.names.length n']) ∧ Hid (Below w2.heap.size w2 w1) ∧ Hid (Below W.heap.size W w1)) := fun W hB => toldT (w0 := w2) (C := fun W => (W.cell? ⟨w.heap.size, 0, none⟩ = some (.int .i64 t.kind) ∧ W.cell? ⟨w.heap.size, 1, none⟩ = some (.int .i64 t.num) ∧ W.cell? ⟨w.heap.size, 2, none⟩ = some (.string t.text) ∧ W.cell? ⟨w.heap.size, 3, none⟩ = some (.slice a t.list.length cap) ∧ W.cell? ⟨w.heap.size, 4, none⟩ = some (.slice a' t.names.length cap')) ∧ (W.cell? ⟨w.heap.size + 1, 0, none⟩ = some (.int .i64 u.kind) ∧ W.cell? ⟨w.heap.size + 1, 1, none⟩ = some (.int .i64 u.num) ∧ W.cell? ⟨w.heap.size + 1, 2, none⟩ = some (.string u.text) ∧ W.cell? ⟨w.heap.size + 1, 3, none⟩ = some (.slice m u.list.length mcap) ∧ W.cell? ⟨w.heap.size + 1, 4, none⟩ = some (.slice m' u.names.length mcap'))) HABw2.out hB (HR.out W (HKww2.out.trans (Keeps.of_below hB.out (Nat.le_refl _) 0)))
  have HTBw2 : Hid (∀ W, Hid (Below w2.heap.size w2 W) → Calls Try.prog 11 #[.agg #[.int .i64 u.kind, .int .i64 u.num, .string u.text, .slice m u.list.length mcap, .slice m' u.names.length mcap']] W fun e w1 => ∃ (p : Option Addr) (n : Nat) (p' : Option Addr) (n' : Nat), e = .returned (.agg #[.int .i64 u.kind, .int .i64 u.num, .string u.text, .slice p u.list.length n, .slice p' u.names.length n']) ∧ ((w1.cell? ⟨w.heap.size, 0, none⟩ = some (.int .i64 t.kind) ∧ w1.cell? ⟨w.heap.size, 1, none⟩ = some (.int .i64 t.num) ∧ w1.cell? ⟨w.heap.size, 2, none⟩ = some (.string t.text) ∧ w1.cell? ⟨w.heap.size, 3, none⟩ = some (.slice a t.list.length cap) ∧ w1.cell? ⟨w.heap.size, 4, none⟩ = some (.slice a' t.names.length cap')) ∧ (w1.cell? ⟨w.heap.size + 1, 0, none⟩ = some (.int .i64 u.kind) ∧ w1.cell? ⟨w.heap.size + 1, 1, none⟩ = some (.int .i64 u.num) ∧ w1.cell? ⟨w.heap.size + 1, 2, none⟩ = some (.string u.text) ∧ w1.cell? ⟨w.heap.size + 1, 3, none⟩ = some (.slice m u.list.length mcap) ∧ w1.cell? ⟨w.heap.size + 1, 4, none⟩ = some (.slice m' u.names.length mcap'))) ∧ Hid (VlR w1 0 (k + 2) u [.int .i64 u.kind, .int .i64 u.num, .string u.text, .slice p u.list.length n, .slice p' u.names.length n']) ∧ Hid (Below w2.heap.size w2 w1) ∧ Hid (Below W.heap.size W w1)) := fun W hB => toldT (w0 := w2) (C := fun W => (W.cell? ⟨w.heap.size, 0, none⟩ = some (.int .i64 t.kind) ∧ W.cell? ⟨w.heap.size, 1, none⟩ = some (.int .i64 t.num) ∧ W.cell? ⟨w.heap.size, 2, none⟩ = some (.string t.text) ∧ W.cell? ⟨w.heap.size, 3, none⟩ = some (.slice a t.list.length cap) ∧ W.cell? ⟨w.heap.size, 4, none⟩ = some (.slice a' t.names.length cap')) ∧ (W.cell? ⟨w.heap.size + 1, 0, none⟩ = some (.int .i64 u.kind) ∧ W.cell? ⟨w.heap.size + 1, 1, none⟩ = some (.int .i64 u.num) ∧ W.cell? ⟨w.heap.size + 1, 2, none⟩ = some (.string u.text) ∧ W.cell? ⟨w.heap.size + 1, 3, none⟩ = some (.slice m u.list.length mcap) ∧ W.cell? ⟨w.heap.size + 1, 4, none⟩ = some (.slice m' u.names.length mcap'))) HABw2.out hB (HU.out W (HKww2.out.trans (Keeps.of_below hB.out (Nat.le_refl _) 0)))
  have HBd : Hid (Below w2.heap.size w2 w2.drew) := (Below.refl _ w2).drew
  have HBz : Hid (Below w2.heap.size w2 (w2.alloc (Obj.cells #[.int .i64 0, .int .i64 0, .string ⟨#[]⟩, .slice none 0 0, .slice none 0 0] 29)).drew) := ((Below.refl _ w2).alloc (Nat.le_refl _) _).drew
  obtain ⟨⟨c0, c1, c2, c3, c4⟩, ⟨d0, d1, d2, d3, d4⟩⟩ := HABw2.out w2 (Below.refl _ _)
  go_upto_region 8 with fail
  go_cut [6] from 14 (fun v wx => ∃ (bx : Nat) (p6 : Option Addr) (n6 : Nat) (p6' : Option Addr) (n6' : Nat), v = .pointer (some ⟨bx, 0, none⟩) ∧ Hid (wx.cell? ⟨bx, 0, none⟩ = some (.int .i64 X.kind) ∧ wx.cell? ⟨bx, 1, none⟩ = some (.int .i64 X.num) ∧ wx.cell? ⟨bx, 2, none⟩ = some (.string X.text) ∧ wx.cell? ⟨bx, 3, none⟩ = some (.slice p6 X.list.length n6) ∧ wx.cell? ⟨bx, 4, none⟩ = some (.slice p6' X.names.length n6')) ∧ Hid (VlR wx 0 (k + 2) X [.int .i64 X.kind, .int .i64 X.num, .string X.text, .slice p6 X.list.length n6, .slice p6' X.names.length n6']) ∧ Hid (Below w2.heap.size w2 wx))
  case first =>
    go_region_held3 (fun w' => (w'.cell? ⟨w.heap.size, 0, none⟩ = some (.int .i64 t.kind) ∧ w'.cell? ⟨w.heap.size, 1, none⟩ = some (.int .i64 t.num) ∧ w'.cell? ⟨w.heap.size, 2, none⟩ = some (.string t.text) ∧ w'.cell? ⟨w.heap.size, 3, none⟩ = some (.slice a t.list.length cap) ∧ w'.cell? ⟨w.heap.size, 4, none⟩ = some (.slice a' t.names.length cap')) ∧ (w'.cell? ⟨w.heap.size + 1, 0, none⟩ = some (.int .i64 u.kind) ∧ w'.cell? ⟨w.heap.size + 1, 1, none⟩ = some (.int .i64 u.num) ∧ w'.cell? ⟨w.heap.size + 1, 2, none⟩ = some (.string u.text) ∧ w'.cell? ⟨w.heap.size + 1, 3, none⟩ = some (.slice m u.list.length mcap) ∧ w'.cell? ⟨w.heap.size + 1, 4, none⟩ = some (.slice m' u.names.length mcap'))) (first | with_reducible exact ⟨⟨c0, c1, c2, c3, c4⟩, ⟨d0, d1, d2, d3, d4⟩⟩ | with_reducible exact ⟨⟨cell_alS c0 _, cell_alS c1 _, cell_alS c2 _, cell_alS c3 _, cell_alS c4 _⟩, ⟨cell_alS d0 _, cell_alS d1 _, cell_alS d2 _, cell_alS d3 _, cell_alS d4 _⟩⟩ | with_reducible exact ⟨⟨cell_drS c0, cell_drS c1, cell_drS c2, cell_drS c3, cell_drS c4⟩, ⟨cell_drS d0, cell_drS d1, cell_drS d2, cell_drS d3, cell_drS d4⟩⟩ | with_reducible exact ⟨⟨cell_drS (cell_alS c0 _), cell_drS (cell_alS c1 _), cell_drS (cell_alS c2 _), cell_drS (cell_alS c3 _), cell_drS (cell_alS c4 _)⟩, ⟨cell_drS (cell_alS d0 _), cell_drS (cell_alS d1 _), cell_drS (cell_alS d2 _), cell_drS (cell_alS d3 _), cell_drS (cell_alS d4 _)⟩⟩ | with_reducible exact ⟨⟨far5Q (by omega) c0, far5Q (by omega) c1, far5Q (by omega) c2, far5Q (by omega) c3, far5Q (by omega) c4⟩, ⟨far5Q (by omega) d0, far5Q (by omega) d1, far5Q (by omega) d2, far5Q (by omega) d3, far5Q (by omega) d4⟩⟩ | go_keep) (first | (go_at_call 11; with_reducible refine (Hid.out HTAw2 _ (by first | assumption | exact belAl (by assumption))).mono ?_; (try clear c0 c1 c2 c3 c4 d0 d1 d2 d3 d4); rintro e wA ⟨pA, nA, pA', nA', rfl, ⟨⟨c0, c1, c2, c3, c4⟩, ⟨d0, d1, d2, d3, d4⟩⟩, HRA, HBA, HBn⟩; have hzA : w.heap.size + 1 < wA.heap.size := szM hz2 HBA; (try (with_reducible replace z0 := cell_on HBn.out z0; replace z1 := cell_on HBn.out z1; replace z2 := cell_on HBn.out z2; replace z3 := cell_on HBn.out z3; replace z4 := cell_on HBn.out z4; replace zf := frozen_onM HBn zn zf; replace zn := Nat.lt_of_lt_of_le zn HBn.out.size)); (try (with_reducible have HZ := newbox_keptQ HBn; obtain ⟨⟨z0, z1, z2, z3, z4⟩, zf, zn⟩ := HZ)); (try (with_reducible have HZ := newbox_keptN HBn; obtain ⟨⟨z0, z1, z2, z3, z4⟩, zf, zn⟩ := HZ)); (try (with_reducible replace HRB := keepR HRB HBn)); (try (with_reducible replace HRB := keepRa HRB HBn))) | (go_at_call 11; with_reducible refine (Hid.out HTBw2 _ (by first | assumption | exact belAl (by assumption))).mono ?_; (try clear c0 c1 c2 c3 c4 d0 d1 d2 d3 d4); rintro e wB ⟨pB, nB, pB', nB', rfl, ⟨⟨c0, c1, c2, c3, c4⟩, ⟨d0, d1, d2, d3, d4⟩⟩, HRB, HBB, HBn⟩; have hzB : w.heap.size + 1 < wB.heap.size := szM hz2 HBB; (try (with_reducible replace z0 := cell_on HBn.out z0; replace z1 := cell_on HBn.out z1; replace z2 := cell_on HBn.out z2; replace z3 := cell_on HBn.out z3; replace z4 := cell_on HBn.out z4; replace zf := frozen_onM HBn zn zf; replace zn := Nat.lt_of_lt_of_le zn HBn.out.size)); (try (with_reducible have HZ := newbox_keptQ HBn; obtain ⟨⟨z0, z1, z2, z3, z4⟩, zf, zn⟩ := HZ)); (try (with_reducible have HZ := newbox_keptN HBn; obtain ⟨⟨z0, z1, z2, z3, z4⟩, zf, zn⟩ := HZ)); (try (with_reducible replace HRA := keepR HRA HBn)); (try (with_reducible replace HRA := keepRa HRA HBn))) | (go_at_call 25; with_reducible refine (Hid.out HTC _ _ _ _ _ _ _ _ _ (by first | exact HRA | exact keepAl HRA) (by first | exact HRB | exact keepAl HRB) (by first | assumption | exact belAl (by assumption))).mono ?_; (try clear c0 c1 c2 c3 c4 d0 d1 d2 d3 d4); (try have zw := zn); rintro e wX ⟨p6, n6, p6', n6', rfl, ⟨⟨c0, c1, c2, c3, c4⟩, ⟨d0, d1, d2, d3, d4⟩⟩, HRX, HBX, HBn⟩; have hzX : w.heap.size + 1 < wX.heap.size := szM hz2 HBX; (try (with_reducible replace z0 := cell_on HBn.out z0; replace z1 := cell_on HBn.out z1; replace z2 := cell_on HBn.out z2; replace z3 := cell_on HBn.out z3; replace z4 := cell_on HBn.out z4; replace zf := frozen_onM HBn zn zf; replace zn := Nat.lt_of_lt_of_le zn HBn.out.size)); (try (with_reducible have HZ := newbox_keptQ HBn; obtain ⟨⟨z0, z1, z2, z3, z4⟩, zf, zn⟩ := HZ)); (try (with_reducible have HZ := newbox_keptN HBn; obtain ⟨⟨z0, z1, z2, z3, z4⟩, zf, zn⟩ := HZ))))
    all_goals
      go_wp2_with fail
      go_meet
      case rel => first | with_reducible exact ⟨_, _, _, _, _, rfl, md_new HBX HRX⟩ | with_reducible exact ⟨_, _, _, _, _, rfl, md_put HBX HRX (by first | exact Nat.le_refl _ | exact HBA.out.size | exact HBB.out.size) (by first | exact zw | simp) z0 z1 z2 z3 z4⟩
  case rest =>
    obtain ⟨bx, p6, n6, p6', n6', rfl, HX6, HR6, HBc⟩ := hcut
    rename World => wC
    have HKwC : Hid (Keeps 0 w wC) := HKww2.out.trans (Keeps.of_below HBc.out (Nat.le_refl _) 0)
    have HBwC : Hid (Below w.heap.size w wC) := HB2.out.trans (HBc.out.mono HB2.out.size)
    have HABC : Hid (∀ W, Keeps 0 wC W → (W.cell? ⟨w.heap.size, 0, none⟩ = some (.int .i64 t.kind) ∧ W.cell? ⟨w.heap.size, 1, none⟩ = some (.int .i64 t.num) ∧ W.cell? ⟨w.heap.size, 2, none⟩ = some (.string t.text) ∧ W.cell? ⟨w.heap.size, 3, none⟩ = some (.slice a t.list.length cap) ∧ W.cell? ⟨w.heap.size, 4, none⟩ = some (.slice a' t.names.length cap')) ∧ (W.cell? ⟨w.heap.size + 1, 0, none⟩ = some (.int .i64 u.kind) ∧ W.cell? ⟨w.heap.size + 1, 1, none⟩ = some (.int .i64 u.num) ∧ W.cell? ⟨w.heap.size + 1, 2, none⟩ = some (.string u.text) ∧ W.cell? ⟨w.heap.size + 1, 3, none⟩ = some (.slice m u.list.length mcap) ∧ W.cell? ⟨w.heap.size + 1, 4, none⟩ = some (.slice m' u.names.length mcap'))) := fun W h => by
      have q := HABw2.out wC HBc.out
      exact ⟨⟨h.cell (Nat.zero_le _) q.1.1, h.cell (Nat.zero_le _) q.1.2.1, h.cell (Nat.zero_le _) q.1.2.2.1, h.cell (Nat.zero_le _) q.1.2.2.2.1, h.cell (Nat.zero_le _) q.1.2.2.2.2⟩, ⟨h.cell (Nat.zero_le _) q.2.1, h.cell (Nat.zero_le _) q.2.2.1, h.cell (Nat.zero_le _) q.2.2.2.1, h.cell (Nat.zero_le _) q.2.2.2.2.1, h.cell (Nat.zero_le _) q.2.2.2.2.2⟩⟩
    have HX6C : Hid (∀ W, Keeps 0 wC W → W.cell? ⟨bx, 0, none⟩ = some (.int .i64 X.kind) ∧ W.cell? ⟨bx, 1, none⟩ = some (.int .i64 X.num) ∧ W.cell? ⟨bx, 2, none⟩ = some (.string X.text) ∧ W.cell? ⟨bx, 3, none⟩ = some (.slice p6 X.list.length n6) ∧ W.cell? ⟨bx, 4, none⟩ = some (.slice p6' X.names.length n6')) := fun W h => by
      have q := HX6.out
      exact ⟨h.cell (Nat.zero_le _) q.1, h.cell (Nat.zero_le _) q.2.1, h.cell (Nat.zero_le _) q.2.2.1, h.cell (Nat.zero_le _) q.2.2.2.1, h.cell (Nat.zero_le _) q.2.2.2.2⟩
    have HR6C : Hid (∀ W, Keeps 0 wC W → VlR W 0 (k + 2) X [.int .i64 X.kind, .int .i64 X.num, .string X.text, .slice p6 X.list.length n6, .slice p6' X.names.length n6']) := fun W h => VlR.keeps h _ _ _ HR6.out
    clear c0 c1 c2 c3 c4 d0 d1 d2 d3 d4 HBd HBz HTAw2 HTBw2 HTC HABw2 HX6 HR6 HBc HKww2 HB2 hz2
    obtain ⟨⟨c0, c1, c2, c3, c4⟩, _⟩ := HABC.out wC (Keeps.refl _ _)
    go_wp2_with fail
    refine ((toO_all (k + 2)).1 t _ _ _ (HR.out _ HKwC.out)).mono ?_
    rintro e wD ⟨vl7, vn7, rfl, hO7, hbD⟩
    obtain ⟨p7, n7, p7', n7', hq⟩ := hO7.cells
    simp only [List.cons.injEq, true_and, and_true] at hq
    obtain ⟨rfl, rfl⟩ := hq
    obtain ⟨W7, hW7⟩ : ∃ W, W = wD.alloc (Obj.cells #[.int .i64 t.kind, .int .i64 t.num, .string t.text, .slice p7 t.list.length n7, .slice p7' t.names.length n7'] 29) := ⟨_, rfl⟩
    have haW7 : Below wD.heap.size wD W7 := by rw [hW7]; exact (Below.refl _ _).alloc (Nat.le_refl _) _
    have hsW7 : W7.heap.size = wD.heap.size + 1 := by rw [hW7]; simp
    have hCD : wC.heap.size ≤ wD.heap.size := hbD.size
    have HB7 : Hid (Below wC.heap.size wC W7) := hbD.trans (haW7.mono hCD)
    have HO7 : Hid (VlO W7 (k + 2) wC.heap.size wD.heap.size t [.int .i64 t.kind, .int .i64 t.num, .string t.text, .slice p7 t.list.length n7, .slice p7' t.names.length n7']) := VlO.same _ _ _ _ _ (fun b _ h2 => haW7.block b h2) hO7
    have HW7b : Hid (Owns W7 wD.heap.size #[.int .i64 t.kind, .int .i64 t.num, .string t.text, .slice p7 t.list.length n7, .slice p7' t.names.length n7'] 29) := by rw [hW7]; exact Owns.made _ _ _
    clear c0 c1 c2 c3 c4 hO7 hbD haW7
    obtain ⟨_, ⟨d0, d1, d2, d3, d4⟩⟩ := HABC.out W7 (Keeps.of_below HB7.out (Nat.le_refl _) 0)
    rw [hW7] at d0 d1 d2 d3 d4
    go_wp2_with fail
    rw [← hW7]
    have HWe7 : Hid _ := hW7
    clear d0 d1 d2 d3 d4 hW7
    refine ((toO_all (k + 2)).1 u _ _ _ (HU.out _ (HKwC.out.trans (Keeps.of_below HB7.out (Nat.le_refl _) 0)))).mono ?_
    rintro e wE ⟨vl8, vn8, rfl, hO8, hbE⟩
    obtain ⟨p8, n8, p8', n8', hq⟩ := hO8.cells
    simp only [List.cons.injEq, true_and, and_true] at hq
    obtain ⟨rfl, rfl⟩ := hq
    obtain ⟨W8, hW8⟩ : ∃ W, W = wE.alloc (Obj.cells #[.int .i64 u.kind, .int .i64 u.num, .string u.text, .slice p8 u.list.length n8, .slice p8' u.names.length n8'] 29) := ⟨_, rfl⟩
    have haW8 : Below wE.heap.size wE W8 := by rw [hW8]; exact (Below.refl _ _).alloc (Nat.le_refl _) _
    have hsW8 : W8.heap.size = wE.heap.size + 1 := by rw [hW8]; simp
    have h7E : W7.heap.size ≤ wE.heap.size := hbE.size
    have HB78 : Hid (Below W7.heap.size W7 W8) := hbE.trans (haW8.mono h7E)
    have HB8 : Hid (Below wC.heap.size wC W8) := HB7.out.trans (HB78.out.mono (by omega))
    have HO8 : Hid (VlO W8 (k + 2) W7.heap.size wE.heap.size u [.int .i64 u.kind, .int .i64 u.num, .string u.text, .slice p8 u.list.length n8, .slice p8' u.names.length n8']) := VlO.same _ _ _ _ _ (fun b _ h2 => haW8.block b h2) hO8
    have HW8b : Hid (Owns W8 wE.heap.size #[.int .i64 u.kind, .int .i64 u.num, .string u.text, .slice p8 u.list.length n8, .slice p8' u.names.length n8'] 29) := by rw [hW8]; exact Owns.made _ _ _
    clear hO8 hbE haW8
    obtain ⟨e0, e1, e2, e3, e4⟩ := five_ofQ (HW7b.out.below HB78.out (by omega)).cell
    obtain ⟨f0, f1, f2, f3, f4⟩ := five_ofQ HW8b.out.cell
    rw [hW8] at e0 e1 e2 e3 e4 f0 f1 f2 f3 f4
    go_wp2_with fail
    rw [← hW8]
    have HWe8 : Hid _ := hW8
    clear e0 e1 e2 e3 e4 f0 f1 f2 f3 f4 hW8
    refine (HIMP.out W8 _ _ _ _ _ _ _ _ (VlR.base (Nat.zero_le _) _ _ _ (VlO.read _ _ _ _ _ (VlO.same _ _ _ _ _ (fun b _ h2 => HB78.out.block b (by omega)) HO7.out))) (VlR.base (Nat.zero_le _) _ _ _ (VlO.read _ _ _ _ _ HO8.out))).mono ?_
    rintro e wF ⟨p9, n9, p9', n9', rfl, hO9, hbF⟩
    obtain ⟨W9, hW9⟩ : ∃ W, W = wF.alloc (Obj.cells #[.int .i64 X.kind, .int .i64 X.num, .string X.text, .slice p9 X.list.length n9, .slice p9' X.names.length n9'] 29) := ⟨_, rfl⟩
    have haW9 : Below wF.heap.size wF W9 := by rw [hW9]; exact (Below.refl _ _).alloc (Nat.le_refl _) _
    have hsW9 : W9.heap.size = wF.heap.size + 1 := by rw [hW9]; simp
    have h8F : W8.heap.size ≤ wF.heap.size := hbF.out.size
    have HB89 : Hid (Below W8.heap.size W8 W9) := hbF.out.trans (haW9.mono h8F)
    have HB9 : Hid (Below wC.heap.size wC W9) := HB8.out.trans (HB89.out.mono (by omega))
    have HO9 : Hid (VlO W9 (k + 2) W8.heap.size wF.heap.size X [.int .i64 X.kind, .int .i64 X.num, .string X.text, .slice p9 X.list.length n9, .slice p9' X.names.length n9']) := VlO.same _ _ _ _ _ (fun b _ h2 => haW9.block b h2) hO9.out
    have HW9b : Hid (Owns W9 wF.heap.size #[.int .i64 X.kind, .int .i64 X.num, .string X.text, .slice p9 X.list.length n9, .slice p9' X.names.length n9'] 29) := by rw [hW9]; exact Owns.made _ _ _
    clear hO9 hbF haW9
    obtain ⟨g0, g1, g2, g3, g4⟩ := five_ofQ HW9b.out.cell
    obtain ⟨h0, h1, h2, h3, h4⟩ := HX6C.out W9 (Keeps.of_below HB9.out (Nat.le_refl _) 0)
    rw [hW9] at g0 g1 g2 g3 g4 h0 h1 h2 h3 h4
    go_wp2_with fail
    rw [← hW9]
    have HWe9 : Hid _ := hW9
    clear g0 g1 g2 g3 g4 h0 h1 h2 h3 h4 hW9
    refine ((eqV_all (k + 2)).1 X _ _ _ _ _ (VlR.base (Nat.zero_le _) _ _ _ (VlO.read _ _ _ _ _ HO9.out)) (HR6C.out _ (Keeps.of_below HB9.out (Nat.le_refl _) 0))).mono ?_
    rintro e wG ⟨rfl, hbG⟩
    have HB9G : Hid (Below W9.heap.size W9 wG) := hbG
    have h9G : W9.heap.size ≤ wG.heap.size := hbG.size
    have HKwwG : Hid (Keeps 0 w wG) := (HKwC.out.trans (Keeps.of_below HB9.out (Nat.le_refl _) 0)).trans (Keeps.of_below hbG (Nat.le_refl _) 0)
    have HKCG : Hid (Keeps 0 wC wG) := (Keeps.of_below HB9.out (Nat.le_refl _) 0).trans (Keeps.of_below hbG (Nat.le_refl _) 0)
    clear hbG
    have HST : Hid (∀ W, Below wG.heap.size wG W → (W.cell? ⟨w.heap.size, 0, none⟩ = some (.int .i64 t.kind) ∧ W.cell? ⟨w.heap.size, 1, none⟩ = some (.int .i64 t.num) ∧ W.cell? ⟨w.heap.size, 2, none⟩ = some (.string t.text) ∧ W.cell? ⟨w.heap.size, 3, none⟩ = some (.slice a t.list.length cap) ∧ W.cell? ⟨w.heap.size, 4, none⟩ = some (.slice a' t.names.length cap')) ∧ (W.cell? ⟨wD.heap.size, 0, none⟩ = some (.int .i64 t.kind) ∧ W.cell? ⟨wD.heap.size, 1, none⟩ = some (.int .i64 t.num) ∧ W.cell? ⟨wD.heap.size, 2, none⟩ = some (.string t.text) ∧ W.cell? ⟨wD.heap.size, 3, none⟩ = some (.slice p7 t.list.length n7) ∧ W.cell? ⟨wD.heap.size, 4, none⟩ = some (.slice p7' t.names.length n7'))) := fun W h => ⟨(HABC.out W (HKCG.out.trans (Keeps.of_below h (Nat.le_refl _) 0))).1, five_ofQ (((((HW7b.out.below HB78.out (by omega)).below HB89.out (by omega)).below HB9G.out (by omega)).below h (by omega)).cell)⟩
    have HTV : Hid (∀ W, Hid (Below wG.heap.size wG W) → Calls Try.prog 11 #[.agg #[.int .i64 t.kind, .int .i64 t.num, .string t.text, .slice a t.list.length cap, .slice a' t.names.length cap']] W fun e w1 => ∃ (p : Option Addr) (n : Nat) (p' : Option Addr) (n' : Nat), e = .returned (.agg #[.int .i64 t.kind, .int .i64 t.num, .string t.text, .slice p t.list.length n, .slice p' t.names.length n']) ∧ ((w1.cell? ⟨w.heap.size, 0, none⟩ = some (.int .i64 t.kind) ∧ w1.cell? ⟨w.heap.size, 1, none⟩ = some (.int .i64 t.num) ∧ w1.cell? ⟨w.heap.size, 2, none⟩ = some (.string t.text) ∧ w1.cell? ⟨w.heap.size, 3, none⟩ = some (.slice a t.list.length cap) ∧ w1.cell? ⟨w.heap.size, 4, none⟩ = some (.slice a' t.names.length cap')) ∧ (w1.cell? ⟨wD.heap.size, 0, none⟩ = some (.int .i64 t.kind) ∧ w1.cell? ⟨wD.heap.size, 1, none⟩ = some (.int .i64 t.num) ∧ w1.cell? ⟨wD.heap.size, 2, none⟩ = some (.string t.text) ∧ w1.cell? ⟨wD.heap.size, 3, none⟩ = some (.slice p7 t.list.length n7) ∧ w1.cell? ⟨wD.heap.size, 4, none⟩ = some (.slice p7' t.names.length n7'))) ∧ Hid (VlR w1 0 (k + 2) t [.int .i64 t.kind, .int .i64 t.num, .string t.text, .slice p t.list.length n, .slice p' t.names.length n']) ∧ Hid (Below wG.heap.size wG w1) ∧ Hid (Below W.heap.size W w1)) := fun W hB => toldT (w0 := wG) (C := fun W => (W.cell? ⟨w.heap.size, 0, none⟩ = some (.int .i64 t.kind) ∧ W.cell? ⟨w.heap.size, 1, none⟩ = some (.int .i64 t.num) ∧ W.cell? ⟨w.heap.size, 2, none⟩ = some (.string t.text) ∧ W.cell? ⟨w.heap.size, 3, none⟩ = some (.slice a t.list.length cap) ∧ W.cell? ⟨w.heap.size, 4, none⟩ = some (.slice a' t.names.length cap')) ∧ (W.cell? ⟨wD.heap.size, 0, none⟩ = some (.int .i64 t.kind) ∧ W.cell? ⟨wD.heap.size, 1, none⟩ = some (.int .i64 t.num) ∧ W.cell? ⟨wD.heap.size, 2, none⟩ = some (.string t.text) ∧ W.cell? ⟨wD.heap.size, 3, none⟩ = some (.slice p7 t.list.length n7) ∧ W.cell? ⟨wD.heap.size, 4, none⟩ = some (.slice p7' t.names.length n7'))) HST.out hB (HR.out W (HKwwG.out.trans (Keeps.of_below hB.out (Nat.le_refl _) 0)))
    have HTE : Hid (∀ (W : World) (pT : Option Addr) (nT : Nat) (pT' : Option Addr) (nT' : Nat), Hid (VlR W 0 (k + 2) t [.int .i64 t.kind, .int .i64 t.num, .string t.text, .slice pT t.list.length nT, .slice pT' t.names.length nT']) → Hid (Below wG.heap.size wG W) → Calls Try.prog 13 #[.agg #[.int .i64 t.kind, .int .i64 t.num, .string t.text, .slice p7 t.list.length n7, .slice p7' t.names.length n7'], .agg #[.int .i64 t.kind, .int .i64 t.num, .string t.text, .slice pT t.list.length nT, .slice pT' t.names.length nT']] W fun e w1 => e = .returned (.bool true) ∧ ((w1.cell? ⟨w.heap.size, 0, none⟩ = some (.int .i64 t.kind) ∧ w1.cell? ⟨w.heap.size, 1, none⟩ = some (.int .i64 t.num) ∧ w1.cell? ⟨w.heap.size, 2, none⟩ = some (.string t.text) ∧ w1.cell? ⟨w.heap.size, 3, none⟩ = some (.slice a t.list.length cap) ∧ w1.cell? ⟨w.heap.size, 4, none⟩ = some (.slice a' t.names.length cap')) ∧ (w1.cell? ⟨wD.heap.size, 0, none⟩ = some (.int .i64 t.kind) ∧ w1.cell? ⟨wD.heap.size, 1, none⟩ = some (.int .i64 t.num) ∧ w1.cell? ⟨wD.heap.size, 2, none⟩ = some (.string t.text) ∧ w1.cell? ⟨wD.heap.size, 3, none⟩ = some (.slice p7 t.list.length n7) ∧ w1.cell? ⟨wD.heap.size, 4, none⟩ = some (.slice p7' t.names.length n7'))) ∧ Hid (Below wG.heap.size wG w1)) := fun W pT nT pT' nT' hR hB => keptM (w0 := wG) (C := fun W => (W.cell? ⟨w.heap.size, 0, none⟩ = some (.int .i64 t.kind) ∧ W.cell? ⟨w.heap.size, 1, none⟩ = some (.int .i64 t.num) ∧ W.cell? ⟨w.heap.size, 2, none⟩ = some (.string t.text) ∧ W.cell? ⟨w.heap.size, 3, none⟩ = some (.slice a t.list.length cap) ∧ W.cell? ⟨w.heap.size, 4, none⟩ = some (.slice a' t.names.length cap')) ∧ (W.cell? ⟨wD.heap.size, 0, none⟩ = some (.int .i64 t.kind) ∧ W.cell? ⟨wD.heap.size, 1, none⟩ = some (.int .i64 t.num) ∧ W.cell? ⟨wD.heap.size, 2, none⟩ = some (.string t.text) ∧ W.cell? ⟨wD.heap.size, 3, none⟩ = some (.slice p7 t.list.length n7) ∧ W.cell? ⟨wD.heap.size, 4, none⟩ = some (.slice p7' t.names.length n7'))) HST.out hB ((eqV_all (k + 2)).1 t _ _ _ _ W (VlR.base (Nat.zero_le _) _ _ _ (VlO.read _ _ _ _ _ (VlO.same _ _ _ _ _ (fun b _ h2 => (hB.out.block b (by omega)).trans ((HB9G.out.block b (by omega)).trans ((HB89.out.block b (by omega)).trans (HB78.out.block b (by omega))))) HO7.out))) hR.out)
    have HBd : Hid (Below wG.heap.size wG wG.drew) := (Below.refl _ wG).drew
    obtain ⟨⟨c0, c1, c2, c3, c4⟩, ⟨e0, e1, e2, e3, e4⟩⟩ := HST.out wG (Below.refl _ _)
    go_upto_region 14 with fail
    go_cut [44] from 14 (fun v wx => v = .bool false ∧ Hid (Below wG.heap.size wG wx))
    case first =>
      go_region_held3 (fun w' => (w'.cell? ⟨w.heap.size, 0, none⟩ = some (.int .i64 t.kind) ∧ w'.cell? ⟨w.heap.size, 1, none⟩ = some (.int .i64 t.num) ∧ w'.cell? ⟨w.heap.size, 2, none⟩ = some (.string t.text) ∧ w'.cell? ⟨w.heap.size, 3, none⟩ = some (.slice a t.list.length cap) ∧ w'.cell? ⟨w.heap.size, 4, none⟩ = some (.slice a' t.names.length cap')) ∧ (w'.cell? ⟨wD.heap.size, 0, none⟩ = some (.int .i64 t.kind) ∧ w'.cell? ⟨wD.heap.size, 1, none⟩ = some (.int .i64 t.num) ∧ w'.cell? ⟨wD.heap.size, 2, none⟩ = some (.string t.text) ∧ w'.cell? ⟨wD.heap.size, 3, none⟩ = some (.slice p7 t.list.length n7) ∧ w'.cell? ⟨wD.heap.size, 4, none⟩ = some (.slice p7' t.names.length n7'))) (first | with_reducible exact ⟨⟨c0, c1, c2, c3, c4⟩, ⟨e0, e1, e2, e3, e4⟩⟩ | with_reducible exact ⟨⟨cell_alS c0 _, cell_alS c1 _, cell_alS c2 _, cell_alS c3 _, cell_alS c4 _⟩, ⟨cell_alS e0 _, cell_alS e1 _, cell_alS e2 _, cell_alS e3 _, cell_alS e4 _⟩⟩ | with_reducible exact ⟨⟨cell_drS c0, cell_drS c1, cell_drS c2, cell_drS c3, cell_drS c4⟩, ⟨cell_drS e0, cell_drS e1, cell_drS e2, cell_drS e3, cell_drS e4⟩⟩ | with_reducible exact ⟨⟨cell_drS (cell_alS c0 _), cell_drS (cell_alS c1 _), cell_drS (cell_alS c2 _), cell_drS (cell_alS c3 _), cell_drS (cell_alS c4 _)⟩, ⟨cell_drS (cell_alS e0 _), cell_drS (cell_alS e1 _), cell_drS (cell_alS e2 _), cell_drS (cell_alS e3 _), cell_drS (cell_alS e4 _)⟩⟩ | go_keep) (first | (go_at_call 11; with_reducible refine (Hid.out HTV _ HBd).mono ?_; (try clear c0 c1 c2 c3 c4 e0 e1 e2 e3 e4); rintro e wT ⟨pT, nT, pT', nT', rfl, ⟨⟨c0, c1, c2, c3, c4⟩, ⟨e0, e1, e2, e3, e4⟩⟩, HRT, HBT, HBT2⟩) | (go_at_call 13; with_reducible refine (Hid.out HTE _ _ _ _ _ HRT HBT).mono ?_; (try clear c0 c1 c2 c3 c4 e0 e1 e2 e3 e4); rintro e wU ⟨rfl, ⟨⟨c0, c1, c2, c3, c4⟩, ⟨e0, e1, e2, e3, e4⟩⟩, HBU⟩))
      all_goals
        go_wp2_with fail
        go_meet
        case rel => exact ⟨rfl, HBU⟩
    case rest =>
      obtain ⟨rfl, HBH⟩ := hcut
      rename World => wH
      clear c0 c1 c2 c3 c4 e0 e1 e2 e3 e4 HST HTV HTE HBd
      have hGH : wG.heap.size ≤ wH.heap.size := HBH.out.size
      have HB9H : Hid (Below W9.heap.size W9 wH) := HB9G.out.trans (HBH.out.mono h9G)
      have HKwwH : Hid (Keeps 0 w wH) := HKwwG.out.trans (Keeps.of_below HBH.out (Nat.le_refl _) 0)
      have HKCH : Hid (Keeps 0 wC wH) := HKCG.out.trans (Keeps.of_below HBH.out (Nat.le_refl _) 0)
      clear HBH HB9G HKwwG HKCG
      have HST : Hid (∀ W, Below wH.heap.size wH W → (W.cell? ⟨w.heap.size + 1, 0, none⟩ = some (.int .i64 u.kind) ∧ W.cell? ⟨w.heap.size + 1, 1, none⟩ = some (.int .i64 u.num) ∧ W.cell? ⟨w.heap.size + 1, 2, none⟩ = some (.string u.text) ∧ W.cell? ⟨w.heap.size + 1, 3, none⟩ = some (.slice m u.list.length mcap) ∧ W.cell? ⟨w.heap.size + 1, 4, none⟩ = some (.slice m' u.names.length mcap')) ∧ (W.cell? ⟨wE.heap.size, 0, none⟩ = some (.int .i64 u.kind) ∧ W.cell? ⟨wE.heap.size, 1, none⟩ = some (.int .i64 u.num) ∧ W.cell? ⟨wE.heap.size, 2, none⟩ = some (.string u.text) ∧ W.cell? ⟨wE.heap.size, 3, none⟩ = some (.slice p8 u.list.length n8) ∧ W.cell? ⟨wE.heap.size, 4, none⟩ = some (.slice p8' u.names.length n8'))) := fun W h => ⟨(HABC.out W (HKCH.out.trans (Keeps.of_below h (Nat.le_refl _) 0))).2, five_ofQ ((((HW8b.out.below HB89.out (by omega)).below HB9H.out (by omega)).below h (by omega)).cell)⟩
      have HTV : Hid (∀ W, Hid (Below wH.heap.size wH W) → Calls Try.prog 11 #[.agg #[.int .i64 u.kind, .int .i64 u.num, .string u.text, .slice m u.list.length mcap, .slice m' u.names.length mcap']] W fun e w1 => ∃ (p : Option Addr) (n : Nat) (p' : Option Addr) (n' : Nat), e = .returned (.agg #[.int .i64 u.kind, .int .i64 u.num, .string u.text, .slice p u.list.length n, .slice p' u.names.length n']) ∧ ((w1.cell? ⟨w.heap.size + 1, 0, none⟩ = some (.int .i64 u.kind) ∧ w1.cell? ⟨w.heap.size + 1, 1, none⟩ = some (.int .i64 u.num) ∧ w1.cell? ⟨w.heap.size + 1, 2, none⟩ = some (.string u.text) ∧ w1.cell? ⟨w.heap.size + 1, 3, none⟩ = some (.slice m u.list.length mcap) ∧ w1.cell? ⟨w.heap.size + 1, 4, none⟩ = some (.slice m' u.names.length mcap')) ∧ (w1.cell? ⟨wE.heap.size, 0, none⟩ = some (.int .i64 u.kind) ∧ w1.cell? ⟨wE.heap.size, 1, none⟩ = some (.int .i64 u.num) ∧ w1.cell? ⟨wE.heap.size, 2, none⟩ = some (.string u.text) ∧ w1.cell? ⟨wE.heap.size, 3, none⟩ = some (.slice p8 u.list.length n8) ∧ w1.cell? ⟨wE.heap.size, 4, none⟩ = some (.slice p8' u.names.length n8'))) ∧ Hid (VlR w1 0 (k + 2) u [.int .i64 u.kind, .int .i64 u.num, .string u.text, .slice p u.list.length n, .slice p' u.names.length n']) ∧ Hid (Below wH.heap.size wH w1) ∧ Hid (Below W.heap.size W w1)) := fun W hB => toldT (w0 := wH) (C := fun W => (W.cell? ⟨w.heap.size + 1, 0, none⟩ = some (.int .i64 u.kind) ∧ W.cell? ⟨w.heap.size + 1, 1, none⟩ = some (.int .i64 u.num) ∧ W.cell? ⟨w.heap.size + 1, 2, none⟩ = some (.string u.text) ∧ W.cell? ⟨w.heap.size + 1, 3, none⟩ = some (.slice m u.list.length mcap) ∧ W.cell? ⟨w.heap.size + 1, 4, none⟩ = some (.slice m' u.names.length mcap')) ∧ (W.cell? ⟨wE.heap.size, 0, none⟩ = some (.int .i64 u.kind) ∧ W.cell? ⟨wE.heap.size, 1, none⟩ = some (.int .i64 u.num) ∧ W.cell? ⟨wE.heap.size, 2, none⟩ = some (.string u.text) ∧ W.cell? ⟨wE.heap.size, 3, none⟩ = some (.slice p8 u.list.length n8) ∧ W.cell? ⟨wE.heap.size, 4, none⟩ = some (.slice p8' u.names.length n8'))) HST.out hB (HU.out W (HKwwH.out.trans (Keeps.of_below hB.out (Nat.le_refl _) 0)))
      have HTE : Hid (∀ (W : World) (pT : Option Addr) (nT : Nat) (pT' : Option Addr) (nT' : Nat), Hid (VlR W 0 (k + 2) u [.int .i64 u.kind, .int .i64 u.num, .string u.text, .slice pT u.list.length nT, .slice pT' u.names.length nT']) → Hid (Below wH.heap.size wH W) → Calls Try.prog 13 #[.agg #[.int .i64 u.kind, .int .i64 u.num, .string u.text, .slice p8 u.list.length n8, .slice p8' u.names.length n8'], .agg #[.int .i64 u.kind, .int .i64 u.num, .string u.text, .slice pT u.list.length nT, .slice pT' u.names.length nT']] W fun e w1 => e = .returned (.bool true) ∧ ((w1.cell? ⟨w.heap.size + 1, 0, none⟩ = some (.int .i64 u.kind) ∧ w1.cell? ⟨w.heap.size + 1, 1, none⟩ = some (.int .i64 u.num) ∧ w1.cell? ⟨w.heap.size + 1, 2, none⟩ = some (.string u.text) ∧ w1.cell? ⟨w.heap.size + 1, 3, none⟩ = some (.slice m u.list.length mcap) ∧ w1.cell? ⟨w.heap.size + 1, 4, none⟩ = some (.slice m' u.names.length mcap')) ∧ (w1.cell? ⟨wE.heap.size, 0, none⟩ = some (.int .i64 u.kind) ∧ w1.cell? ⟨wE.heap.size, 1, none⟩ = some (.int .i64 u.num) ∧ w1.cell? ⟨wE.heap.size, 2, none⟩ = some (.string u.text) ∧ w1.cell? ⟨wE.heap.size, 3, none⟩ = some (.slice p8 u.list.length n8) ∧ w1.cell? ⟨wE.heap.size, 4, none⟩ = some (.slice p8' u.names.length n8'))) ∧ Hid (Below wH.heap.size wH w1)) := fun W pT nT pT' nT' hR hB => keptM (w0 := wH) (C := fun W => (W.cell? ⟨w.heap.size + 1, 0, none⟩ = some (.int .i64 u.kind) ∧ W.cell? ⟨w.heap.size + 1, 1, none⟩ = some (.int .i64 u.num) ∧ W.cell? ⟨w.heap.size + 1, 2, none⟩ = some (.string u.text) ∧ W.cell? ⟨w.heap.size + 1, 3, none⟩ = some (.slice m u.list.length mcap) ∧ W.cell? ⟨w.heap.size + 1, 4, none⟩ = some (.slice m' u.names.length mcap')) ∧ (W.cell? ⟨wE.heap.size, 0, none⟩ = some (.int .i64 u.kind) ∧ W.cell? ⟨wE.heap.size, 1, none⟩ = some (.int .i64 u.num) ∧ W.cell? ⟨wE.heap.size, 2, none⟩ = some (.string u.text) ∧ W.cell? ⟨wE.heap.size, 3, none⟩ = some (.slice p8 u.list.length n8) ∧ W.cell? ⟨wE.heap.size, 4, none⟩ = some (.slice p8' u.names.length n8'))) HST.out hB ((eqV_all (k + 2)).1 u _ _ _ _ W (VlR.base (Nat.zero_le _) _ _ _ (VlO.read _ _ _ _ _ (VlO.same _ _ _ _ _ (fun b _ h2 => (hB.out.block b (by omega)).trans ((HB9H.out.block b (by omega)).trans (HB89.out.block b (by omega)))) HO8.out))) hR.out)
      have HBd : Hid (Below wH.heap.size wH wH.drew) := (Below.refl _ wH).drew
      obtain ⟨⟨c0, c1, c2, c3, c4⟩, ⟨e0, e1, e2, e3, e4⟩⟩ := HST.out wH (Below.refl _ _)
      go_upto_region 16 with fail
      go_cut [49] from 14 (fun v wx => v = .bool false ∧ Hid (Below wH.heap.size wH wx))
      case first =>
        go_region_held3 (fun w' => (w'.cell? ⟨w.heap.size + 1, 0, none⟩ = some (.int .i64 u.kind) ∧ w'.cell? ⟨w.heap.size + 1, 1, none⟩ = some (.int .i64 u.num) ∧ w'.cell? ⟨w.heap.size + 1, 2, none⟩ = some (.string u.text) ∧ w'.cell? ⟨w.heap.size + 1, 3, none⟩ = some (.slice m u.list.length mcap) ∧ w'.cell? ⟨w.heap.size + 1, 4, none⟩ = some (.slice m' u.names.length mcap')) ∧ (w'.cell? ⟨wE.heap.size, 0, none⟩ = some (.int .i64 u.kind) ∧ w'.cell? ⟨wE.heap.size, 1, none⟩ = some (.int .i64 u.num) ∧ w'.cell? ⟨wE.heap.size, 2, none⟩ = some (.string u.text) ∧ w'.cell? ⟨wE.heap.size, 3, none⟩ = some (.slice p8 u.list.length n8) ∧ w'.cell? ⟨wE.heap.size, 4, none⟩ = some (.slice p8' u.names.length n8'))) (first | with_reducible exact ⟨⟨c0, c1, c2, c3, c4⟩, ⟨e0, e1, e2, e3, e4⟩⟩ | with_reducible exact ⟨⟨cell_alS c0 _, cell_alS c1 _, cell_alS c2 _, cell_alS c3 _, cell_alS c4 _⟩, ⟨cell_alS e0 _, cell_alS e1 _, cell_alS e2 _, cell_alS e3 _, cell_alS e4 _⟩⟩ | with_reducible exact ⟨⟨cell_drS c0, cell_drS c1, cell_drS c2, cell_drS c3, cell_drS c4⟩, ⟨cell_drS e0, cell_drS e1, cell_drS e2, cell_drS e3, cell_drS e4⟩⟩ | with_reducible exact ⟨⟨cell_drS (cell_alS c0 _), cell_drS (cell_alS c1 _), cell_drS (cell_alS c2 _), cell_drS (cell_alS c3 _), cell_drS (cell_alS c4 _)⟩, ⟨cell_drS (cell_alS e0 _), cell_drS (cell_alS e1 _), cell_drS (cell_alS e2 _), cell_drS (cell_alS e3 _), cell_drS (cell_alS e4 _)⟩⟩ | go_keep) (first | (go_at_call 11; with_reducible refine (Hid.out HTV _ HBd).mono ?_; (try clear c0 c1 c2 c3 c4 e0 e1 e2 e3 e4); rintro e wT ⟨pT, nT, pT', nT', rfl, ⟨⟨c0, c1, c2, c3, c4⟩, ⟨e0, e1, e2, e3, e4⟩⟩, HRT, HBT, HBT2⟩) | (go_at_call 13; with_reducible refine (Hid.out HTE _ _ _ _ _ HRT HBT).mono ?_; (try clear c0 c1 c2 c3 c4 e0 e1 e2 e3 e4); rintro e wU ⟨rfl, ⟨⟨c0, c1, c2, c3, c4⟩, ⟨e0, e1, e2, e3, e4⟩⟩, HBU⟩))
        all_goals
          go_wp2_with fail
          go_meet
          case rel => exact ⟨rfl, HBU⟩
      case rest =>
        obtain ⟨rfl, HBI⟩ := hcut
        rename World => wI
        clear c0 c1 c2 c3 c4 e0 e1 e2 e3 e4 HST HTV HTE HBd
        have hHI : wH.heap.size ≤ wI.heap.size := HBI.out.size
        have HB9I : Hid (Below W9.heap.size W9 wI) := HB9H.out.trans (HBI.out.mono (by omega))
        have HKCI : Hid (Keeps 0 wC wI) := HKCH.out.trans (Keeps.of_below HBI.out (Nat.le_refl _) 0)
        have HO7I : Hid (VlO wI (k + 2) wC.heap.size wD.heap.size t [.int .i64 t.kind, .int .i64 t.num, .string t.text, .slice p7 t.list.length n7, .slice p7' t.names.length n7']) := VlO.same _ _ _ _ _ (fun b _ h2 => (HB9I.out.block b (by omega)).trans ((HB89.out.block b (by omega)).trans (HB78.out.block b (by omega)))) HO7.out
        have HO8I : Hid (VlO wI (k + 2) W7.heap.size wE.heap.size u [.int .i64 u.kind, .int .i64 u.num, .string u.text, .slice p8 u.list.length n8, .slice p8' u.names.length n8']) := VlO.same _ _ _ _ _ (fun b _ h2 => (HB9I.out.block b (by omega)).trans (HB89.out.block b (by omega))) HO8.out
        have HO9I : Hid (VlO wI (k + 2) W8.heap.size wF.heap.size X [.int .i64 X.kind, .int .i64 X.num, .string X.text, .slice p9 X.list.length n9, .slice p9' X.names.length n9']) := VlO.same _ _ _ _ _ (fun b _ h2 => HB9I.out.block b (by omega)) HO9.out
        have Hb7I : Hid (Owns wI wD.heap.size #[.int .i64 t.kind, .int .i64 t.num, .string t.text, .slice p7 t.list.length n7, .slice p7' t.names.length n7'] 29) := ((HW7b.out.below HB78.out (by omega)).below HB89.out (by omega)).below HB9I.out (by omega)
        have Hb8I : Hid (Owns wI wE.heap.size #[.int .i64 u.kind, .int .i64 u.num, .string u.text, .slice p8 u.list.length n8, .slice p8' u.names.length n8'] 29) := (HW8b.out.below HB89.out (by omega)).below HB9I.out (by omega)
        have Hb9I : Hid (Owns wI wF.heap.size #[.int .i64 X.kind, .int .i64 X.num, .string X.text, .slice p9 X.list.length n9, .slice p9' X.names.length n9'] 29) := HW9b.out.below HB9I.out (by omega)
        have HBwI : Hid (Below w.heap.size w wI) := (HBwC.out.trans (HB9.out.mono HBwC.out.size)).trans (HB9I.out.mono (by have := HBwC.out.size; omega))
        have hwC : w.heap.size ≤ wC.heap.size := HBwC.out.size
        clear HBI HB9H HKwwH HKCH HO7 HO8 HO9 HW7b HW8b HW9b
        obtain ⟨e0, e1, e2, e3, e4⟩ := five_ofQ Hb7I.out.cell
        go_wp2_with fail
        refine (markM1 (k + 1) wC.heap.size wD.heap.size t _ _ _ _ _ wI HO7I.out (by omega) (by have := HCT.out; omega)).mono ?_
        rintro e wJ ⟨rfl, l7, m7, _, _, _, _, _, _, hTJ⟩
        obtain ⟨r7, hr7⟩ : ∃ r, 1 + cntS (cntE (k + 1)) t.list + t.names.length = r := ⟨_, rfl⟩
        rw [hr7]
        have hr7b : 1 ≤ r7 ∧ r7 ≤ 4000000 := by have := HCT.out; omega
        have hIJ : wI.heap.size ≤ wJ.heap.size := hTJ.size
        have hJs : ∀ b, wD.heap.size ≤ b → b < wI.heap.size → wJ.heap[b]? = wI.heap[b]? := fun b h1 h2 => hTJ.block b h2 (fun hb => by have := hb.2; omega)
        have HKCJ : Hid (Keeps 0 wC wJ) := ⟨by have := HKCI.out.size; omega, fun b _ h2 => (hTJ.block b (by have := HKCI.out.size; omega) (fun hb => by have := hb.1; omega)).trans (HKCI.out.block b (Nat.zero_le _) h2)⟩
        have HBwJ : Hid (Below w.heap.size w wJ) := hTJ.below HBwI.out (fun b hb => by have := hb.1; omega) (by omega)
        have HO8J : Hid (VlO wJ (k + 2) W7.heap.size wE.heap.size u [.int .i64 u.kind, .int .i64 u.num, .string u.text, .slice p8 u.list.length n8, .slice p8' u.names.length n8']) := VlO.same _ _ _ _ _ (fun b h1 h2 => hJs b (by omega) (by omega)) HO8I.out
        have HO9J : Hid (VlO wJ (k + 2) W8.heap.size wF.heap.size X [.int .i64 X.kind, .int .i64 X.num, .string X.text, .slice p9 X.list.length n9, .slice p9' X.names.length n9']) := VlO.same _ _ _ _ _ (fun b h1 h2 => hJs b (by omega) (by omega)) HO9I.out
        have Hb8J : Hid (Owns wJ wE.heap.size #[.int .i64 u.kind, .int .i64 u.num, .string u.text, .slice p8 u.list.length n8, .slice p8' u.names.length n8'] 29) := Hb8I.out.sameQ (hJs _ (by omega) (by omega))
        have Hb9J : Hid (Owns wJ wF.heap.size #[.int .i64 X.kind, .int .i64 X.num, .string X.text, .slice p9 X.list.length n9, .slice p9' X.names.length n9'] 29) := Hb9I.out.sameQ (hJs _ (by omega) (by omega))
        clear hTJ hJs hr7 e0 e1 e2 e3 e4 HO7I HO8I HO9I Hb7I Hb8I Hb9I HBwI HKCI HCT
        obtain ⟨f0, f1, f2, f3, f4⟩ := five_ofQ Hb8J.out.cell
        go_wp2_with fail
        refine (markValue_any (k + 1) W7.heap.size wE.heap.size r7 u _ _ _ _ _ wJ HO8J.out (by omega) hr7b.1 (by have := HCU.out; omega) (markL_all (k + 1))).mono ?_
        rintro e wK ⟨rfl, l8, m8, _, _, _, _, _, _, hTK⟩
        obtain ⟨r8, hr8⟩ : ∃ r, r7 + cntS (cntE (k + 1)) u.list + u.names.length = r := ⟨_, rfl⟩
        rw [hr8]
        have hr8d : decide ((r8 : Int) < 0) = false := decide_eq_false (by omega)
        have hJK : wJ.heap.size ≤ wK.heap.size := hTK.size
        have hKs : ∀ b, wE.heap.size ≤ b → b < wJ.heap.size → wK.heap[b]? = wJ.heap[b]? := fun b h1 h2 => hTK.block b h2 (fun hb => by have := hb.2; omega)
        have HKCK : Hid (Keeps 0 wC wK) := ⟨by have := HKCJ.out.size; omega, fun b _ h2 => (hTK.block b (by have := HKCJ.out.size; omega) (fun hb => by have := hb.1; omega)).trans (HKCJ.out.block b (Nat.zero_le _) h2)⟩
        have HBwK : Hid (Below w.heap.size w wK) := hTK.below HBwJ.out (fun b hb => by have := hb.1; omega) (by omega)
        have HO9K : Hid (VlO wK (k + 2) W8.heap.size wF.heap.size X [.int .i64 X.kind, .int .i64 X.num, .string X.text, .slice p9 X.list.length n9, .slice p9' X.names.length n9']) := VlO.same _ _ _ _ _ (fun b h1 h2 => hKs b (by omega) (by omega)) HO9J.out
        have Hb9K : Hid (Owns wK wF.heap.size #[.int .i64 X.kind, .int .i64 X.num, .string X.text, .slice p9 X.list.length n9, .slice p9' X.names.length n9'] 29) := Hb9J.out.sameQ (hKs _ (by omega) (by omega))
        clear hTK hKs hr8 f0 f1 f2 f3 f4 HO8J HO9J Hb8J Hb9J HBwJ HKCJ HCU hr7b
        obtain ⟨g0, g1, g2, g3, g4⟩ := five_ofQ Hb9K.out.cell
        obtain ⟨h0, h1, h2, h3, h4⟩ := HX6C.out wK HKCK.out
        go_wp2_with fail
        refine ((eqV_all (k + 2)).1 X _ _ _ _ _ (VlR.base (Nat.zero_le _) _ _ _ (VlO.read _ _ _ _ _ HO9K.out)) (HR6C.out _ HKCK.out)).mono ?_
        rintro e wL ⟨rfl, hbL⟩
        have hKL : wK.heap.size ≤ wL.heap.size := hbL.size
        have HKCL : Hid (Keeps 0 wC wL) := HKCK.out.trans (Keeps.of_below hbL (Nat.le_refl _) 0)
        have HBwL : Hid (Below w.heap.size w wL) := HBwK.out.trans (hbL.mono (by omega))
        have HO9L : Hid (VlO wL (k + 2) W8.heap.size wF.heap.size X [.int .i64 X.kind, .int .i64 X.num, .string X.text, .slice p9 X.list.length n9, .slice p9' X.names.length n9']) := VlO.same _ _ _ _ _ (fun b h1 h2 => hbL.block b (by omega)) HO9K.out
        have Hb9L : Hid (Owns wL wF.heap.size #[.int .i64 X.kind, .int .i64 X.num, .string X.text, .slice p9 X.list.length n9, .slice p9' X.names.length n9'] 29) := Hb9K.out.below hbL (by omega)
        clear hbL g0 g1 g2 g3 g4 h0 h1 h2 h3 h4 HO9K Hb9K HBwK HKCK hr8d
        obtain ⟨g0, g1, g2, g3, g4⟩ := five_ofQ Hb9L.out.cell
        go_wp2_with fail
        refine (markM1 (k + 1) W8.heap.size wF.heap.size X _ _ _ _ _ wL HO9L.out (by omega) (by have := HCX.out; omega)).mono ?_
        rintro e wM ⟨rfl, l9, m9, hl9, hn9, hc9, hM9, hN9, hV9, hTM⟩
        have hLM : wL.heap.size ≤ wM.heap.size := hTM.size
        have HKCM : Hid (Keeps 0 wC wM) := ⟨by have := HKCL.out.size; omega, fun b _ h2 => (hTM.block b (by have := HKCL.out.size; omega) (fun hb => by have := hb.1; omega)).trans (HKCL.out.block b (Nat.zero_le _) h2)⟩
        have HBwM : Hid (Below w.heap.size w wM) := hTM.below HBwL.out (fun b hb => by have := hb.1; omega) (by omega)
        have Hb9M : Hid (Owns wM wF.heap.size #[.int .i64 X.kind, .int .i64 X.num, .string X.text, .slice p9 X.list.length n9, .slice p9' X.names.length n9'] 29) := Hb9L.out.sameQ (hTM.block _ (by omega) (fun hb => by have := hb.2; omega))
        obtain ⟨rm, hrm⟩ : ∃ rm, 1 + cntS (cntE (k + 1)) X.list + X.names.length = rm := ⟨_, rfl⟩
        rw [hrm]
        have hrmd : decide ((rm : Int) < 0) = false := decide_eq_false (by omega)
        have HHELD : Hid (∀ W, Below wM.heap.size wM W → Calls Try.prog 15 #[.agg #[.int .i64 X.kind, .int .i64 X.num, .string X.text, .slice p9 X.list.length n9, .slice p9' X.names.length n9'], .int .i64 1] W fun e w' => e = .returned (.int .i64 (rm : Int)) ∧ Below W.heap.size W w') := fun W h => by
          have hcx := HCX.out
          refine heldM1 (k + 1) rm ⟨X.kind, X.num, X.text, l9, m9⟩ _ _ _ _ _ W (VlR.keeps (Keeps.of_below h (Nat.le_refl _) 0) _ _ _ (VlR.base (Nat.zero_le _) _ _ _ (VlO.read _ _ _ _ _ hV9))) hM9 ?_ ?_ ?_
          · show MkN (1 + cntS (cntE (k + 1)) l9) m9
            rw [hc9]; exact hN9
          · show cntS (cntE (k + 1)) l9 + m9.length ≤ _
            rw [hc9, hn9]; exact hcx
          · show 1 + cntS (cntE (k + 1)) l9 + m9.length = rm
            rw [hc9, hn9]; exact hrm
        clear hl9 hn9 hc9 hM9 hN9 hV9 hTM hrm HO9L Hb9L HBwL HKCL g0 g1 g2 g3 g4
        obtain ⟨g0, g1, g2, g3, g4⟩ := five_ofQ Hb9M.out.cell
        go_wp2_with fail
        refine (HHELD.out wM (Below.refl _ _)).mono ?_
        rintro e wN ⟨rfl, hbN⟩
        have hMN : wM.heap.size ≤ wN.heap.size := hbN.size
        have HBMN : Hid (Below wM.heap.size wM wN) := hbN
        have HKCN : Hid (Keeps 0 wC wN) := HKCM.out.trans (Keeps.of_below hbN (Nat.le_refl _) 0)
        have HKwwN : Hid (Keeps 0 w wN) := HKwC.out.trans HKCN.out
        have HBwN : Hid (Below w.heap.size w wN) := HBwM.out.trans (hbN.mono (by omega))
        have Hb9N : Hid (Owns wN wF.heap.size #[.int .i64 X.kind, .int .i64 X.num, .string X.text, .slice p9 X.list.length n9, .slice p9' X.names.length n9'] 29) := Hb9M.out.below hbN (by omega)
        have HABwN : Hid (∀ W, Below wN.heap.size wN W → (W.cell? ⟨w.heap.size, 0, none⟩ = some (.int .i64 t.kind) ∧ W.cell? ⟨w.heap.size, 1, none⟩ = some (.int .i64 t.num) ∧ W.cell? ⟨w.heap.size, 2, none⟩ = some (.string t.text) ∧ W.cell? ⟨w.heap.size, 3, none⟩ = some (.slice a t.list.length cap) ∧ W.cell? ⟨w.heap.size, 4, none⟩ = some (.slice a' t.names.length cap')) ∧ (W.cell? ⟨w.heap.size + 1, 0, none⟩ = some (.int .i64 u.kind) ∧ W.cell? ⟨w.heap.size + 1, 1, none⟩ = some (.int .i64 u.num) ∧ W.cell? ⟨w.heap.size + 1, 2, none⟩ = some (.string u.text) ∧ W.cell? ⟨w.heap.size + 1, 3, none⟩ = some (.slice m u.list.length mcap) ∧ W.cell? ⟨w.heap.size + 1, 4, none⟩ = some (.slice m' u.names.length mcap'))) := fun W h => HABC.out W (HKCN.out.trans (Keeps.of_below h (Nat.le_refl _) 0))
        have hrmm : (rm != rm) = false := by simp
        clear hbN g0 g1 g2 g3 g4 HKCM HBwM Hb9M
        have HTC : Hid (∀ (W : World) (pA : Option Addr) (nA : Nat) (pA' : Option Addr) (nA' : Nat) (pB : Option Addr) (nB : Nat) (pB' : Option Addr) (nB' : Nat), Hid (VlR W 0 (k + 2) t [.int .i64 t.kind, .int .i64 t.num, .string t.text, .slice pA t.list.length nA, .slice pA' t.names.length nA']) → Hid (VlR W 0 (k + 2) u [.int .i64 u.kind, .int .i64 u.num, .string u.text, .slice pB u.list.length nB, .slice pB' u.names.length nB']) → Hid (Below wN.heap.size wN W) → Calls Try.prog 26 #[.agg #[.int .i64 t.kind, .int .i64 t.num, .string t.text, .slice pA t.list.length nA, .slice pA' t.names.length nA'], .agg #[.int .i64 u.kind, .int .i64 u.num, .string u.text, .slice pB u.list.length nB, .slice pB' u.names.length nB']] W fun e w1 => ∃ (p6 : Option Addr) (n6 : Nat) (p6' : Option Addr) (n6' : Nat), e = .returned (.agg #[.int .i64 X.kind, .int .i64 X.num, .string X.text, .slice p6 X.list.length n6, .slice p6' X.names.length n6']) ∧ ((w1.cell? ⟨w.heap.size, 0, none⟩ = some (.int .i64 t.kind) ∧ w1.cell? ⟨w.heap.size, 1, none⟩ = some (.int .i64 t.num) ∧ w1.cell? ⟨w.heap.size, 2, none⟩ = some (.string t.text) ∧ w1.cell? ⟨w.heap.size, 3, none⟩ = some (.slice a t.list.length cap) ∧ w1.cell? ⟨w.heap.size, 4, none⟩ = some (.slice a' t.names.length cap')) ∧ (w1.cell? ⟨w.heap.size + 1, 0, none⟩ = some (.int .i64 u.kind) ∧ w1.cell? ⟨w.heap.size + 1, 1, none⟩ = some (.int .i64 u.num) ∧ w1.cell? ⟨w.heap.size + 1, 2, none⟩ = some (.string u.text) ∧ w1.cell? ⟨w.heap.size + 1, 3, none⟩ = some (.slice m u.list.length mcap) ∧ w1.cell? ⟨w.heap.size + 1, 4, none⟩ = some (.slice m' u.names.length mcap'))) ∧ Hid (VlR w1 W.heap.size (k + 2) X [.int .i64 X.kind, .int .i64 X.num, .string X.text, .slice p6 X.list.length n6, .slice p6' X.names.length n6']) ∧ Hid (Below wN.heap.size wN w1) ∧ Hid (Below W.heap.size W w1)) := fun W pA nA pA' nA' pB nB pB' nB' hA hB hW => by
          refine (HIMP.out W pA nA pA' nA' pB nB pB' nB' hA hB).mono ?_
          rintro e w1 ⟨p6, n6, p6', n6', rfl, hO1, hb1⟩
          have h1 : Below wN.heap.size wN w1 := hW.out.trans (hb1.out.mono hW.out.size)
          exact ⟨p6, n6, p6', n6', rfl, HABwN.out _ h1, VlO.read _ _ _ _ _ hO1.out, h1, hb1⟩
        have HTAwN : Hid (∀ W, Hid (Below wN.heap.size wN W) → Calls Try.prog 11 #[.agg #[.int .i64 t.kind, .int .i64 t.num, .string t.text, .slice a t.list.length cap, .slice a' t.names.length cap']] W fun e w1 => ∃ (p : Option Addr) (n : Nat) (p' : Option Addr) (n' : Nat), e = .returned (.agg #[.int .i64 t.kind, .int .i64 t.num, .string t.text, .slice p t.list.length n, .slice p' t.names.length n']) ∧ ((w1.cell? ⟨w.heap.size, 0, none⟩ = some (.int .i64 t.kind) ∧ w1.cell? ⟨w.heap.size, 1, none⟩ = some (.int .i64 t.num) ∧ w1.cell? ⟨w.heap.size, 2, none⟩ = some (.string t.text) ∧ w1.cell? ⟨w.heap.size, 3, none⟩ = some (.slice a t.list.length cap) ∧ w1.cell? ⟨w.heap.size, 4, none⟩ = some (.slice a' t.names.length cap')) ∧ (w1.cell? ⟨w.heap.size + 1, 0, none⟩ = some (.int .i64 u.kind) ∧ w1.cell? ⟨w.heap.size + 1, 1, none⟩ = some (.int .i64 u.num) ∧ w1.cell? ⟨w.heap.size + 1, 2, none⟩ = some (.string u.text) ∧ w1.cell? ⟨w.heap.size + 1, 3, none⟩ = some (.slice m u.list.length mcap) ∧ w1.cell? ⟨w.heap.size + 1, 4, none⟩ = some (.slice m' u.names.length mcap'))) ∧ Hid (VlR w1 0 (k + 2) t [.int .i64 t.kind, .int .i64 t.num, .string t.text, .slice p t.list.length n, .slice p' t.names.length n']) ∧ Hid (Below wN.heap.size wN w1) ∧ Hid (Below W.heap.size W w1)) := fun W hB => toldT (w0 := wN) (C := fun W => (W.cell? ⟨w.heap.size, 0, none⟩ = some (.int .i64 t.kind) ∧ W.cell? ⟨w.heap.size, 1, none⟩ = some (.int .i64 t.num) ∧ W.cell? ⟨w.heap.size, 2, none⟩ = some (.string t.text) ∧ W.cell? ⟨w.heap.size, 3, none⟩ = some (.slice a t.list.length cap) ∧ W.cell? ⟨w.heap.size, 4, none⟩ = some (.slice a' t.names.length cap')) ∧ (W.cell? ⟨w.heap.size + 1, 0, none⟩ = some (.int .i64 u.kind) ∧ W.cell? ⟨w.heap.size + 1, 1, none⟩ = some (.int .i64 u.num) ∧ W.cell? ⟨w.heap.size + 1, 2, none⟩ = some (.string u.text) ∧ W.cell? ⟨w.heap.size + 1, 3, none⟩ = some (.slice m u.list.length mcap) ∧ W.cell? ⟨w.heap.size + 1, 4, none⟩ = some (.slice m' u.names.length mcap'))) HABwN.out hB (HR.out W (HKwwN.out.trans (Keeps.of_below hB.out (Nat.le_refl _) 0)))
        have HTBwN : Hid (∀ W, Hid (Below wN.heap.size wN W) → Calls Try.prog 11 #[.agg #[.int .i64 u.kind, .int .i64 u.num, .string u.text, .slice m u.list.length mcap, .slice m' u.names.length mcap']] W fun e w1 => ∃ (p : Option Addr) (n : Nat) (p' : Option Addr) (n' : Nat), e = .returned (.agg #[.int .i64 u.kind, .int .i64 u.num, .string u.text, .slice p u.list.length n, .slice p' u.names.length n']) ∧ ((w1.cell? ⟨w.heap.size, 0, none⟩ = some (.int .i64 t.kind) ∧ w1.cell? ⟨w.heap.size, 1, none⟩ = some (.int .i64 t.num) ∧ w1.cell? ⟨w.heap.size, 2, none⟩ = some (.string t.text) ∧ w1.cell? ⟨w.heap.size, 3, none⟩ = some (.slice a t.list.length cap) ∧ w1.cell? ⟨w.heap.size, 4, none⟩ = some (.slice a' t.names.length cap')) ∧ (w1.cell? ⟨w.heap.size + 1, 0, none⟩ = some (.int .i64 u.kind) ∧ w1.cell? ⟨w.heap.size + 1, 1, none⟩ = some (.int .i64 u.num) ∧ w1.cell? ⟨w.heap.size + 1, 2, none⟩ = some (.string u.text) ∧ w1.cell? ⟨w.heap.size + 1, 3, none⟩ = some (.slice m u.list.length mcap) ∧ w1.cell? ⟨w.heap.size + 1, 4, none⟩ = some (.slice m' u.names.length mcap'))) ∧ Hid (VlR w1 0 (k + 2) u [.int .i64 u.kind, .int .i64 u.num, .string u.text, .slice p u.list.length n, .slice p' u.names.length n']) ∧ Hid (Below wN.heap.size wN w1) ∧ Hid (Below W.heap.size W w1)) := fun W hB => toldT (w0 := wN) (C := fun W => (W.cell? ⟨w.heap.size, 0, none⟩ = some (.int .i64 t.kind) ∧ W.cell? ⟨w.heap.size, 1, none⟩ = some (.int .i64 t.num) ∧ W.cell? ⟨w.heap.size, 2, none⟩ = some (.string t.text) ∧ W.cell? ⟨w.heap.size, 3, none⟩ = some (.slice a t.list.length cap) ∧ W.cell? ⟨w.heap.size, 4, none⟩ = some (.slice a' t.names.length cap')) ∧ (W.cell? ⟨w.heap.size + 1, 0, none⟩ = some (.int .i64 u.kind) ∧ W.cell? ⟨w.heap.size + 1, 1, none⟩ = some (.int .i64 u.num) ∧ W.cell? ⟨w.heap.size + 1, 2, none⟩ = some (.string u.text) ∧ W.cell? ⟨w.heap.size + 1, 3, none⟩ = some (.slice m u.list.length mcap) ∧ W.cell? ⟨w.heap.size + 1, 4, none⟩ = some (.slice m' u.names.length mcap'))) HABwN.out hB (HU.out W (HKwwN.out.trans (Keeps.of_below hB.out (Nat.le_refl _) 0)))
        have HBd : Hid (Below wN.heap.size wN wN.drew) := (Below.refl _ wN).drew
        have HBz : Hid (Below wN.heap.size wN (wN.alloc (Obj.cells #[.int .i64 0, .int .i64 0, .string ⟨#[]⟩, .slice none 0 0, .slice none 0 0] 29)).drew) := ((Below.refl _ wN).alloc (Nat.le_refl _) _).drew
        obtain ⟨⟨c0, c1, c2, c3, c4⟩, ⟨d0, d1, d2, d3, d4⟩⟩ := HABwN.out wN (Below.refl _ _)
        have hz2 : w.heap.size + 1 < wN.heap.size := cell_lt d0
        go_upto_region 31 with fail
        go_cut [13] from 14 (fun v wx => ∃ (bx : Nat) (p13 : Option Addr) (n13 : Nat) (p13' : Option Addr) (n13' : Nat), v = .pointer (some ⟨bx, 0, none⟩) ∧ Hid (wx.cell? ⟨bx, 0, none⟩ = some (.int .i64 X.kind) ∧ wx.cell? ⟨bx, 1, none⟩ = some (.int .i64 X.num) ∧ wx.cell? ⟨bx, 2, none⟩ = some (.string X.text) ∧ wx.cell? ⟨bx, 3, none⟩ = some (.slice p13 X.list.length n13) ∧ wx.cell? ⟨bx, 4, none⟩ = some (.slice p13' X.names.length n13')) ∧ Hid (VlR wx 0 (k + 2) X [.int .i64 X.kind, .int .i64 X.num, .string X.text, .slice p13 X.list.length n13, .slice p13' X.names.length n13']) ∧ Hid (Below wN.heap.size wN wx))
        case first =>
          go_region_held3 (fun w' => (w'.cell? ⟨w.heap.size, 0, none⟩ = some (.int .i64 t.kind) ∧ w'.cell? ⟨w.heap.size, 1, none⟩ = some (.int .i64 t.num) ∧ w'.cell? ⟨w.heap.size, 2, none⟩ = some (.string t.text) ∧ w'.cell? ⟨w.heap.size, 3, none⟩ = some (.slice a t.list.length cap) ∧ w'.cell? ⟨w.heap.size, 4, none⟩ = some (.slice a' t.names.length cap')) ∧ (w'.cell? ⟨w.heap.size + 1, 0, none⟩ = some (.int .i64 u.kind) ∧ w'.cell? ⟨w.heap.size + 1, 1, none⟩ = some (.int .i64 u.num) ∧ w'.cell? ⟨w.heap.size + 1, 2, none⟩ = some (.string u.text) ∧ w'.cell? ⟨w.heap.size + 1, 3, none⟩ = some (.slice m u.list.length mcap) ∧ w'.cell? ⟨w.heap.size + 1, 4, none⟩ = some (.slice m' u.names.length mcap'))) (first | with_reducible exact ⟨⟨c0, c1, c2, c3, c4⟩, ⟨d0, d1, d2, d3, d4⟩⟩ | with_reducible exact ⟨⟨cell_alS c0 _, cell_alS c1 _, cell_alS c2 _, cell_alS c3 _, cell_alS c4 _⟩, ⟨cell_alS d0 _, cell_alS d1 _, cell_alS d2 _, cell_alS d3 _, cell_alS d4 _⟩⟩ | with_reducible exact ⟨⟨cell_drS c0, cell_drS c1, cell_drS c2, cell_drS c3, cell_drS c4⟩, ⟨cell_drS d0, cell_drS d1, cell_drS d2, cell_drS d3, cell_drS d4⟩⟩ | with_reducible exact ⟨⟨cell_drS (cell_alS c0 _), cell_drS (cell_alS c1 _), cell_drS (cell_alS c2 _), cell_drS (cell_alS c3 _), cell_drS (cell_alS c4 _)⟩, ⟨cell_drS (cell_alS d0 _), cell_drS (cell_alS d1 _), cell_drS (cell_alS d2 _), cell_drS (cell_alS d3 _), cell_drS (cell_alS d4 _)⟩⟩ | with_reducible exact ⟨⟨far5Q (by omega) c0, far5Q (by omega) c1, far5Q (by omega) c2, far5Q (by omega) c3, far5Q (by omega) c4⟩, ⟨far5Q (by omega) d0, far5Q (by omega) d1, far5Q (by omega) d2, far5Q (by omega) d3, far5Q (by omega) d4⟩⟩ | go_keep) (first | (go_at_call 11; with_reducible refine (Hid.out HTAwN _ (by first | assumption | exact belAl (by assumption))).mono ?_; (try clear c0 c1 c2 c3 c4 d0 d1 d2 d3 d4); rintro e wA ⟨pA, nA, pA', nA', rfl, ⟨⟨c0, c1, c2, c3, c4⟩, ⟨d0, d1, d2, d3, d4⟩⟩, HRA, HBA, HBn⟩; have hzA : w.heap.size + 1 < wA.heap.size := szM hz2 HBA; (try (with_reducible replace z0 := cell_on HBn.out z0; replace z1 := cell_on HBn.out z1; replace z2 := cell_on HBn.out z2; replace z3 := cell_on HBn.out z3; replace z4 := cell_on HBn.out z4; replace zf := frozen_onM HBn zn zf; replace zn := Nat.lt_of_lt_of_le zn HBn.out.size)); (try (with_reducible have HZ := newbox_keptQ HBn; obtain ⟨⟨z0, z1, z2, z3, z4⟩, zf, zn⟩ := HZ)); (try (with_reducible have HZ := newbox_keptN HBn; obtain ⟨⟨z0, z1, z2, z3, z4⟩, zf, zn⟩ := HZ)); (try (with_reducible replace HRB := keepR HRB HBn)); (try (with_reducible replace HRB := keepRa HRB HBn))) | (go_at_call 11; with_reducible refine (Hid.out HTBwN _ (by first | assumption | exact belAl (by assumption))).mono ?_; (try clear c0 c1 c2 c3 c4 d0 d1 d2 d3 d4); rintro e wB ⟨pB, nB, pB', nB', rfl, ⟨⟨c0, c1, c2, c3, c4⟩, ⟨d0, d1, d2, d3, d4⟩⟩, HRB, HBB, HBn⟩; have hzB : w.heap.size + 1 < wB.heap.size := szM hz2 HBB; (try (with_reducible replace z0 := cell_on HBn.out z0; replace z1 := cell_on HBn.out z1; replace z2 := cell_on HBn.out z2; replace z3 := cell_on HBn.out z3; replace z4 := cell_on HBn.out z4; replace zf := frozen_onM HBn zn zf; replace zn := Nat.lt_of_lt_of_le zn HBn.out.size)); (try (with_reducible have HZ := newbox_keptQ HBn; obtain ⟨⟨z0, z1, z2, z3, z4⟩, zf, zn⟩ := HZ)); (try (with_reducible have HZ := newbox_keptN HBn; obtain ⟨⟨z0, z1, z2, z3, z4⟩, zf, zn⟩ := HZ)); (try (with_reducible replace HRA := keepR HRA HBn)); (try (with_reducible replace HRA := keepRa HRA HBn))) | (go_at_call 26; with_reducible refine (Hid.out HTC _ _ _ _ _ _ _ _ _ (by first | exact HRA | exact keepAl HRA) (by first | exact HRB | exact keepAl HRB) (by first | assumption | exact belAl (by assumption))).mono ?_; (try clear c0 c1 c2 c3 c4 d0 d1 d2 d3 d4); (try have zw := zn); rintro e wX ⟨p6, n6, p6', n6', rfl, ⟨⟨c0, c1, c2, c3, c4⟩, ⟨d0, d1, d2, d3, d4⟩⟩, HRX, HBX, HBn⟩; have hzX : w.heap.size + 1 < wX.heap.size := szM hz2 HBX; (try (with_reducible replace z0 := cell_on HBn.out z0; replace z1 := cell_on HBn.out z1; replace z2 := cell_on HBn.out z2; replace z3 := cell_on HBn.out z3; replace z4 := cell_on HBn.out z4; replace zf := frozen_onM HBn zn zf; replace zn := Nat.lt_of_lt_of_le zn HBn.out.size)); (try (with_reducible have HZ := newbox_keptQ HBn; obtain ⟨⟨z0, z1, z2, z3, z4⟩, zf, zn⟩ := HZ)); (try (with_reducible have HZ := newbox_keptN HBn; obtain ⟨⟨z0, z1, z2, z3, z4⟩, zf, zn⟩ := HZ))))
          all_goals
            go_wp2_with fail
            go_meet
            case rel => first | with_reducible exact ⟨_, _, _, _, _, rfl, md_new HBX HRX⟩ | with_reducible exact ⟨_, _, _, _, _, rfl, md_put HBX HRX (by first | exact Nat.le_refl _ | exact HBA.out.size | exact HBB.out.size) (by first | exact zw | simp) z0 z1 z2 z3 z4⟩
        case rest =>
          obtain ⟨by', p13, n13, p13', n13', rfl, HX13, HR13, HBO⟩ := hcut
          rename World => wO
          clear c0 c1 c2 c3 c4 d0 d1 d2 d3 d4 HBd HBz HTAwN HTBwN HTC HABwN hz2
          have HKCO : Hid (Keeps 0 wC wO) := HKCN.out.trans (Keeps.of_below HBO.out (Nat.le_refl _) 0)
          have hNO : wN.heap.size ≤ wO.heap.size := HBO.out.size
          obtain ⟨y0, y1, y2, y3, y4⟩ := HX13.out
          obtain ⟨h0, h1, h2, h3, h4⟩ := HX6C.out wO HKCO.out
          go_wp2_with fail
          refine ((eqV_all (k + 2)).1 X _ _ _ _ _ HR13.out (HR6C.out _ HKCO.out)).mono ?_
          rintro e wP ⟨rfl, hbP⟩
          have hOP : wO.heap.size ≤ wP.heap.size := hbP.size
          have HBNP : Hid (Below wN.heap.size wN wP) := HBO.out.trans (hbP.mono hNO)
          have HBMP : Hid (Below wM.heap.size wM wP) := HBMN.out.trans (HBNP.out.mono hMN)
          have Hb9P : Hid (Owns wP wF.heap.size #[.int .i64 X.kind, .int .i64 X.num, .string X.text, .slice p9 X.list.length n9, .slice p9' X.names.length n9'] 29) := Hb9N.out.below HBNP.out (by omega)
          have HBwP : Hid (Below w.heap.size w wP) := HBwN.out.trans (HBNP.out.mono (by omega))
          clear hbP y0 y1 y2 y3 y4 h0 h1 h2 h3 h4 HX13 HR13 HBO HKCO
          obtain ⟨g0, g1, g2, g3, g4⟩ := five_ofQ Hb9P.out.cell
          go_wp2_with fail
          refine (HHELD.out wP HBMP.out).mono ?_
          rintro e wQ ⟨rfl, hbQ⟩
          have HBQ : Hid (Below w.heap.size w wQ) := HBwP.out.trans (hbQ.mono (by omega))
          clear hbQ g0 g1 g2 g3 g4
          go_wp2_with fail
          go_ret
          exact ⟨rfl, HBQ.out⟩

end Go.Proofs.Ytdaohfeajicamaa

namespace Go.Proofs.Ytdaohfeajicamaa
open Go.ChangeShapes Go.WideShapes Go.ChangeAt Go.RowKit Go.Deep
set_option linter.unusedVariables false
set_option linter.unusedSimpArgs false

theorem own : ownKnob Try.prog.godebug = none := by kernel_rfl
theorem laidOut : laidOutB Try.prog = true := by kernel_rfl

set_option maxRecDepth 100000 in
theorem lifted (os : Os) (started : os.Started) (H : Type) (enc : TypeId × Value → H) :
    ReturnsInHanded {} Try.checked os 6 .any (Rows.fnExactMergeDoSpec.pre6 enc Try.prog Try.f6 Rows.fnExactMergeDoRow.domain false) (Rows.fnExactMergeDoSpec.post enc Try.prog Try.f6 false true false false) := by
  refine returnsInHanded_of_change_sized (C := Try.checked) own started (by kernel_rfl) Try.func6
    (ChangeSpec.witness6 (enc := enc) (C := Try.checked) false ⟨#[], #[.agg #[.int .i64 0, .int .i64 0, .string ByteArray.empty, .slice none 0 0, .slice none 0 0], .agg #[.int .i64 0, .int .i64 0, .string ByteArray.empty, .slice none 0 0, .slice none 0 0]], []⟩ 8 (by kernel_rfl) (by kernel_rfl) (by kernel_rfl) (by kernel_rfl)) ?_
  intro W base args ds gs before hval0 hW hcnd hsz0 _
  have hval : ∀ (j : Nat) t v, Try.f6.params[j]? = some t → args[j]? = some v → Value.okWide Try.prog W .any base t v := hval0
  have hW' := hW
  obtain ⟨p, q, hA0, hV, rfl, hfz, hnd⟩ := hW
  have hA : DataW.TrodAll enc Try.prog W 0 (fun _ => true) true Try.f6.params.toList args.toList ds p := hA0
  have hsz : (DataW.weightsEach Try.prog (Try.f6.params.toList ++ Rows.fnExactMergeDoSpec.plain.varTypes Try.prog) (ds ++ gs)).all (· ≤ reachBytes) = true := hsz0
  rw [Try.params6] at hA hval hsz
  obtain ⟨v0, vs0, d0, ds0, p0, q0, hargs, rfl, rfl, h0, r0⟩ := trodAll_cons hA
  obtain ⟨v1, vs1, d1, ds1, p1, q1, hargs1, rfl, rfl, h1, r1⟩ := trodAll_cons r0
  obtain ⟨rfl, rfl, rfl⟩ := trodAll_nil r1
  obtain rfl : args = #[v0, v1] := by cases args; simp_all
  obtain ⟨rfl, rfl⟩ := trodVars_none hV
  have k0 := h0
  have lt0 : ∀ x ∈ p0, x.block < W.heap.size := by obtain ⟨m, hm⟩ := k0; exact DataW.trod_lt m _ _ _ hm
  have k1 := h1
  have lt1 : ∀ x ∈ p1, x.block < W.heap.size := by obtain ⟨m, hm⟩ := k1; exact DataW.trod_lt m _ _ _ hm
  obtain ⟨fuel, hf⟩ := h0
  obtain ⟨fuel', hf'⟩ := h1
  obtain ⟨t, ht⟩ := vl_of_trod fuel _ _ hf (fun m hm => by
    have h1 := List.all_eq_true.1 hsz m (DataW.weights_mem_each (j := 0) (t := 25) (d := d0) rfl rfl m hm)
    exact of_decide_eq_true h1)
  obtain ⟨u, hu⟩ := vl_of_trod fuel' _ _ hf' (fun m hm => by
    have h1 := List.all_eq_true.1 hsz m (DataW.weights_mem_each (j := 1) (t := 25) (d := d1) rfl rfl m hm)
    exact of_decide_eq_true h1)
  obtain ⟨a, c, a', c', hv⟩ := ht.cells
  rw [hv] at ht
  obtain ⟨cs, rfl, hcs⟩ := okWide_struct Try.underlying25 (hval 0 25 v0 rfl rfl)
  obtain rfl : cs = #[.int .i64 t.kind, .int .i64 t.num, .string t.text, .slice a t.list.length c, .slice a' t.names.length c'] := by
    have h1 : cs.toList = [.int .i64 t.kind, .int .i64 t.num, .string t.text, .slice a t.list.length c, .slice a' t.names.length c'] := by simpa [Value.cells] using hv
    exact Array.toList_inj.1 h1
  obtain ⟨b, d, b', d', hv'⟩ := hu.cells
  rw [hv'] at hu
  obtain ⟨cs', rfl, hcs'⟩ := okWide_struct Try.underlying25 (hval 1 25 v1 rfl rfl)
  obtain rfl : cs' = #[.int .i64 u.kind, .int .i64 u.num, .string u.text, .slice b u.list.length d, .slice b' u.names.length d'] := by
    have h1 : cs'.toList = [.int .i64 u.kind, .int .i64 u.num, .string u.text, .slice b u.list.length d, .slice b' u.names.length d'] := by simpa [Value.cells] using hv'
    exact Array.toList_inj.1 h1
  clear hA0 hval0
  refine (law_walk (fuel + fuel' + 5) (by omega) t u _ _ _ _ W (VlR.le (by omega) ht) (VlR.le (by omega) hu)).mono fun e W' ⟨he, bel⟩ => ?_
  subst he
  exact ⟨_, rfl, _, _, _, [], _, [], hW', trodAll_mk1 (shut_bool Try.underlying4 _), (trodAll_cons_mk (Below.trod laidOut (by kernel_rfl) (of_decide_eq_true (by kernel_rfl)) k0 bel lt0) (trodAll_cons_mk (Below.trod laidOut (by kernel_rfl) (of_decide_eq_true (by kernel_rfl)) k1 bel lt1) trodAll_mk0)), rfl, bel.frame _, fun h => by cases h⟩

theorem fnExactMergeDo_holds : Rows.FnExactMergeDoSaid :=
  OpenClaim.holds_of_wide 6 Try.f6 rfl rfl rfl rfl rfl rfl rfl ⟨rfl, rfl, rfl, rfl, rfl⟩ rfl rfl rfl rfl rfl (by kernel_rfl) Try.func6 (by kernel_rfl)
    (of_decide_eq_true (by kernel_rfl)) (by unfold Func.isWrapper; first | (rw [if_pos (by decide +kernel)]; kernel_rfl) | (rw [if_neg (by decide +kernel)]; exact ⟨rfl, rfl⟩))
    (fun os started H enc _ => lifted os started H enc)

end Go.Proofs.Ytdaohfeajicamaa
