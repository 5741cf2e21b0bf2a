
/-
  DERIVED. THE OTHER SIDE's SUM: the walk of spec.l11Block.
-/
import Derived.Test.YtkogdlncjciboaaDoorSiC
import Derived.BigQuiet
namespace Go.Proofs.YtkogdlncjciboaaDoor
open Go.RowKit
set_option linter.unusedVariables false
set_option linter.unusedSimpArgs false

set_option maxHeartbeats 1000000 in
theorem l11Turn_quiet (x : W32) (n : Nat) (w : World) (h0 : 0 < n) (h1 : n < 32) :
    Calls Tryd.prog 48 #[.int .u32 (wI x), .int .i64 n] w fun e w' => e = .returned (.int .u32 (wI (rotR x n))) ∧ ∃ m, w' = w.drewN m := by
  have hn0 : ¬ ((n : Int) < 0) := by omega
  have hn1 : (n : Int) < 32 := by omega
  have hs : (32 : Int) - (n : Int) = ((32 - n : Nat) : Int) := by omega
  have hs0 : ¬ (((32 - n : Nat) : Int) < 0) := by omega
  go_enter Tryd.func48, Tryd.ntmps48
  go_wp2_with fail
  go_quiet (fail)
  go_wp2_with fail
  go_ret
  exact ⟨by rw [wI_shr', wI_shl', wI_or]; rfl, nq, rfl⟩

theorem wI_not3 (x : W32) : bits .xor .u32 (if IntKind.u32.signed = true then -1 else IntKind.u32.max) (wI x) = wI (~~~x) := wI_not x

/-- The six counts, as the walk meets them. -/
theorem l11Turn_count (x : W32) : Hid (
    (∀ w, Calls Tryd.prog 48 #[.int .u32 (wI x), .int .i64 6] w fun e w' => e = .returned (.int .u32 (wI (rotR x 6))) ∧ ∃ m, w' = w.drewN m) ∧
    (∀ w, Calls Tryd.prog 48 #[.int .u32 (wI x), .int .i64 11] w fun e w' => e = .returned (.int .u32 (wI (rotR x 11))) ∧ ∃ m, w' = w.drewN m) ∧
    (∀ w, Calls Tryd.prog 48 #[.int .u32 (wI x), .int .i64 25] w fun e w' => e = .returned (.int .u32 (wI (rotR x 25))) ∧ ∃ m, w' = w.drewN m) ∧
    (∀ w, Calls Tryd.prog 48 #[.int .u32 (wI x), .int .i64 2] w fun e w' => e = .returned (.int .u32 (wI (rotR x 2))) ∧ ∃ m, w' = w.drewN m) ∧
    (∀ w, Calls Tryd.prog 48 #[.int .u32 (wI x), .int .i64 13] w fun e w' => e = .returned (.int .u32 (wI (rotR x 13))) ∧ ∃ m, w' = w.drewN m) ∧
    (∀ w, Calls Tryd.prog 48 #[.int .u32 (wI x), .int .i64 22] w fun e w' => e = .returned (.int .u32 (wI (rotR x 22))) ∧ ∃ m, w' = w.drewN m)) :=
  ⟨fun w => l11Turn_quiet x 6 w (by omega) (by omega), fun w => l11Turn_quiet x 11 w (by omega) (by omega), fun w => l11Turn_quiet x 25 w (by omega) (by omega),
    fun w => l11Turn_quiet x 2 w (by omega) (by omega), fun w => l11Turn_quiet x 13 w (by omega) (by omega), fun w => l11Turn_quiet x 22 w (by omega) (by omega)⟩

/-- Words in memory. -/
def WAt (w : World) (g : Nat) (l : List W32) : Prop := ∀ (i : Nat), i < l.length → w.cell? ⟨g, i, none⟩ = some (.int .u32 (wI (wAt l i)))
/-- .. that may be turned. -/
def WOn (w : World) (g : Nat) (l : List W32) : Prop := ∀ (i : Nat), i < l.length → w.cell? ⟨g, i, none⟩ = some (.int .u32 (wI (wAt l i))) ∧ w.frozen? ⟨g, i, none⟩ = false
theorem WAt.on {w w' : World} {g : Nat} {l : List W32} (h : WAt w g l) (hb : Below w.heap.size w w') : WAt w' g l := fun i hi => cell_on hb (h i hi)
theorem WOn.set {w : World} {g : Nat} {l : List W32} (h : WOn w g l) (i : Nat) (hi : i < l.length) (x : W32) : WOn (w.setCell ⟨g, i, none⟩ (.int .u32 (wI x))) g (l.set i x) := fun j hj => by
  rw [List.length_set] at hj
  have e : wAt (l.set i x) j = if i = j then x else wAt l j := by
    unfold wAt
    rw [List.getD_eq_getElem?_getD, List.getD_eq_getElem?_getD, List.getElem?_set]
    by_cases hij : i = j
    · subst hij; simp [hi]
    · simp [hij]
  rw [e]
  by_cases hij : i = j
  · subst hij
    rw [if_pos rfl]
    exact ⟨World.cell?_setCell_same _ _ _ (h i hi).1, by simpa using (h i hi).2⟩
  · rw [if_neg hij, World.cell?_setCell_other _ _ _ _ (fun he => by injection he with _ he2 _; omega)]
    exact ⟨(h j hj).1, by simpa using (h j hj).2⟩
theorem WOn.drew {w : World} {g : Nat} {l : List W32} (h : WOn w g l) (n : Nat) : WOn (w.drewN n) g l := h
theorem S8.length (s : S8) : s.l.length = 8 := rfl

theorem plus_take (s r : S8) : ∀ i, i < 8 → (s.plus r).l.take (i + 1) = (s.plus r).l.take i ++ [wAt s.l i + wAt r.l i]
  | 0, _ => rfl
  | 1, _ => rfl
  | 2, _ => rfl
  | 3, _ => rfl
  | 4, _ => rfl
  | 5, _ => rfl
  | 6, _ => rfl
  | 7, _ => rfl
  | i + 8, h => absurd h (by omega)

/-- The words while they are moved: k of them are. -/
def shl (s : S8) : Nat → List W32
  | 0 => [s.a, s.b, s.c, s.d, s.e, s.f, s.g, s.h]
  | 1 => [s.a, s.b, s.c, s.d, s.e, s.f, s.g, s.g]
  | 2 => [s.a, s.b, s.c, s.d, s.e, s.f, s.f, s.g]
  | 3 => [s.a, s.b, s.c, s.d, s.e, s.e, s.f, s.g]
  | 4 => [s.a, s.b, s.c, s.d, s.d, s.e, s.f, s.g]
  | 5 => [s.a, s.b, s.c, s.c, s.d, s.e, s.f, s.g]
  | 6 => [s.a, s.b, s.b, s.c, s.d, s.e, s.f, s.g]
  | _ => [s.a, s.a, s.b, s.c, s.d, s.e, s.f, s.g]
theorem shl_len (s : S8) (k : Nat) : (shl s k).length = 8 := by unfold shl; split <;> rfl
theorem shl_put (s : S8) : ∀ k, k < 7 → (shl s k).set (7 - k) (wAt (shl s k) (6 - k)) = shl s (k + 1)
  | 0, _ => rfl
  | 1, _ => rfl
  | 2, _ => rfl
  | 3, _ => rfl
  | 4, _ => rfl
  | 5, _ => rfl
  | 6, _ => rfl
  | k + 7, h => absurd h (by omega)
theorem shl_end (s : S8) (t u : W32) : ((shl s 7).set 4 (wAt (shl s 7) 4 + t)).set 0 u = [u, s.a, s.b, s.c, s.d + t, s.e, s.f, s.g] := rfl

theorem Turns.cellS {bs : List Nat} {w w' : World} {p : Addr} {v : Value} (h : Turns bs w w') (hc : w.cell? p = some v) (hn : p.block ∉ bs) : w'.cell? p = some v :=
  (World.cell?_of_block (h.block _ (cell_lt hc) hn)).trans hc

set_option maxHeartbeats 4000000 in
set_option maxRecDepth 100000 in
theorem l11Block_any (s : S8) (hb hcap : Nat) (blk : List UInt8) (bb off cap : Nat) (w : World) (hh : WAt w hb s.l) (hl : blk.length = 64) (hbb : BytesAt w bb off blk) :
    Calls Tryd.prog 38 #[.slice (some ⟨hb, 0, none⟩) 8 hcap, .slice (some ⟨bb, off, none⟩) 64 cap] w fun e w' => ∃ g cap', e = .returned (.slice (some ⟨g, 0, none⟩) 8 cap') ∧ WAt w' g (s.mix blk).l ∧ Below w.heap.size w w' := by
  have HH : Hid (WAt w hb s.l) := hh
  have HLB : Hid (blk.length = 64) := hl
  have HBY : Hid (BytesAt w bb off blk) := hbb
  obtain ⟨i0, hi0, hz0, hz1, hz2⟩ := info_u32'
  clear hh hl hbb
  go_enter Tryd.func38, Tryd.ntmps38
  go_wp2_with fail
  refine (l11Words_any blk bb off cap w HLB.out HBY.out).mono ?_
  rintro e w1 ⟨gw, cw, rfl, hrw, hb1⟩
  have HW1 : Hid (WAt w1 gw (wordsTo blk 64)) := fun i hi => hrw.at hi
  have HB1 : Hid (Below w.heap.size w w1) := hb1
  clear hrw hb1
  go_wp2_with fail
  refine (l11Consts_any w1).mono ?_
  rintro e w2 ⟨rfl, hok, hb2⟩
  have HW2 : Hid (WAt w2 gw (wordsTo blk 64)) := WAt.on HW1.out hb2
  have HK2 : Hid (WAt w2 w1.heap.size kTab) := fun i hi => by rw [hok.cell, List.getElem?_toArray]; exact wCells_at _ _ hi
  have HB2 : Hid (Below w.heap.size w w2) := HB1.out.trans (hb2.mono HB1.out.size)
  have HH2 : Hid (WAt w2 hb s.l) := WAt.on HH.out (HB2.out)
  clear hok hb2 HW1 HB1 HH
  go_wp2_with (at_builtin; refine wpList_append_lies _ rfl _ _ _ rfl w2.heap.size 53 i0 _ 1 4 Tryd.underlying54 hi0 hz0 hz1 hz2 rfl (by omega) (.slice (some ⟨w2.heap.size, 0, none⟩) 0 0) 0 [] (by rfl) (World.ownsRow_made w2 #[] 0 (Nat.le_refl _) (Nat.zero_le _) rfl) ⟨hb, 0, none⟩ 8 hcap (wCells s.l) (by rfl) (by rfl) (fun j u hu => by
    have hj : j < s.l.length := by have := (List.getElem?_eq_some_iff.1 hu).1; simpa [wCells] using this
    rw [wCells_at _ _ hj] at hu
    injection hu with hu
    rw [Addr.add_mid, Nat.zero_add, ← hu]
    exact cell_al (HH2.out j hj) _) (by simp [wCells, S8.l, Value.oneCell']) (by omega) (by unfold maxLen; omega) (by omega) (by simp) (w2.heap.size + 1) (by simp) ?_)
  intro g cg w3 hown hgrow hat hlt
  have hgw : gw < w2.heap.size := cell_lt (HW2.out 0 (by rw [wordsTo_length]; omega))
  have hkw : w1.heap.size < w2.heap.size := cell_lt (HK2.out 0 (by decide))
  have hgg := (World.ownsRow.lt hown g rfl).1
  have hB3 : Below w2.heap.size w2 w3 := ((Below.refl _ _).alloc (Nat.le_refl _) _).grown hgrow (by simp) (fun k hk => by injection hk with hk; subst hk; exact Nat.le_refl _)
  have HB3 : Hid (Below w.heap.size w w3) := HB2.out.trans (hB3.mono HB2.out.size)
  have HW3 : Hid (WAt w3 gw (wordsTo blk 64)) := WAt.on HW2.out hB3
  have HK3 : Hid (WAt w3 w1.heap.size kTab) := WAt.on HK2.out hB3
  have HH3 : Hid (WAt w3 hb s.l) := WAt.on HH2.out hB3
  have HO3 : Hid (WOn w3 g s.l) := fun i hi => ⟨by
    have h1 := World.ownsRow.cells hown rfl i _ (wCells_at _ _ hi)
    simpa [Addr.add_mid] using h1, World.ownsRow.frozenAt hown i⟩
  have HNG : Hid (gw ≠ g ∧ w1.heap.size ≠ g ∧ hb ≠ g ∧ w.heap.size ≤ g) := ⟨by omega, by omega, by have h2 : hb < w2.heap.size := cell_lt (HH2.out 0 (by show 0 < 8; omega)); omega, by have := HB2.out.size; omega⟩
  clear hgw hkw hgg hB3 hown hgrow hat hlt HW2 HK2 HB2 HH2 HBY
  go_wp2_with fail
  go_loopw [8] (fun iv wr => ∃ n : Nat, n ≤ 64 ∧ iv = .int .i64 n ∧ Hid (WOn wr g (rounds s blk n).l) ∧ Hid (Turns [g] w3 wr)) (fun iv _ => 64 - (intOf iv).toNat)
  case atStart => exact ⟨0, Nat.zero_le _, rfl, HO3, Turns.refl _ _⟩
  case round =>
    clear HO3
    obtain ⟨n, hn, rfl, HO, HT⟩ := hrel
    by_cases hlt : n < 64
    · have hlti : (n : Int) < 64 := by omega
      obtain ⟨x, hx⟩ : ∃ x, wAt (wordsTo blk 64) n = x := ⟨_, rfl⟩
      obtain ⟨k, hk⟩ : ∃ k, wAt kTab n = k := ⟨_, rfl⟩
      have cx := HT.out.cellS (HW3.out n (by rw [wordsTo_length]; omega)) (by simp; exact HNG.out.1)
      have ck := HT.out.cellS (HK3.out n (by show n < 64; omega)) (by simp; exact HNG.out.2.1)
      rw [hx] at cx
      rw [hk] at ck
      obtain ⟨r, hr⟩ : ∃ r, rounds s blk n = r := ⟨_, rfl⟩
      have HST : Hid (rounds s blk (n + 1) = r.step (x + k)) := by
        show (rounds s blk n).step (wAt (wordsTo blk 64) n + wAt kTab n) = _
        rw [hr, hx, hk]
      rw [hr] at HO
      obtain ⟨a0, a1, a2, a3, a4, a5, a6, a7⟩ := r
      have c0 : wr.cell? ⟨g, 0, none⟩ = some (.int .u32 (wI a0)) := (HO.out 0 (by show _ < 8; omega)).1
      have c1 : wr.cell? ⟨g, 1, none⟩ = some (.int .u32 (wI a1)) := (HO.out 1 (by show _ < 8; omega)).1
      have c2 : wr.cell? ⟨g, 2, none⟩ = some (.int .u32 (wI a2)) := (HO.out 2 (by show _ < 8; omega)).1
      have c4 : wr.cell? ⟨g, 4, none⟩ = some (.int .u32 (wI a4)) := (HO.out 4 (by show _ < 8; omega)).1
      have c5 : wr.cell? ⟨g, 5, none⟩ = some (.int .u32 (wI a5)) := (HO.out 5 (by show _ < 8; omega)).1
      have c6 : wr.cell? ⟨g, 6, none⟩ = some (.int .u32 (wI a6)) := (HO.out 6 (by show _ < 8; omega)).1
      have c7 : wr.cell? ⟨g, 7, none⟩ = some (.int .u32 (wI a7)) := (HO.out 7 (by show _ < 8; omega)).1
      clear hx hk hr HW3 HK3
      go_wp2_with fail
      go_quiet (first | with_reducible exact Calls.quiet_of ((l11Turn_count a4).out.1 _) | with_reducible exact Calls.quiet_of ((l11Turn_count a4).out.2.1 _) | with_reducible exact Calls.quiet_of ((l11Turn_count a4).out.2.2.1 _))
      rename Nat => n7
      simp only [wI_xor]
      obtain ⟨eW, heW⟩ : ∃ y, rotR a4 6 ^^^ rotR a4 11 ^^^ rotR a4 25 = y := ⟨_, rfl⟩
      have HEW : Hid (big1 a4 = eW) := heW
      rw [heW]
      clear heW
      go_wp2_with fail
      go_quiet (fail)
      rename Nat => n8
      simp only [wI_not3, wI_and, wI_xor]
      obtain ⟨cW, hcW⟩ : ∃ y, a4 &&& a5 ^^^ ~~~a4 &&& a6 = y := ⟨_, rfl⟩
      have HCW : Hid (chW a4 a5 a6 = cW) := hcW
      rw [hcW]
      clear hcW
      go_wp2_with fail
      go_quiet (fail)
      rename Nat => n9
      simp only [wI_sum4, wI_mod]
      obtain ⟨tW, htW⟩ : ∃ y, a7 + eW + cW + k + x = y := ⟨_, rfl⟩
      have HTW : Hid (a7 + eW + cW + k + x = tW) := htW
      rw [htW]
      clear htW cx ck
      obtain ⟨v, hv⟩ : ∃ v, ((wr.drewN n7).drewN n8).drewN n9 = v := ⟨_, rfl⟩
      have HOV : Hid (WOn v g (S8.mk a0 a1 a2 a3 a4 a5 a6 a7).l) := by rw [← hv]; exact HO.out
      have HTV : Hid (Turns [g] w3 v) := by rw [← hv]; exact ⟨HT.out.os, HT.out.tape, HT.out.output, HT.out.size, HT.out.block⟩
      rw [hv]
      clear hv HO HT c0 c1 c2 c4 c5 c6 c7
      have c0 : v.cell? ⟨g, 0, none⟩ = some (.int .u32 (wI a0)) := (HOV.out 0 (by show _ < 8; omega)).1
      have c1 : v.cell? ⟨g, 1, none⟩ = some (.int .u32 (wI a1)) := (HOV.out 1 (by show _ < 8; omega)).1
      have c2 : v.cell? ⟨g, 2, none⟩ = some (.int .u32 (wI a2)) := (HOV.out 2 (by show _ < 8; omega)).1
      go_wp2_with fail
      go_quiet (first | with_reducible exact Calls.quiet_of ((l11Turn_count a0).out.2.2.2.1 _) | with_reducible exact Calls.quiet_of ((l11Turn_count a0).out.2.2.2.2.1 _) | with_reducible exact Calls.quiet_of ((l11Turn_count a0).out.2.2.2.2.2 _))
      simp only [wI_xor]
      obtain ⟨aW, haW⟩ : ∃ y, rotR a0 2 ^^^ rotR a0 13 ^^^ rotR a0 22 = y := ⟨_, rfl⟩
      have HAW : Hid (big0 a0 = aW) := haW
      rw [haW]
      clear haW
      go_wp2_with fail
      go_quiet (fail)
      simp only [wI_and, wI_xor]
      obtain ⟨mW, hmW⟩ : ∃ y, a0 &&& a1 ^^^ a0 &&& a2 ^^^ a1 &&& a2 = y := ⟨_, rfl⟩
      have HMW : Hid (majW a0 a1 a2 = mW) := hmW
      rw [hmW]
      clear hmW c0 c1 c2
      go_wp2_with fail
      go_loopw [14] (fun nv wi => ∃ j q : Nat, j + q = 7 ∧ nv = .int .i64 (q : Int) ∧ Hid (WOn wi g (shl ⟨a0, a1, a2, a3, a4, a5, a6, a7⟩ j)) ∧ Hid (Turns [g] w3 wi)) (fun nv _ => (intOf nv).toNat)
      case atStart => exact ⟨0, 7, rfl, rfl, HOV.out, ⟨HTV.out.os, HTV.out.tape, HTV.out.output, HTV.out.size, HTV.out.block⟩⟩
      case round =>
        rename World => wi
        clear HOV HTV
        obtain ⟨j, q, hjq, rfl, HO, HT⟩ := hrel
        have HJQ : Hid (j + q = 7) := hjq
        by_cases hq0 : 0 < q
        · have hq0i : (0 : Int) < (q : Int) := by omega
          obtain ⟨p, hp⟩ : ∃ p, q = p + 1 := ⟨q - 1, by omega⟩
          have HPQ : Hid (q = p + 1) := hp
          have hpi : (q : Int) - 1 = (p : Int) := by omega
          have hq8 : (q : Int) < 8 := by omega
          have hp8 : (p : Int) < 8 := by omega
          have wp : IntKind.i64.wrap (p : Int) = (p : Int) := wrap64 _ (by omega)
          obtain ⟨y, hy⟩ : ∃ y, wAt (shl ⟨a0, a1, a2, a3, a4, a5, a6, a7⟩ j) p = y := ⟨_, rfl⟩
          have cp : wi.cell? ⟨g, p, none⟩ = some (.int .u32 (wI y)) := by rw [← hy]; exact (HO.out p (by rw [shl_len]; omega)).1
          have cq := (HO.out q (by rw [shl_len]; omega)).1
          have fq := (HO.out q (by rw [shl_len]; omega)).2
          have HP : Hid (WOn (wi.setCell ⟨g, q, none⟩ (.int .u32 (wI y))) g (shl ⟨a0, a1, a2, a3, a4, a5, a6, a7⟩ (j + 1))) := by
            have h1 := WOn.set HO.out q (by rw [shl_len]; omega) y
            have h2 := shl_put ⟨a0, a1, a2, a3, a4, a5, a6, a7⟩ j (by omega)
            rw [show 7 - j = q by omega, show 6 - j = p by omega, hy] at h2
            rw [h2] at h1
            exact h1
          have HTP : Hid (Turns [g] w3 (wi.setCell ⟨g, q, none⟩ (.int .u32 (wI y)))) := HT.out.setCell (by simp) _
          clear HO HT hy hp hjq hq0
          go_wp2_with fail
          exact ⟨⟨j + 1, p, by have h1 := HPQ.out; have h2 := HJQ.out; omega, rfl, HP, HTP⟩, by have h1 := HPQ.out; simp [intOf]; omega⟩
        · obtain rfl : q = 0 := by omega
          obtain rfl : j = 7 := by omega
          have h4 := HO.out 4 (by rw [shl_len]; omega)
          have c4 : wi.cell? ⟨g, 4, none⟩ = some (.int .u32 (wI a3)) := h4.1
          have f4 : wi.frozen? ⟨g, 4, none⟩ = false := h4.2
          have h0 := HO.out 0 (by rw [shl_len]; omega)
          have c0 : wi.cell? ⟨g, 0, none⟩ = some (.int .u32 (wI a0)) := h0.1
          have f0 : wi.frozen? ⟨g, 0, none⟩ = false := h0.2
          have HE : Hid (WOn ((wi.setCell ⟨g, 4, none⟩ (.int .u32 (wI (a3 + tW)))).setCell ⟨g, 0, none⟩ (.int .u32 (wI (tW + aW + mW)))) g (rounds s blk (n + 1)).l) := by
            have h1 := WOn.set (WOn.set HO.out 4 (by rw [shl_len]; omega) (a3 + tW)) 0 (by rw [List.length_set, shl_len]; omega) (tW + aW + mW)
            have e : (rounds s blk (n + 1)).l = [tW + aW + mW, a0, a1, a2, a3 + tW, a4, a5, a6] := by
              rw [HST.out, step_spec]
              simp only [S8.l, HEW.out, HCW.out, HTW.out, HAW.out, HMW.out]
            show WOn _ _ _
            rw [e]
            exact h1
          have HTE : Hid (Turns [g] w3 ((wi.setCell ⟨g, 4, none⟩ (.int .u32 (wI (a3 + tW)))).setCell ⟨g, 0, none⟩ (.int .u32 (wI (tW + aW + mW))))) := (HT.out.setCell (by simp) _).setCell (by simp) _
          clear HO HT h4 h0 hjq hq0 HJQ HST HEW HCW HTW HAW HMW
          go_wp2_with fail
          simp only [wI_sum3, wI_mod]
          exact ⟨⟨n + 1, by omega, by go_num, HE, HTE⟩, by simp [intOf]; omega⟩
    · have hn64 : n = 64 := by omega
      have e64 : ((n : Nat) : Int) = 64 := by omega
      rw [e64]
      rw [hn64] at HO
      clear e64 hn64
      obtain ⟨r, hr⟩ : ∃ r, rounds s blk 64 = r := ⟨_, rfl⟩
      rw [hr] at HO
      have HRR : Hid (s.mix blk = s.plus r) := by show s.plus (rounds s blk 64) = _; rw [hr]
      have HB : Hid (Below w.heap.size w wr) := HT.out.below HB3.out (by simp; exact HNG.out.2.2.2) HB3.out.size
      have HG : Hid (WAt wr g r.l) := fun i hi => (HO.out i hi).1
      have HH : Hid (WAt wr hb s.l) := fun i hi => HT.out.cellS (HH3.out i hi) (by simp; exact HNG.out.2.2.1)
      clear hr HW3 HK3 HO HT HB3 HH3 HNG hlt hn
      go_wp2_with fail
      go_loopw [15, 16] (fun sv iv wl => ∃ (i g2 cap' : Nat) (l : List W32), i ≤ 8 ∧ iv = .int .i64 i ∧ sv = .slice (some ⟨g2, 0, none⟩) i cap' ∧ Hid (l = (s.plus r).l.take i) ∧ Hid (RowW wr.heap.size wl g2 cap' l) ∧ Hid (Below wr.heap.size wr wl)) (fun _ iv _ => 8 - (intOf iv).toNat)
      case atStart =>
        exact ⟨0, wr.heap.size, 0, [], by omega, rfl, rfl, rfl, World.ownsRow_made wr #[] 0 (Nat.le_refl _) (Nat.zero_le _) rfl, (Below.refl _ _).alloc (Nat.le_refl _) _⟩
      case round =>
        rename World => wl
        obtain ⟨i, g2, cap', l, hi8, rfl, rfl, HWL, HR, HBL⟩ := hrel
        have hln : l.length = i := by rw [HWL.out, List.length_take]; show min i 8 = i; omega
        by_cases hlt : i < 8
        · have hlti : (i : Int) < 8 := by omega
          obtain ⟨x, hx⟩ : ∃ x, wAt s.l i = x := ⟨_, rfl⟩
          obtain ⟨y, hy⟩ : ∃ y, wAt r.l i = y := ⟨_, rfl⟩
          have cx : wl.cell? ⟨hb, i, none⟩ = some (.int .u32 (wI x)) := by rw [← hx]; exact (WAt.on HH.out HBL.out) i hlt
          have cy : wl.cell? ⟨g, i, none⟩ = some (.int .u32 (wI y)) := by rw [← hy]; exact (WAt.on HG.out HBL.out) i hlt
          have HXY : Hid (l ++ [x + y] = (s.plus r).l.take (i + 1)) := by
            show _ = _
            rw [plus_take s r i hlt, ← HWL.out, hx, hy]
          have HRA : Hid (∀ o, World.ownsRow (wl.alloc o) wr.heap.size 53 1 (.slice (some ⟨g2, 0, none⟩) i cap') i (wCells l)) := fun o => by
            have h1 := World.ownsRow.alloc HR.out o
            rw [hln] at h1
            exact h1
          clear hx hy
          go_wp2_with fail
          go_region_law (refine step_append_lies _ (by rfl) _ _ _ (by rfl) wr.heap.size 53 i0 _ 1 4 Tryd.underlying54 hi0 hz0 hz1 hz2 rfl (by omega) (.slice (some ⟨g2, 0, none⟩) i cap') i (wCells l) (by rfl) (HRA.out _) ⟨wl.heap.size, 0, none⟩ 1 1 [_] (by rfl) (by rfl) (World.news_of_block (cs := #[_]) (t := 53) (fr := (0, 0)) (heap_alloc_new wl _)) (by simp [Value.oneCell']) (by omega) (by unfold maxLen; omega) (by omega) (by have := HBL.out.size; simp; omega) (wl.heap.size + 1) (by simp) ?_; intro g' cap2 w5 hown2 hgrow hat hlt2)
          all_goals
            have HR2 : Hid (RowW wr.heap.size w5 g' cap2 (l ++ [x + y])) := RowW.grown hln (by first | rw [wI_add] | rw [wI_mod]) hown2
            have HB2 : Hid (Below wr.heap.size wr w5) := below_grown (o := .cells #[.int .u32 (IntKind.u32.wrap (wI x + wI y))] 53) HBL.out (Nat.le_refl _) ⟨hgrow.os, hgrow.tape, hgrow.output, hgrow.size, hgrow.block⟩ (fun k hk => (World.ownsRow.lt HR.out k hk).1)
            clear hown2 hgrow hat HWL HR HBL HRA cx cy
            go_wp2_with fail
            exact ⟨⟨i + 1, g', cap2, l ++ [x + y], by omega, by go_num, rfl, HXY, HR2, HB2⟩, by simp [intOf]; omega⟩
        · obtain rfl : i = 8 := by omega
          have HWE : Hid (WAt wl g2 (s.mix blk).l) := by
            have e : l = (s.plus r).l := HWL.out
            rw [HRR.out, ← e]
            exact fun j hj => HR.out.at hj
          have HBE : Hid (Below w.heap.size w wl) := HB.out.trans (HBL.out.mono HB.out.size)
          clear HWL HR HBL HRR HB HG HH hln hlt
          go_wp2_with fail
          go_ret
          exact ⟨g2, cap', rfl, HWE.out, HBE.out⟩

end Go.Proofs.YtkogdlncjciboaaDoor
