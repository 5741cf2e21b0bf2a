
/-
  DERIVED. THE WALK OF spec.StoreOk.
-/
import Derived.Test.YthhnhigaoncakaaStB
import Derived.Test.YthhnhigaoncakaaVlOk
import Derived.Deep.Cut
import Derived.Lib.QuietBelow
import Derived.BigQuiet
import Derived.Test.YthhnhigaoncakaaStGe
namespace Go.Proofs.Ythhnhigaoncakaa
open Go.RowKit Go.Sort
set_option linter.unusedVariables false
set_option linter.unusedSimpArgs false

set_option maxHeartbeats 4000000 in
theorem specStoreOk_any (k : Nat) (l : List Nd) (v : Value) (w : World) (hrow : NdRow w 0 k l v) :
    Calls Try.prog 14 #[v] w fun e w' => e = .returned (.bool (storeB l)) ∧ Below w.heap.size w w' := by
  obtain ⟨a, cap, rfl, hw, hrest⟩ := Row.len hrow
  have hlen : (l.length : Int) ≤ 140737488351232 := by omega
  clear hrow
  go_enter Try.func14, Try.ntmps14
  go_wp2_with fail
  go_loopw [3] (fun i wr => ∃ j : Nat, j ≤ l.length ∧ i = .int .i64 j ∧ Hid (∀ (m : Nat) (h : m < l.length), m < j → nodeB l m l[m] = true) ∧ Hid (Below w.heap.size w wr)) (fun i _ => l.length - (intOf i).toNat)
  case atStart => exact ⟨0, Nat.zero_le _, rfl, (fun _ _ h => absurd h (Nat.not_lt_zero _)), Below.refl _ _⟩
  case round =>
    obtain ⟨j, hj, rfl, HALL, HB⟩ := hrel
    have hjl : (j : Int) ≤ 140737488351232 := by omega
    by_cases hlt : j < l.length
    · have hlti : (j : Int) < (l.length : Int) := by omega
      obtain ⟨b, off, rfl, _, hcs⟩ := hrest (List.ne_nil_of_length_pos (by omega))
      obtain ⟨cs, hl3, hc, hR⟩ := hcs j hlt
      obtain ⟨p, n, p', n', rfl⟩ := hR.cells
      have hk : Keeps 0 w wr := Keeps.of_below HB.out (Nat.le_refl _) _
      obtain ⟨c0, c1, c2, c3, c4, c5, c6⟩ := (hc.keeps hk (Nat.zero_le _)).seven
      obtain ⟨_, _, hv, hid, hty, hV⟩ := hR
      simp only [List.cons.injEq, true_and, and_true] at hv
      obtain ⟨rfl, rfl⟩ := hv
      obtain ⟨W, hW⟩ : ∃ W, W = wr.alloc (Obj.cells #[.int .i64 l[j].id, .string l[j].type, .int .i64 l[j].cells.kind, .int .i64 l[j].cells.num, .string l[j].cells.text, .slice p l[j].cells.list.length n, .slice p' l[j].cells.names.length n'] 44) := ⟨_, rfl⟩
      have HO : Hid (Owns W wr.heap.size #[.int .i64 l[j].id, .string l[j].type, .int .i64 l[j].cells.kind, .int .i64 l[j].cells.num, .string l[j].cells.text, .slice p l[j].cells.list.length n, .slice p' l[j].cells.names.length n'] 44) := by rw [hW]; exact Owns.made _ _ _
      have HBW : Hid (Below w.heap.size w W) := by rw [hW]; exact HB.out.alloc HB.out.size _
      have HOK : Hid (∀ W' ok, ok = okB false 4 l[j].cells → Keeps 0 W W' → Calls Try.prog 30 #[.agg #[.int .i64 l[j].cells.kind, .int .i64 l[j].cells.num, .string l[j].cells.text, .slice p l[j].cells.list.length n, .slice p' l[j].cells.names.length n'], .int .i64 4, .bool false] W' fun e w1 => e = .returned (.bool ok) ∧ Below W'.heap.size W' w1) := fun W' ok hok h => by
        subst hok
        exact l1Ok_all false 4 (by omega) k _ _ _ _ (VlR.keeps (((Keeps.of_below HBW.out (Nat.le_refl _) _)).trans h) _ _ _ hV)
      have hty' : l[j].type.size ≤ maxLen := by unfold maxLen; omega
      have HP : Hid (0 < j → W.cell? ⟨b, off + (j - 1) * 7, none⟩ = some (.int .i64 (l[j - 1]'(by omega)).id)) := fun h => by
        obtain ⟨cs, _, hc', hR'⟩ := hcs (j - 1) (by omega)
        obtain ⟨p, n, p', n', rfl⟩ := hR'.cells
        have hkW : Keeps 0 w W := Keeps.of_below HBW.out (Nat.le_refl _) _
        exact (hc'.keeps hkW (Nat.zero_le _)).seven.1
      clear hc hV hcs hrest hk hid hty
      have HN : Hid (∀ W' nm, nm = nameB l[j].type.data.toList → Calls Try.prog 29 #[.string l[j].type] W' fun e w1 => e = .returned (.bool nm) ∧ w1 = W') := fun W' nm hnm => by subst hnm; exact l1Name_any _ _ hty'
      have HI : Hid (∀ W' ir, ir = decide (0 ≤ l[j].id ∧ l[j].id ≤ 2147483647) → Calls Try.prog 28 #[.int .i64 l[j].id, .int .i64 0, .int .i64 2147483647] W' fun e w1 => e = .returned (.bool ir) ∧ w1 = W') := fun W' ir hir => by subst hir; exact l1In_any _ _ _ _
      have HND : Hid (nodeB l j l[j] = (decide (0 ≤ l[j].id ∧ l[j].id ≤ 2147483647) && nameB l[j].type.data.toList && decide (l[j].cells.kind = 5) && okB false 4 l[j].cells && aboveB l j l[j].id)) := rfl
      have hWs : W.heap.size = wr.heap.size + 1 := by rw [hW]; simp
      go_upto_region 5 with fail
      rw [← hW]
      clear c0 c1 c2 c3 c4 c5 c6
      have HW : Hid _ := hW
      clear hW
      have x0 : W.cell? ⟨wr.heap.size, 0, none⟩ = some (.int .i64 l[j].id) := by rw [HO.out.cell]; rfl
      have x1 : W.cell? ⟨wr.heap.size, 1, none⟩ = some (.string l[j].type) := by rw [HO.out.cell]; rfl
      have x2 : W.cell? ⟨wr.heap.size, 2, none⟩ = some (.int .i64 l[j].cells.kind) := by rw [HO.out.cell]; rfl
      have x3 : W.cell? ⟨wr.heap.size, 3, none⟩ = some (.int .i64 l[j].cells.num) := by rw [HO.out.cell]; rfl
      have x4 : W.cell? ⟨wr.heap.size, 4, none⟩ = some (.string l[j].cells.text) := by rw [HO.out.cell]; rfl
      have x5 : W.cell? ⟨wr.heap.size, 5, none⟩ = some (.slice p l[j].cells.list.length n) := by rw [HO.out.cell]; rfl
      have x6 : W.cell? ⟨wr.heap.size, 6, none⟩ = some (.slice p' l[j].cells.names.length n') := by rw [HO.out.cell]; rfl
      have k0 := cell_regrown x0
      have k1 := cell_regrown x1
      have k2 := cell_regrown x2
      have k3 := cell_regrown x3
      have k4 := cell_regrown x4
      have k5 := cell_regrown x5
      have k6 := cell_regrown x6
      clear x0 x1 x2 x3 x4 x5 x6
      obtain ⟨bI, hbI⟩ : ∃ q, decide (0 ≤ l[j].id ∧ l[j].id ≤ 2147483647) = q := ⟨_, rfl⟩
      obtain ⟨bN, hbN⟩ : ∃ q, nameB l[j].type.data.toList = q := ⟨_, rfl⟩
      obtain ⟨bO, hbO⟩ : ∃ q, okB false 4 l[j].cells = q := ⟨_, rfl⟩
      have cI : ∀ d os, Calls Try.prog 28 #[.int .i64 l[j].id, .int .i64 0, .int .i64 2147483647] (grow (redrawn W d) os) fun e w'' => e = .returned (.bool bI) ∧ ∃ p : Regrown, w'' = grow (redrawn W p.d) p.os := fun d os => Calls.regrown_of ((HI.out _ bI hbI.symm).mono (by rintro e w1 ⟨rfl, rfl⟩; exact ⟨rfl, Below.refl _ _⟩))
      have cN : ∀ d os, Calls Try.prog 29 #[.string l[j].type] (grow (redrawn W d) os) fun e w'' => e = .returned (.bool bN) ∧ ∃ p : Regrown, w'' = grow (redrawn W p.d) p.os := fun d os => Calls.regrown_of ((HN.out _ bN hbN.symm).mono (by rintro e w1 ⟨rfl, rfl⟩; exact ⟨rfl, Below.refl _ _⟩))
      have cO : ∀ d os, Calls Try.prog 30 #[.agg #[.int .i64 l[j].cells.kind, .int .i64 l[j].cells.num, .string l[j].cells.text, .slice p l[j].cells.list.length n, .slice p' l[j].cells.names.length n'], .int .i64 4, .bool false] (grow (redrawn W d) os) fun e w'' => e = .returned (.bool bO) ∧ ∃ p : Regrown, w'' = grow (redrawn W p.d) p.os := fun d os => Calls.regrown_of (HOK.out _ bO hbO.symm (Keeps.of_below (below_regrown W d os) (Nat.le_refl _) _))
      have HND2 : Hid (nodeB l j l[j] = (bI && bN && decide (l[j].cells.kind = 5) && bO && aboveB l j l[j].id)) := by show _ = _; rw [HND.out, hbI, hbN, hbO]
      have HBG : Hid (∀ d os, Below w.heap.size w (grow (redrawn W d) os)) := fun d os => HBW.out.trans ((below_regrown W d os).mono HBW.out.size)
      clear HND hbI hbN hbO HI HN HOK hty' HW
      cases bI
      · -- out of range
        have HBAD : Hid (storeB l = false) := store_bad hlt (by rw [HND2.out]; rfl)
        clear HND2
        refine wp_region_quiet_below (by kernel_rfl) (by kernel_rfl) ?_
        repeat (go_big_quiet_step (first | (go_at_call 28; exact cI _ _) | (go_at_call 29; exact cN _ _) | (go_at_call 30; exact cO _ _)))
        refine wpQuiet_nil ?_
        intro _ hw'
        obtain ⟨⟨dq, osq⟩, hw''⟩ := hw'
        subst hw''
        go_wp2_with fail
        go_ret
        exact ⟨ret_bool HBAD.out.symm, HBG.out _ _⟩
      cases bN
      · -- no name
        have HBAD : Hid (storeB l = false) := store_bad hlt (by rw [HND2.out]; rfl)
        clear HND2
        refine wp_region_quiet_below (by kernel_rfl) (by kernel_rfl) ?_
        repeat (go_big_quiet_step (first | (go_at_call 28; exact cI _ _) | (go_at_call 29; exact cN _ _) | (go_at_call 30; exact cO _ _)))
        refine wpQuiet_nil ?_
        intro _ hw'
        obtain ⟨⟨dq, osq⟩, hw''⟩ := hw'
        subst hw''
        go_wp2_with fail
        go_ret
        exact ⟨ret_bool HBAD.out.symm, HBG.out _ _⟩
      by_cases hk5 : l[j].cells.kind = 5
      case neg =>
        have hk5d : decide (l[j].cells.kind = 5) = false := decide_eq_false hk5
        have hk5b : (l[j].cells.kind != 5) = true := by simpa using hk5
        have HBAD : Hid (storeB l = false) := store_bad hlt (by rw [HND2.out, hk5d]; rfl)
        clear HND2
        refine wp_region_quiet_below (by kernel_rfl) (by kernel_rfl) ?_
        repeat (go_big_quiet_step (first | (go_at_call 28; exact cI _ _) | (go_at_call 29; exact cN _ _) | (go_at_call 30; exact cO _ _)))
        refine wpQuiet_nil ?_
        intro _ hw'
        obtain ⟨⟨dq, osq⟩, hw''⟩ := hw'
        subst hw''
        go_wp2_with fail
        go_ret
        exact ⟨ret_bool HBAD.out.symm, HBG.out _ _⟩
      have HK5 : Hid (decide (l[j].cells.kind = 5) = true) := decide_eq_true hk5
      rw [hk5] at k2 cO
      clear hk5
      cases bO
      · -- cells that are not ok
        have HBAD : Hid (storeB l = false) := store_bad hlt (by rw [HND2.out, HK5.out]; rfl)
        clear HND2
        refine wp_region_quiet_below (by kernel_rfl) (by kernel_rfl) ?_
        repeat (go_big_quiet_step (first | (go_at_call 28; exact cI _ _) | (go_at_call 29; exact cN _ _) | (go_at_call 30; exact cO _ _)))
        refine wpQuiet_nil ?_
        intro _ hw'
        obtain ⟨⟨dq, osq⟩, hw''⟩ := hw'
        subst hw''
        go_wp2_with fail
        go_ret
        exact ⟨ret_bool HBAD.out.symm, HBG.out _ _⟩
      by_cases hj0 : j = 0
      · have hjd : decide ((0 : Int) < (j : Int)) = false := decide_eq_false (by omega)
        have hjd2 : decide (0 < j) = false := decide_eq_false (by omega)
        have HGOOD : Hid (nodeB l j l[j] = true) := by
          have h1 : ∀ n, aboveB l j n = true := fun n => by rw [hj0]; exact above_zero _ _
          show _ = _
          rw [HND2.out, HK5.out, h1]; rfl
        clear hj0 HP
        have HALL2 : Hid (∀ (m : Nat) (h : m < l.length), m < j + 1 → nodeB l m l[m] = true) := fun m h hm => by
          rcases Nat.lt_succ_iff_lt_or_eq.1 hm with h1 | rfl
          · exact HALL.out m h h1
          · exact HGOOD.out
        clear HND2 HALL HGOOD
        refine wp_region_quiet_below (by kernel_rfl) (by kernel_rfl) ?_
        repeat (go_big_quiet_step (first | (go_at_call 28; exact cI _ _) | (go_at_call 29; exact cN _ _) | (go_at_call 30; exact cO _ _)))
        refine wpQuiet_nil ?_
        intro _ hw'
        obtain ⟨⟨dq, osq⟩, hw''⟩ := hw'
        subst hw''
        go_wp2_with fail
        exact ⟨⟨j + 1, by omega, by go_num, HALL2, HBG.out _ _⟩, by simp [intOf]; omega⟩
      have hj1 : 0 < j := by omega
      have y0 := cell_regrown (HP.out hj1)
      have hjd : decide ((0 : Int) < (j : Int)) = true := decide_eq_true (by omega)
      have hji : (0 : Int) < (j : Int) := by omega
      obtain ⟨yid, hyid⟩ : ∃ yid, (l[j - 1]'(by omega)).id = yid := ⟨_, rfl⟩
      rw [hyid] at y0
      have HAB : Hid (aboveB l j l[j].id = decide (yid < l[j].id)) := by show _ = _; rw [above_succ hlt hj1, hyid]
      have hjq : (j : Int) - 1 = ((j - 1 : Nat) : Int) := by omega
      have hjb : ((j - 1 : Nat) : Int) < (l.length : Int) := by omega
      have hjb0 : (0 : Int) ≤ (j : Int) - 1 := by omega
      have hjb1 : (j : Int) - 1 < (l.length : Int) := by omega
      by_cases hge : l[j].id ≤ yid
      · have hged : decide (l[j].id ≤ yid) = true := decide_eq_true hge
        have HBAD : Hid (storeB l = false) := store_bad hlt (by rw [HND2.out, HK5.out, HAB.out, decide_eq_false (by omega)]; rfl)
        clear HND2
        refine wp_region_quiet_below (by kernel_rfl) (by kernel_rfl) ?_
        repeat (go_big_quiet_step (first | (go_at_call 28; exact cI _ _) | (go_at_call 29; exact cN _ _) | (go_at_call 30; exact cO _ _)))
        refine wpQuiet_nil ?_
        intro _ hw'
        obtain ⟨⟨dq, osq⟩, hw''⟩ := hw'
        subst hw''
        go_wp2_with fail
        go_ret
        exact ⟨ret_bool HBAD.out.symm, HBG.out _ _⟩
      · have hged : decide (l[j].id ≤ yid) = false := decide_eq_false hge
        have HGOOD : Hid (nodeB l j l[j] = true) := by
          show _ = _
          rw [HND2.out, HK5.out, HAB.out, decide_eq_true (by omega)]; rfl
        have HALL2 : Hid (∀ (m : Nat) (h : m < l.length), m < j + 1 → nodeB l m l[m] = true) := fun m h hm => by
          rcases Nat.lt_succ_iff_lt_or_eq.1 hm with h1 | rfl
          · exact HALL.out m h h1
          · exact HGOOD.out
        clear HND2 HALL HGOOD
        refine wp_region_quiet_below (by kernel_rfl) (by kernel_rfl) ?_
        repeat (go_big_quiet_step (first | (go_at_call 28; exact cI _ _) | (go_at_call 29; exact cN _ _) | (go_at_call 30; exact cO _ _)))
        refine wpQuiet_nil ?_
        intro _ hw'
        obtain ⟨⟨dq, osq⟩, hw''⟩ := hw'
        subst hw''
        go_wp2_with fail
        exact ⟨⟨j + 1, by omega, by go_num, HALL2, HBG.out _ _⟩, by simp [intOf]; omega⟩
    · obtain rfl : j = l.length := by omega
      have HST : Hid (storeB l = (decide (1 ≤ l.length ∧ l.length ≤ 12) && headB l)) := store_all (fun i hi => HALL.out i hi hi)
      have HI : Hid (∀ W' ir, ir = decide (1 ≤ l.length ∧ l.length ≤ 12) → Calls Try.prog 28 #[.int .i64 (l.length : Int), .int .i64 1, .int .i64 12] W' fun e w1 => e = .returned (.bool ir) ∧ w1 = W') := fun W' ir hir => by
        refine (l1In_any _ _ _ _).mono ?_
        rintro e w1 ⟨rfl, rfl⟩
        refine ⟨ret_bool ?_, rfl⟩
        rw [hir, Bool.eq_iff_iff]
        simp only [decide_eq_true_eq]
        omega
      by_cases hr : 1 ≤ l.length ∧ l.length ≤ 12
      · have hrd := decide_eq_true hr
        obtain ⟨b, off, rfl, _, hcs⟩ := hrest (List.ne_nil_of_length_pos (by omega))
        obtain ⟨cs, hl3, hc, hR⟩ := hcs 0 (by omega)
        obtain ⟨p, n, p', n', rfl⟩ := hR.cells
        have hk : Keeps 0 w wr := Keeps.of_below HB.out (Nat.le_refl _) _
        obtain ⟨c0, c1, c2, c3, c4, c5, c6⟩ := (hc.keeps hk (Nat.zero_le _)).seven
        rw [Nat.zero_mul, Nat.add_zero] at c0 c1
        have HHD : Hid (headB l = (decide (l[0].id = 0) && (l[0].type.toList == queryText.toList))) := head_eq (by omega)
        have hl0 : (0 : Int) < (l.length : Int) := by omega
        clear hc hR hcs hrest c2 c3 c4 c5 c6
        by_cases hz : l[0].id = 0
        · rw [hz] at c0
          have HZ : Hid (headB l = (l[0].type.toList == queryText.toList)) := by show _ = _; rw [HHD.out, decide_eq_true hz]; rfl
          clear hz HHD
          go_wp2_with (go_at_call 28; refine (HI.out _ true hrd.symm).mono ?_; rintro e w1 ⟨rfl, rfl⟩)
          go_ret
          refine ⟨ret_bool ?_, HB.out⟩
          rw [HST.out, hrd, HZ.out, query_list]
          rfl
        · have hzb : (l[0].id == 0) = false := by simpa using hz
          have HZ : Hid (headB l = false) := by show _ = _; rw [HHD.out, decide_eq_false hz]; rfl
          clear HHD
          go_wp2_with (go_at_call 28; refine (HI.out _ true hrd.symm).mono ?_; rintro e w1 ⟨rfl, rfl⟩)
          go_ret
          refine ⟨ret_bool ?_, HB.out⟩
          rw [HST.out, hrd, HZ.out]
          rfl
      · have hrd := decide_eq_false hr
        go_wp2_with (go_at_call 28; refine (HI.out _ false hrd.symm).mono ?_; rintro e w1 ⟨rfl, rfl⟩)
        go_ret
        refine ⟨ret_bool ?_, HB.out⟩
        rw [HST.out, hrd]
        rfl

end Go.Proofs.Ythhnhigaoncakaa

namespace Go.Proofs.Ythhnhigaoncakaa
open Go.RowKit
set_option linter.unusedVariables false
set_option linter.unusedSimpArgs false

def AtI (l : List Nd) (id : Int) (w : World) (e : Ending) (w' : World) : Prop :=
  ((∃ (i : Nat) (h : i < l.length), (l[i]'h).id = id ∧ e = .returned (.int .i64 (i : Int))) ∨ ((∀ (j : Nat) (h : j < l.length), (l[j]'h).id ≠ id) ∧ e = .returned (.int .i64 (-1)))) ∧ w' = w

set_option maxHeartbeats 1000000 in
theorem l5At_any (k : Nat) (l : List Nd) (v : Value) (id : Int) (w : World) (hrow : NdRow w 0 k l v) :
    Calls Try.prog 31 #[v, .int .i64 id] w (AtI l id w) := by
  obtain ⟨a, cap, rfl, hw, hrest⟩ := Row.len hrow
  have hlen : (l.length : Int) ≤ 140737488351232 := by omega
  clear hrow
  go_enter Try.func31, Try.ntmps31
  go_wp2_with fail
  go_loop [5] (fun i => ∃ j : Nat, j ≤ l.length ∧ i = .int .i64 j ∧ Hid (∀ (m : Nat) (h : m < l.length), m < j → l[m].id ≠ id)) (fun i => l.length - (intOf i).toNat)
  case atStart => exact ⟨0, Nat.zero_le _, rfl, fun _ _ h => absurd h (Nat.not_lt_zero _)⟩
  case round =>
    obtain ⟨j, hj, rfl, HNO⟩ := hrel
    have hjl : (j : Int) ≤ 140737488351232 := by omega
    by_cases hlt : j < l.length
    · have hlti : (j : Int) < (l.length : Int) := by omega
      obtain ⟨b, off, rfl, _, hcs⟩ := hrest (List.ne_nil_of_length_pos (by omega))
      obtain ⟨cs, _, hc, hR⟩ := hcs j hlt
      obtain ⟨p, n, p', n', rfl⟩ := hR.cells
      obtain ⟨c0, _⟩ := hc.seven
      clear hc hR hcs hrest
      by_cases he : l[j].id = id
      · have heb : (l[j].id == id) = true := by simpa using he
        have HE : Hid (l[j].id = id) := he
        clear he
        go_wp2_with fail
        go_ret
        exact ⟨Or.inl ⟨j, hlt, HE.out, rfl⟩, rfl⟩
      · have heb : (l[j].id == id) = false := by simpa using he
        have HNO2 : Hid (∀ (m : Nat) (h : m < l.length), m < j + 1 → l[m].id ≠ id) := fun m h hm => by
          rcases Nat.lt_succ_iff_lt_or_eq.1 hm with h1 | rfl
          · exact HNO.out m h h1
          · exact he
        clear he
        go_wp2_with fail
        exact ⟨⟨j + 1, by omega, by go_num, HNO2⟩, by simp [intOf]; omega⟩
    · have hlti : decide ((j : Int) < (l.length : Int)) = false := decide_eq_false (by omega)
      go_wp2_with fail
      go_ret
      exact ⟨Or.inr ⟨fun m h => HNO.out m h (by omega), rfl⟩, rfl⟩

def SpecSG (k : Nat) (X : Vl) (w : World) (e : Ending) (w' : World) : Prop :=
  ∃ vl vn, e = .returned (.agg #[.int .i64 X.kind, .int .i64 X.num, .string X.text, vl, vn]) ∧ VlQ w' w.heap.size (k + 1) X [.int .i64 X.kind, .int .i64 X.num, .string X.text, vl, vn] ∧ Below w.heap.size w w'

set_option maxHeartbeats 2000000 in
theorem l5Get_any (k : Nat) (l : List Nd) (v : Value) (id : Int) (s : ByteArray) (w : World) (hs : s.size ≤ 140737488351232) (hst : storeB l = true) (hrow : NdRow w 0 (k + 2) l v) :
    Calls Try.prog 15 #[v, .int .i64 id, .string s] w (SpecSG k (vlOf (getO l id s)) w) := by
  obtain ⟨a, cap, rfl, _, _⟩ := Row.len hrow
  have HR : Hid (∀ W, Keeps 0 w W → NdRow W 0 (k + 2) l (.slice a l.length cap)) := fun W h => hrow.keeps h
  have HA : Hid (Asc l) := store_asc hst
  have HC : Hid (∀ (i : Nat) (hi : i < l.length), l[i].cells.kind = 5 ∧ okB false 4 l[i].cells = true) := fun i hi => store_cells hst i hi
  have hl12 : (l.length : Int) ≤ 12 := by have := store_len hst; omega
  clear hrow hst
  go_enter Try.func15, Try.ntmps15
  go_wp2_with fail
  refine (l5At_any (k + 2) l _ id _ (HR.out _ ((Keeps.refl _ _).alloc _))).mono ?_
  rintro e w1 ⟨hm, rfl⟩
  rcases hm with ⟨i, hi, hid, rfl⟩ | ⟨hno, rfl⟩
  · have HF : Hid (findN l id = some l[i]) := find_hit HA.out hi hid
    obtain ⟨h5, hok⟩ := HC.out i hi
    have hnl : l[i].cells.names.length ≤ l[i].cells.list.length := Nat.le_of_eq (ok_tree_names h5 hok)
    have HGO : Hid (getO l id s = treeO l[i].cells s) := by show getO l id s = _; unfold getO; rw [HF.out]
    have hi12 : (i : Int) < (l.length : Int) := by omega
    have hin : decide ((i : Int) < 0) = false := decide_eq_false (by omega)
    obtain ⟨a2, cap2, hv, _, hrest⟩ := Row.len (HR.out _ (((Keeps.refl _ w)).alloc (.cells #[.int .i64 0, .int .i64 0, .string ⟨#[]⟩, .slice none 0 0, .slice none 0 0] 27)))
    simp only [Value.slice.injEq, true_and] at hv
    obtain ⟨rfl, rfl⟩ := hv
    obtain ⟨b, off, rfl, _, hcs⟩ := hrest (List.ne_nil_of_length_pos (by omega))
    obtain ⟨cs, _, hc, hR⟩ := hcs i hi
    obtain ⟨p, n, p', n', rfl⟩ := hR.cells
    obtain ⟨W1, hW1⟩ : ∃ W, W = w.alloc (.cells #[.int .i64 0, .int .i64 0, .string ⟨#[]⟩, .slice none 0 0, .slice none 0 0] 27) := ⟨_, rfl⟩
    have HOR : Hid (Owns W1 w.heap.size #[.int .i64 0, .int .i64 0, .string ⟨#[]⟩, .slice none 0 0, .slice none 0 0] 27) := by rw [hW1]; exact Owns.made w _ _
    have HB1 : Hid (Below w.heap.size w W1) := by rw [hW1]; exact (Below.refl _ _).alloc (Nat.le_refl _) _
    rw [← hW1] at hc hR ⊢
    obtain ⟨c0, c1, c2, c3, c4, c5, c6⟩ := hc.seven
    obtain ⟨_, _, hv, _, _, hV⟩ := hR
    simp only [List.cons.injEq, true_and, and_true] at hv
    obtain ⟨rfl, rfl⟩ := hv
    have HV : Hid (VlR W1 0 (k + 2) l[i].cells [.int .i64 l[i].cells.kind, .int .i64 l[i].cells.num, .string l[i].cells.text, .slice p l[i].cells.list.length n, .slice p' l[i].cells.names.length n']) := hV
    have r0 : W1.cell? ⟨w.heap.size, 0, none⟩ = some (.int .i64 0) := by rw [HOR.out.cell]; rfl
    have r1 : W1.cell? ⟨w.heap.size, 1, none⟩ = some (.int .i64 0) := by rw [HOR.out.cell]; rfl
    have r2 : W1.cell? ⟨w.heap.size, 2, none⟩ = some (.string ⟨#[]⟩) := by rw [HOR.out.cell]; rfl
    have r3 : W1.cell? ⟨w.heap.size, 3, none⟩ = some (.slice none 0 0) := by rw [HOR.out.cell]; rfl
    have r4 : W1.cell? ⟨w.heap.size, 4, none⟩ = some (.slice none 0 0) := by rw [HOR.out.cell]; rfl
    have rf := fun o => HOR.out.frozen o
    have hz1 := HOR.out.lt
    have HW1 : Hid _ := hW1
    clear hc hV hcs hrest hid h5 hok hW1
    go_wp2_with fail
    refine (l1Tree_any (k + 1) l[i].cells _ _ s _ hnl hs HV.out).mono ?_
    rintro e w2 ⟨hm, hb2⟩
    replace r0 := cell_on hb2 r0
    replace r1 := cell_on hb2 r1
    replace r2 := cell_on hb2 r2
    replace r3 := cell_on hb2 r3
    replace r4 := cell_on hb2 r4
    replace rf : ∀ o, w2.frozen? ⟨w.heap.size, o, none⟩ = false := fun o => (hb2.frozen (p := ⟨w.heap.size, o, none⟩) hz1).trans (rf o)
    have HB2 : Hid (Below w.heap.size w w2) := HB1.out.trans (hb2.mono HB1.out.size)
    replace hz1 : w.heap.size < w2.heap.size := cell_lt r0
    have hx : ∃ (x : Vl) (a c a' c' : _), x = vlOf (treeO l[i].cells s) ∧ e = .returned (.tuple #[.agg #[.int .i64 x.kind, .int .i64 x.num, .string x.text, .slice a x.list.length c, .slice a' x.names.length c'], .bool (treeO l[i].cells s).isSome]) ∧ VlR w2 0 (k + 1) x [.int .i64 x.kind, .int .i64 x.num, .string x.text, .slice a x.list.length c, .slice a' x.names.length c'] := by
      cases ho : treeO l[i].cells s with
      | none =>
        rw [ho] at hm
        exact ⟨zeroV, none, 0, none, 0, rfl, hm, zero_read _ _ _⟩
      | some x =>
        rw [ho] at hm
        obtain ⟨vl2, vn2, he, hr⟩ := hm
        obtain ⟨a2, c2, a2', c2', hv2⟩ := hr.cells
        simp only [List.cons.injEq, true_and, and_true] at hv2
        obtain ⟨rfl, rfl⟩ := hv2
        exact ⟨x, a2, c2, a2', c2', rfl, he, hr⟩
    obtain ⟨x, xa, xc, xa', xc', hxe, rfl, hxr⟩ := hx
    have HXE : Hid (vlOf (getO l id s) = x) := by show _ = _; rw [hxe, HGO.out]
    have HXR : Hid (∀ W, Keeps 0 w2 W → VlR W 0 (k + 1) x [.int .i64 x.kind, .int .i64 x.num, .string x.text, .slice xa x.list.length xc, .slice xa' x.names.length xc']) := fun W h => VlR.keeps h _ _ _ hxr
    generalize hso : (treeO l[i].cells s).isSome = so at *
    clear hb2 hm hxe hxr hso c0 c1 c2 c3 c4 c5 c6
    go_wp2_with fail
    refine (copy_all (k + 1) x _ _ _ (HXR.out _ ((Keeps.refl _ _).alloc _))).mono ?_
    rintro e w3 ⟨vl3, vn3, rfl, hI, hb3⟩
    obtain ⟨p1, n1, p1', n1', rfl, rfl⟩ := hI.slices
    have HB23 : Hid (Below w2.heap.size w2 w3) := ((Below.refl _ _).alloc (Nat.le_refl _) _).trans (hb3.mono (by simp))
    replace r0 := cell_on HB23.out r0
    replace r1 := cell_on HB23.out r1
    replace r2 := cell_on HB23.out r2
    replace r3 := cell_on HB23.out r3
    replace r4 := cell_on HB23.out r4
    replace rf : ∀ o, w3.frozen? ⟨w.heap.size, o, none⟩ = false := fun o => (HB23.out.frozen (p := ⟨w.heap.size, o, none⟩) hz1).trans (rf o)
    have HB3 : Hid (Below w.heap.size w w3) := HB2.out.trans (HB23.out.mono HB2.out.size)
    have hz13 : w.heap.size < w3.heap.size := cell_lt r0
    have HI : Hid (VlI w3 (w2.heap.size + 1) w3.heap.size (k + 1) x [.int .i64 x.kind, .int .i64 x.num, .string x.text, .slice p1 x.list.length n1, .slice p1' x.names.length n1']) := size_alloc1 w2 _ ▸ hI
    clear hb3 hI
    go_wp2_with fail
    refine bodyPost_ret (v := .agg #[.int .i64 x.kind, .int .i64 x.num, .string x.text, .slice p1 x.list.length n1, .slice p1' x.names.length n1']) (by simp [results, Try.results15, go_sem, hz13, r0, r1, r2, r3, r4]; try rfl) rfl ?_
    rw [HXE.out]
    refine ⟨_, _, rfl, VlQ.base (base := w2.heap.size + 1) (by have := HB2.out.size; omega) _ _ _ (HI.out _ (fun b h1 h2 => ?_)), ((((HB3.out.setCell (by simp) _).setCell (by simp) _).setCell (by simp) _).setCell (by simp) _).setCell (by simp) _⟩
    simp only [World.setCell, Array.getElem?_modify]
    repeat rw [if_neg (by omega)]
  · have HV : Hid (vlOf (getO l id s) = zeroV) := by show _ = _; unfold getO; rw [find_none hno]; rfl
    clear hno
    go_wp2_with fail
    refine bodyPost_ret (v := .agg #[.int .i64 0, .int .i64 0, .string ByteArray.empty, .slice none 0 0, .slice none 0 0]) (by simp [results, Try.results15, go_sem]; try rfl) rfl ?_
    rw [HV.out]
    exact ⟨_, _, rfl, zero_readQ _ _ _, (Below.refl _ _).alloc (Nat.le_refl _) _⟩

set_option maxHeartbeats 2000000 in
theorem specStoreGet_any (k : Nat) (l : List Nd) (v : Value) (id : Int) (s : ByteArray) (w : World) (hs : s.size ≤ 140737488351232) (hrow : NdRow w 0 (k + 2) l v) :
    Calls Try.prog 5 #[v, .int .i64 id, .string s] w (SpecSG k (getV l id s) w) := by
  have HR : Hid (∀ W, Keeps 0 w W → NdRow W 0 (k + 2) l v) := fun W h => hrow.keeps h
  obtain ⟨a, m, cap, rfl⟩ := Row.slice hrow
  clear hrow
  go_enter Try.func5, Try.ntmps5
  go_wp2_with fail
  refine (specStoreOk_any (k + 2) l _ _ (HR.out _ ((Keeps.refl _ _).alloc _))).mono ?_
  rintro e w1 ⟨rfl, hb1⟩
  have HOR : Hid (Owns w1 w.heap.size #[.int .i64 0, .int .i64 0, .string ⟨#[]⟩, .slice none 0 0, .slice none 0 0] 27) := (Owns.made w _ _).below hb1 (by simp)
  have HB1 : Hid (Below w.heap.size w w1) := ((Below.refl _ _).alloc (Nat.le_refl _) _).trans (hb1.mono (by simp))
  have r0 : w1.cell? ⟨w.heap.size, 0, none⟩ = some (.int .i64 0) := by rw [HOR.out.cell]; rfl
  have r1 : w1.cell? ⟨w.heap.size, 1, none⟩ = some (.int .i64 0) := by rw [HOR.out.cell]; rfl
  have r2 : w1.cell? ⟨w.heap.size, 2, none⟩ = some (.string ⟨#[]⟩) := by rw [HOR.out.cell]; rfl
  have r3 : w1.cell? ⟨w.heap.size, 3, none⟩ = some (.slice none 0 0) := by rw [HOR.out.cell]; rfl
  have r4 : w1.cell? ⟨w.heap.size, 4, none⟩ = some (.slice none 0 0) := by rw [HOR.out.cell]; rfl
  have rf := fun o => HOR.out.frozen o
  have hz1 := HOR.out.lt
  clear hb1
  cases hst : storeB l
  · have HV : Hid (getV l id s = zeroV) := by show getV l id s = _; unfold getV; rw [hst]; rfl
    clear hst
    go_wp2_with fail
    refine bodyPost_ret (v := .agg #[.int .i64 0, .int .i64 0, .string ByteArray.empty, .slice none 0 0, .slice none 0 0]) (by simp [results, Try.results5, go_sem, hz1, r0, r1, r2, r3, r4]; try rfl) rfl ?_
    rw [HV.out]
    exact ⟨_, _, rfl, zero_readQ _ _ _, ((((HB1.out.setCell (by simp) _).setCell (by simp) _).setCell (by simp) _).setCell (by simp) _).setCell (by simp) _⟩
  · have HV : Hid (getV l id s = vlOf (getO l id s)) := by show getV l id s = _; unfold getV; rw [hst]; rfl
    have HST : Hid (storeB l = true) := hst
    clear hst
    go_wp2_with fail
    refine (l5Get_any k l _ id s w1 hs HST.out (HR.out _ (Keeps.of_below HB1.out (Nat.le_refl _) _))).mono ?_
    rintro e w2 ⟨vl2, vn2, rfl, hQ, hb2⟩
    obtain ⟨X, hX⟩ : ∃ X, vlOf (getO l id s) = X := ⟨_, rfl⟩
    rw [hX] at hQ HV ⊢
    obtain ⟨p1, n1, p1', n1', hv1⟩ := (VlQ.read _ _ _ hQ).cells
    simp only [List.cons.injEq, true_and, and_true] at hv1
    obtain ⟨rfl, rfl⟩ := hv1
    replace r0 := cell_on hb2 r0
    replace r1 := cell_on hb2 r1
    replace r2 := cell_on hb2 r2
    replace r3 := cell_on hb2 r3
    replace r4 := cell_on hb2 r4
    replace rf : ∀ o, w2.frozen? ⟨w.heap.size, o, none⟩ = false := fun o => (hb2.frozen (p := ⟨w.heap.size, o, none⟩) hz1).trans (rf o)
    have HB2 : Hid (Below w.heap.size w w2) := HB1.out.trans (hb2.mono HB1.out.size)
    have hz2 : w.heap.size < w2.heap.size := cell_lt r0
    have HQ : Hid (∀ W, Keeps (w.heap.size + 1) w2 W → VlQ W (w.heap.size + 1) (k + 1) X [.int .i64 X.kind, .int .i64 X.num, .string X.text, .slice p1 X.list.length n1, .slice p1' X.names.length n1']) := fun W h => VlQ.keeps h _ _ _ (VlQ.base (by omega) _ _ _ hQ)
    clear hb2 hQ hX
    go_wp2_with fail
    refine bodyPost_ret (v := .agg #[.int .i64 X.kind, .int .i64 X.num, .string X.text, .slice p1 X.list.length n1, .slice p1' X.names.length n1']) (by simp [results, Try.results5, go_sem, hz2, r0, r1, r2, r3, r4]; try rfl) rfl ?_
    rw [HV.out]
    refine ⟨_, _, rfl, VlQ.base (by omega) _ _ _ (HQ.out _ ⟨by simp [World.setCell], fun b h1 h2 => ?_⟩), ((((HB2.out.setCell (by simp) _).setCell (by simp) _).setCell (by simp) _).setCell (by simp) _).setCell (by simp) _⟩
    simp only [World.setCell, Array.getElem?_modify]
    repeat rw [if_neg (by omega)]

end Go.Proofs.Ythhnhigaoncakaa
