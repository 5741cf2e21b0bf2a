
/-
  DERIVED. THE WALK OF spec.StoreOk.
-/
import Derived.Test.YtehdepnemdbopaaStB
import Derived.Test.YtehdepnemdbopaaVlOk
import Derived.Deep.Cut
import Derived.Lib.QuietBelow
import Derived.BigQuiet
namespace Go.Proofs.Ytehdepnemdbopaa
open Go.RowKit Go.Sort
set_option linter.unusedVariables false
set_option linter.unusedSimpArgs false

set_option maxHeartbeats 4000000 in
theorem specStoreOk_any (k : Nat) (l : List Nd) (v : Value) (w : World) (hrow : NdRow w 0 k l v) :
    Calls Try.prog 44 #[v] w fun e w' => e = .returned (.bool (storeB l)) ∧ Below w.heap.size w w' := by
  obtain ⟨a, cap, rfl, hw, hrest⟩ := Row.len hrow
  have hlen : (l.length : Int) ≤ 140737488351232 := by omega
  clear hrow
  go_enter Try.func44, Try.ntmps44
  go_wp2_with fail
  go_loopw [3] (fun i wr => ∃ j : Nat, j ≤ l.length ∧ i = .int .i64 j ∧ Hid (∀ (m : Nat) (h : m < l.length), m < j → nodeB l m l[m] = true) ∧ Hid (Below w.heap.size w wr)) (fun i _ => l.length - (intOf i).toNat)
  case atStart => exact ⟨0, Nat.zero_le _, rfl, (fun _ _ h => absurd h (Nat.not_lt_zero _)), Below.refl _ _⟩
  case round =>
    obtain ⟨j, hj, rfl, HALL, HB⟩ := hrel
    have hjl : (j : Int) ≤ 140737488351232 := by omega
    by_cases hlt : j < l.length
    · have hlti : (j : Int) < (l.length : Int) := by omega
      obtain ⟨b, off, rfl, _, hcs⟩ := hrest (List.ne_nil_of_length_pos (by omega))
      obtain ⟨cs, hl3, hc, hR⟩ := hcs j hlt
      obtain ⟨p, n, p', n', rfl⟩ := hR.cells
      have hk : Keeps 0 w wr := Keeps.of_below HB.out (Nat.le_refl _) _
      obtain ⟨c0, c1, c2, c3, c4, c5, c6⟩ := (hc.keeps hk (Nat.zero_le _)).seven
      obtain ⟨_, _, hv, hid, hty, hV⟩ := hR
      simp only [List.cons.injEq, true_and, and_true] at hv
      obtain ⟨rfl, rfl⟩ := hv
      obtain ⟨W, hW⟩ : ∃ W, W = wr.alloc (Obj.cells #[.int .i64 l[j].id, .string l[j].type, .int .i64 l[j].cells.kind, .int .i64 l[j].cells.num, .string l[j].cells.text, .slice p l[j].cells.list.length n, .slice p' l[j].cells.names.length n'] 82) := ⟨_, rfl⟩
      have HO : Hid (Owns W wr.heap.size #[.int .i64 l[j].id, .string l[j].type, .int .i64 l[j].cells.kind, .int .i64 l[j].cells.num, .string l[j].cells.text, .slice p l[j].cells.list.length n, .slice p' l[j].cells.names.length n'] 82) := by rw [hW]; exact Owns.made _ _ _
      have HBW : Hid (Below w.heap.size w W) := by rw [hW]; exact HB.out.alloc HB.out.size _
      have HOK : Hid (∀ W' ok, ok = okB false 4 l[j].cells → Keeps 0 W W' → Calls Try.prog 42 #[.agg #[.int .i64 l[j].cells.kind, .int .i64 l[j].cells.num, .string l[j].cells.text, .slice p l[j].cells.list.length n, .slice p' l[j].cells.names.length n'], .int .i64 4, .bool false] W' fun e w1 => e = .returned (.bool ok) ∧ Below W'.heap.size W' w1) := fun W' ok hok h => by
        subst hok
        exact l1Ok_all false 4 (by omega) k _ _ _ _ (VlR.keeps (((Keeps.of_below HBW.out (Nat.le_refl _) _)).trans h) _ _ _ hV)
      have hty' : l[j].type.size ≤ maxLen := by unfold maxLen; omega
      have HP : Hid (0 < j → W.cell? ⟨b, off + (j - 1) * 7, none⟩ = some (.int .i64 (l[j - 1]'(by omega)).id)) := fun h => by
        obtain ⟨cs, _, hc', hR'⟩ := hcs (j - 1) (by omega)
        obtain ⟨p, n, p', n', rfl⟩ := hR'.cells
        have hkW : Keeps 0 w W := Keeps.of_below HBW.out (Nat.le_refl _) _
        exact (hc'.keeps hkW (Nat.zero_le _)).seven.1
      clear hc hV hcs hrest hk hid hty
      have HN : Hid (∀ W' nm, nm = nameB l[j].type.data.toList → Calls Try.prog 65 #[.string l[j].type] W' fun e w1 => e = .returned (.bool nm) ∧ w1 = W') := fun W' nm hnm => by subst hnm; exact l1Name_any _ _ hty'
      have HI : Hid (∀ W' ir, ir = decide (0 ≤ l[j].id ∧ l[j].id ≤ 2147483647) → Calls Try.prog 64 #[.int .i64 l[j].id, .int .i64 0, .int .i64 2147483647] W' fun e w1 => e = .returned (.bool ir) ∧ w1 = W') := fun W' ir hir => by subst hir; exact l1In_any _ _ _ _
      have HND : Hid (nodeB l j l[j] = (decide (0 ≤ l[j].id ∧ l[j].id ≤ 2147483647) && nameB l[j].type.data.toList && decide (l[j].cells.kind = 5) && okB false 4 l[j].cells && aboveB l j l[j].id)) := rfl
      have hWs : W.heap.size = wr.heap.size + 1 := by rw [hW]; simp
      go_upto_region 5 with fail
      rw [← hW]
      clear c0 c1 c2 c3 c4 c5 c6
      have HW : Hid _ := hW
      clear hW
      have x0 : W.cell? ⟨wr.heap.size, 0, none⟩ = some (.int .i64 l[j].id) := by rw [HO.out.cell]; rfl
      have x1 : W.cell? ⟨wr.heap.size, 1, none⟩ = some (.string l[j].type) := by rw [HO.out.cell]; rfl
      have x2 : W.cell? ⟨wr.heap.size, 2, none⟩ = some (.int .i64 l[j].cells.kind) := by rw [HO.out.cell]; rfl
      have x3 : W.cell? ⟨wr.heap.size, 3, none⟩ = some (.int .i64 l[j].cells.num) := by rw [HO.out.cell]; rfl
      have x4 : W.cell? ⟨wr.heap.size, 4, none⟩ = some (.string l[j].cells.text) := by rw [HO.out.cell]; rfl
      have x5 : W.cell? ⟨wr.heap.size, 5, none⟩ = some (.slice p l[j].cells.list.length n) := by rw [HO.out.cell]; rfl
      have x6 : W.cell? ⟨wr.heap.size, 6, none⟩ = some (.slice p' l[j].cells.names.length n') := by rw [HO.out.cell]; rfl
      have k0 := cell_regrown x0
      have k1 := cell_regrown x1
      have k2 := cell_regrown x2
      have k3 := cell_regrown x3
      have k4 := cell_regrown x4
      have k5 := cell_regrown x5
      have k6 := cell_regrown x6
      clear x0 x1 x2 x3 x4 x5 x6
      obtain ⟨bI, hbI⟩ : ∃ q, decide (0 ≤ l[j].id ∧ l[j].id ≤ 2147483647) = q := ⟨_, rfl⟩
      obtain ⟨bN, hbN⟩ : ∃ q, nameB l[j].type.data.toList = q := ⟨_, rfl⟩
      obtain ⟨bO, hbO⟩ : ∃ q, okB false 4 l[j].cells = q := ⟨_, rfl⟩
      have cI : ∀ d os, Calls Try.prog 64 #[.int .i64 l[j].id, .int .i64 0, .int .i64 2147483647] (grow (redrawn W d) os) fun e w'' => e = .returned (.bool bI) ∧ ∃ p : Regrown, w'' = grow (redrawn W p.d) p.os := fun d os => Calls.regrown_of ((HI.out _ bI hbI.symm).mono (by rintro e w1 ⟨rfl, rfl⟩; exact ⟨rfl, Below.refl _ _⟩))
      have cN : ∀ d os, Calls Try.prog 65 #[.string l[j].type] (grow (redrawn W d) os) fun e w'' => e = .returned (.bool bN) ∧ ∃ p : Regrown, w'' = grow (redrawn W p.d) p.os := fun d os => Calls.regrown_of ((HN.out _ bN hbN.symm).mono (by rintro e w1 ⟨rfl, rfl⟩; exact ⟨rfl, Below.refl _ _⟩))
      have cO : ∀ d os, Calls Try.prog 42 #[.agg #[.int .i64 l[j].cells.kind, .int .i64 l[j].cells.num, .string l[j].cells.text, .slice p l[j].cells.list.length n, .slice p' l[j].cells.names.length n'], .int .i64 4, .bool false] (grow (redrawn W d) os) fun e w'' => e = .returned (.bool bO) ∧ ∃ p : Regrown, w'' = grow (redrawn W p.d) p.os := fun d os => Calls.regrown_of (HOK.out _ bO hbO.symm (Keeps.of_below (below_regrown W d os) (Nat.le_refl _) _))
      have HND2 : Hid (nodeB l j l[j] = (bI && bN && decide (l[j].cells.kind = 5) && bO && aboveB l j l[j].id)) := by show _ = _; rw [HND.out, hbI, hbN, hbO]
      have HBG : Hid (∀ d os, Below w.heap.size w (grow (redrawn W d) os)) := fun d os => HBW.out.trans ((below_regrown W d os).mono HBW.out.size)
      clear HND hbI hbN hbO HI HN HOK hty' HW
      cases bI
      · -- out of range
        have HBAD : Hid (storeB l = false) := store_bad hlt (by rw [HND2.out]; rfl)
        clear HND2
        refine wp_region_quiet_below (by kernel_rfl) (by kernel_rfl) ?_
        repeat (go_big_quiet_step (first | (go_at_call 64; exact cI _ _) | (go_at_call 65; exact cN _ _) | (go_at_call 42; exact cO _ _)))
        refine wpQuiet_nil ?_
        intro _ hw'
        obtain ⟨⟨dq, osq⟩, hw''⟩ := hw'
        subst hw''
        go_wp2_with fail
        go_ret
        exact ⟨ret_bool HBAD.out.symm, HBG.out _ _⟩
      cases bN
      · -- no name
        have HBAD : Hid (storeB l = false) := store_bad hlt (by rw [HND2.out]; rfl)
        clear HND2
        refine wp_region_quiet_below (by kernel_rfl) (by kernel_rfl) ?_
        repeat (go_big_quiet_step (first | (go_at_call 64; exact cI _ _) | (go_at_call 65; exact cN _ _) | (go_at_call 42; exact cO _ _)))
        refine wpQuiet_nil ?_
        intro _ hw'
        obtain ⟨⟨dq, osq⟩, hw''⟩ := hw'
        subst hw''
        go_wp2_with fail
        go_ret
        exact ⟨ret_bool HBAD.out.symm, HBG.out _ _⟩
      by_cases hk5 : l[j].cells.kind = 5
      case neg =>
        have hk5d : decide (l[j].cells.kind = 5) = false := decide_eq_false hk5
        have hk5b : (l[j].cells.kind != 5) = true := by simpa using hk5
        have HBAD : Hid (storeB l = false) := store_bad hlt (by rw [HND2.out, hk5d]; rfl)
        clear HND2
        refine wp_region_quiet_below (by kernel_rfl) (by kernel_rfl) ?_
        repeat (go_big_quiet_step (first | (go_at_call 64; exact cI _ _) | (go_at_call 65; exact cN _ _) | (go_at_call 42; exact cO _ _)))
        refine wpQuiet_nil ?_
        intro _ hw'
        obtain ⟨⟨dq, osq⟩, hw''⟩ := hw'
        subst hw''
        go_wp2_with fail
        go_ret
        exact ⟨ret_bool HBAD.out.symm, HBG.out _ _⟩
      have HK5 : Hid (decide (l[j].cells.kind = 5) = true) := decide_eq_true hk5
      rw [hk5] at k2 cO
      clear hk5
      cases bO
      · -- cells that are not ok
        have HBAD : Hid (storeB l = false) := store_bad hlt (by rw [HND2.out, HK5.out]; rfl)
        clear HND2
        refine wp_region_quiet_below (by kernel_rfl) (by kernel_rfl) ?_
        repeat (go_big_quiet_step (first | (go_at_call 64; exact cI _ _) | (go_at_call 65; exact cN _ _) | (go_at_call 42; exact cO _ _)))
        refine wpQuiet_nil ?_
        intro _ hw'
        obtain ⟨⟨dq, osq⟩, hw''⟩ := hw'
        subst hw''
        go_wp2_with fail
        go_ret
        exact ⟨ret_bool HBAD.out.symm, HBG.out _ _⟩
      by_cases hj0 : j = 0
      · have hjd : decide ((0 : Int) < (j : Int)) = false := decide_eq_false (by omega)
        have hjd2 : decide (0 < j) = false := decide_eq_false (by omega)
        have HGOOD : Hid (nodeB l j l[j] = true) := by
          have h1 : ∀ n, aboveB l j n = true := fun n => by rw [hj0]; exact above_zero _ _
          show _ = _
          rw [HND2.out, HK5.out, h1]; rfl
        clear hj0 HP
        have HALL2 : Hid (∀ (m : Nat) (h : m < l.length), m < j + 1 → nodeB l m l[m] = true) := fun m h hm => by
          rcases Nat.lt_succ_iff_lt_or_eq.1 hm with h1 | rfl
          · exact HALL.out m h h1
          · exact HGOOD.out
        clear HND2 HALL HGOOD
        refine wp_region_quiet_below (by kernel_rfl) (by kernel_rfl) ?_
        repeat (go_big_quiet_step (first | (go_at_call 64; exact cI _ _) | (go_at_call 65; exact cN _ _) | (go_at_call 42; exact cO _ _)))
        refine wpQuiet_nil ?_
        intro _ hw'
        obtain ⟨⟨dq, osq⟩, hw''⟩ := hw'
        subst hw''
        go_wp2_with fail
        exact ⟨⟨j + 1, by omega, by go_num, HALL2, HBG.out _ _⟩, by simp [intOf]; omega⟩
      have hj1 : 0 < j := by omega
      have y0 := cell_regrown (HP.out hj1)
      have hjd : decide ((0 : Int) < (j : Int)) = true := decide_eq_true (by omega)
      have hji : (0 : Int) < (j : Int) := by omega
      obtain ⟨yid, hyid⟩ : ∃ yid, (l[j - 1]'(by omega)).id = yid := ⟨_, rfl⟩
      rw [hyid] at y0
      have HAB : Hid (aboveB l j l[j].id = decide (yid < l[j].id)) := by show _ = _; rw [above_succ hlt hj1, hyid]
      have hjq : (j : Int) - 1 = ((j - 1 : Nat) : Int) := by omega
      have hjb : ((j - 1 : Nat) : Int) < (l.length : Int) := by omega
      have hjb0 : (0 : Int) ≤ (j : Int) - 1 := by omega
      have hjb1 : (j : Int) - 1 < (l.length : Int) := by omega
      by_cases hge : l[j].id ≤ yid
      · have hged : decide (l[j].id ≤ yid) = true := decide_eq_true hge
        have HBAD : Hid (storeB l = false) := store_bad hlt (by rw [HND2.out, HK5.out, HAB.out, decide_eq_false (by omega)]; rfl)
        clear HND2
        refine wp_region_quiet_below (by kernel_rfl) (by kernel_rfl) ?_
        repeat (go_big_quiet_step (first | (go_at_call 64; exact cI _ _) | (go_at_call 65; exact cN _ _) | (go_at_call 42; exact cO _ _)))
        refine wpQuiet_nil ?_
        intro _ hw'
        obtain ⟨⟨dq, osq⟩, hw''⟩ := hw'
        subst hw''
        go_wp2_with fail
        go_ret
        exact ⟨ret_bool HBAD.out.symm, HBG.out _ _⟩
      · have hged : decide (l[j].id ≤ yid) = false := decide_eq_false hge
        have HGOOD : Hid (nodeB l j l[j] = true) := by
          show _ = _
          rw [HND2.out, HK5.out, HAB.out, decide_eq_true (by omega)]; rfl
        have HALL2 : Hid (∀ (m : Nat) (h : m < l.length), m < j + 1 → nodeB l m l[m] = true) := fun m h hm => by
          rcases Nat.lt_succ_iff_lt_or_eq.1 hm with h1 | rfl
          · exact HALL.out m h h1
          · exact HGOOD.out
        clear HND2 HALL HGOOD
        refine wp_region_quiet_below (by kernel_rfl) (by kernel_rfl) ?_
        repeat (go_big_quiet_step (first | (go_at_call 64; exact cI _ _) | (go_at_call 65; exact cN _ _) | (go_at_call 42; exact cO _ _)))
        refine wpQuiet_nil ?_
        intro _ hw'
        obtain ⟨⟨dq, osq⟩, hw''⟩ := hw'
        subst hw''
        go_wp2_with fail
        exact ⟨⟨j + 1, by omega, by go_num, HALL2, HBG.out _ _⟩, by simp [intOf]; omega⟩
    · obtain rfl : j = l.length := by omega
      have HST : Hid (storeB l = (decide (1 ≤ l.length ∧ l.length ≤ 12) && headB l)) := store_all (fun i hi => HALL.out i hi hi)
      have HI : Hid (∀ W' ir, ir = decide (1 ≤ l.length ∧ l.length ≤ 12) → Calls Try.prog 64 #[.int .i64 (l.length : Int), .int .i64 1, .int .i64 12] W' fun e w1 => e = .returned (.bool ir) ∧ w1 = W') := fun W' ir hir => by
        refine (l1In_any _ _ _ _).mono ?_
        rintro e w1 ⟨rfl, rfl⟩
        refine ⟨ret_bool ?_, rfl⟩
        rw [hir, Bool.eq_iff_iff]
        simp only [decide_eq_true_eq]
        omega
      by_cases hr : 1 ≤ l.length ∧ l.length ≤ 12
      · have hrd := decide_eq_true hr
        obtain ⟨b, off, rfl, _, hcs⟩ := hrest (List.ne_nil_of_length_pos (by omega))
        obtain ⟨cs, hl3, hc, hR⟩ := hcs 0 (by omega)
        obtain ⟨p, n, p', n', rfl⟩ := hR.cells
        have hk : Keeps 0 w wr := Keeps.of_below HB.out (Nat.le_refl _) _
        obtain ⟨c0, c1, c2, c3, c4, c5, c6⟩ := (hc.keeps hk (Nat.zero_le _)).seven
        rw [Nat.zero_mul, Nat.add_zero] at c0 c1
        have HHD : Hid (headB l = (decide (l[0].id = 0) && (l[0].type.toList == queryText.toList))) := head_eq (by omega)
        have hl0 : (0 : Int) < (l.length : Int) := by omega
        clear hc hR hcs hrest c2 c3 c4 c5 c6
        by_cases hz : l[0].id = 0
        · rw [hz] at c0
          have HZ : Hid (headB l = (l[0].type.toList == queryText.toList)) := by show _ = _; rw [HHD.out, decide_eq_true hz]; rfl
          clear hz HHD
          go_wp2_with (go_at_call 64; refine (HI.out _ true hrd.symm).mono ?_; rintro e w1 ⟨rfl, rfl⟩)
          go_ret
          refine ⟨ret_bool ?_, HB.out⟩
          rw [HST.out, hrd, HZ.out, query_list]
          rfl
        · have hzb : (l[0].id == 0) = false := by simpa using hz
          have HZ : Hid (headB l = false) := by show _ = _; rw [HHD.out, decide_eq_false hz]; rfl
          clear HHD
          go_wp2_with (go_at_call 64; refine (HI.out _ true hrd.symm).mono ?_; rintro e w1 ⟨rfl, rfl⟩)
          go_ret
          refine ⟨ret_bool ?_, HB.out⟩
          rw [HST.out, hrd, HZ.out]
          rfl
      · have hrd := decide_eq_false hr
        go_wp2_with (go_at_call 64; refine (HI.out _ false hrd.symm).mono ?_; rintro e w1 ⟨rfl, rfl⟩)
        go_ret
        refine ⟨ret_bool ?_, HB.out⟩
        rw [HST.out, hrd]
        rfl

end Go.Proofs.Ytehdepnemdbopaa

namespace Go.Proofs.Ytehdepnemdbopaa
open Go.RowKit
set_option linter.unusedVariables false
set_option linter.unusedSimpArgs false

def AtI (l : List Nd) (id : Int) (w : World) (e : Ending) (w' : World) : Prop :=
  ((∃ (i : Nat) (h : i < l.length), (l[i]'h).id = id ∧ e = .returned (.int .i64 (i : Int))) ∨ ((∀ (j : Nat) (h : j < l.length), (l[j]'h).id ≠ id) ∧ e = .returned (.int .i64 (-1)))) ∧ w' = w

set_option maxHeartbeats 1000000 in
theorem l5At_any (k : Nat) (l : List Nd) (v : Value) (id : Int) (w : World) (hrow : NdRow w 0 k l v) :
    Calls Try.prog 67 #[v, .int .i64 id] w (AtI l id w) := by
  obtain ⟨a, cap, rfl, hw, hrest⟩ := Row.len hrow
  have hlen : (l.length : Int) ≤ 140737488351232 := by omega
  clear hrow
  go_enter Try.func67, Try.ntmps67
  go_wp2_with fail
  go_loop [5] (fun i => ∃ j : Nat, j ≤ l.length ∧ i = .int .i64 j ∧ Hid (∀ (m : Nat) (h : m < l.length), m < j → l[m].id ≠ id)) (fun i => l.length - (intOf i).toNat)
  case atStart => exact ⟨0, Nat.zero_le _, rfl, fun _ _ h => absurd h (Nat.not_lt_zero _)⟩
  case round =>
    obtain ⟨j, hj, rfl, HNO⟩ := hrel
    have hjl : (j : Int) ≤ 140737488351232 := by omega
    by_cases hlt : j < l.length
    · have hlti : (j : Int) < (l.length : Int) := by omega
      obtain ⟨b, off, rfl, _, hcs⟩ := hrest (List.ne_nil_of_length_pos (by omega))
      obtain ⟨cs, _, hc, hR⟩ := hcs j hlt
      obtain ⟨p, n, p', n', rfl⟩ := hR.cells
      obtain ⟨c0, _⟩ := hc.seven
      clear hc hR hcs hrest
      by_cases he : l[j].id = id
      · have heb : (l[j].id == id) = true := by simpa using he
        have HE : Hid (l[j].id = id) := he
        clear he
        go_wp2_with fail
        go_ret
        exact ⟨Or.inl ⟨j, hlt, HE.out, rfl⟩, rfl⟩
      · have heb : (l[j].id == id) = false := by simpa using he
        have HNO2 : Hid (∀ (m : Nat) (h : m < l.length), m < j + 1 → l[m].id ≠ id) := fun m h hm => by
          rcases Nat.lt_succ_iff_lt_or_eq.1 hm with h1 | rfl
          · exact HNO.out m h h1
          · exact he
        clear he
        go_wp2_with fail
        exact ⟨⟨j + 1, by omega, by go_num, HNO2⟩, by simp [intOf]; omega⟩
    · have hlti : decide ((j : Int) < (l.length : Int)) = false := decide_eq_false (by omega)
      go_wp2_with fail
      go_ret
      exact ⟨Or.inr ⟨fun m h => HNO.out m h (by omega), rfl⟩, rfl⟩

end Go.Proofs.Ytehdepnemdbopaa
