
/-
  DERIVED. THE WALK OF spec.l1Same: two values are the same just if they read as the same.
-/
import Derived.Test.YtegnalfkdponhaaDoorVlEq
namespace Go.Proofs.YtegnalfkdponhaaDoor
open Go.RowKit
set_option linter.unusedVariables false
set_option linter.unusedSimpArgs false

def SameAns (t u : Vl) (w : World) (e : Ending) (w' : World) : Prop := ∃ b : Bool, e = .returned (.bool b) ∧ (b = true ↔ t = u) ∧ Below w.heap.size w w'
theorem SameAns.no {t u : Vl} {w w' : World} (h : t ≠ u) (hb : Below w.heap.size w w') : SameAns t u w (.returned (.bool false)) w' := ⟨false, rfl, by simp [h], hb⟩
theorem SameAns.yes {t u : Vl} {w w' : World} (h : t = u) (hb : Below w.heap.size w w') : SameAns t u w (.returned (.bool true)) w' := ⟨true, rfl, by simp [h], hb⟩
def SpecSm (k : Nat) : Prop := ∀ (t u : Vl) (vl vn vl' vn' : Value) (w : World), VlR w 0 k t [.int .i64 t.kind, .int .i64 t.num, .string t.text, vl, vn] → VlR w 0 k u [.int .i64 u.kind, .int .i64 u.num, .string u.text, vl', vn'] →
  Calls Tryd.prog 37 #[.agg #[.int .i64 t.kind, .int .i64 t.num, .string t.text, vl, vn], .agg #[.int .i64 u.kind, .int .i64 u.num, .string u.text, vl', vn']] w (SameAns t u w)

theorem two_below (w : World) (o o' : Obj) : Below w.heap.size w ((w.alloc o).alloc o') := ((Below.refl _ _).alloc (Nat.le_refl _) _).alloc (by simp) _

set_option maxHeartbeats 4000000 in
theorem specSm_step (k : Nat) (ih : SpecSm k) : SpecSm (k + 1) := by
  intro t u vl vn vl' vn' w ht hu
  obtain ⟨v0, v1, hv, _, _, _, hrow, hnames⟩ := ht
  simp only [List.cons.injEq, true_and, and_true] at hv
  obtain ⟨rfl, rfl⟩ := hv
  obtain ⟨v0', v1', hv', _, _, _, hrow', hnames'⟩ := hu
  simp only [List.cons.injEq, true_and, and_true] at hv'
  obtain ⟨rfl, rfl⟩ := hv'
  obtain ⟨a, c, rfl, hw, hrest⟩ := Row.len hrow
  obtain ⟨a', c', rfl, hw', hrest'⟩ := Row.len hrow'
  obtain ⟨m, d, rfl, hx, hn⟩ := StrRow.len hnames
  obtain ⟨m', d', rfl, hx', hn'⟩ := StrRow.len hnames'
  have hli : (t.list.length : Int) ≤ 140737488351232 := by omega
  have hni : (t.names.length : Int) ≤ 140737488351232 := by omega
  clear hrow hrow' hnames hnames'
  have HR : Hid _ := hrest
  have HR' : Hid _ := hrest'
  have HN : Hid _ := hn
  have HN' : Hid _ := hn'
  clear hrest hrest' hn hn'
  by_cases e0 : t.kind = u.kind
  rotate_left
  · have e0' : ¬ u.kind = t.kind := fun h => e0 h.symm
    go_enter Tryd.func37, Tryd.ntmps37
    go_wp2_with fail
    go_ret
    exact SameAns.no (fun h => e0 (by rw [h])) (two_below _ _ _)
  by_cases e1 : t.num = u.num
  rotate_left
  · have e1' : ¬ u.num = t.num := fun h => e1 h.symm
    rw [← e0]
    go_enter Tryd.func37, Tryd.ntmps37
    go_wp2_with fail
    go_ret
    exact SameAns.no (fun h => e1 (by rw [h])) (two_below _ _ _)
  by_cases e2 : t.text = u.text
  rotate_left
  · have e2' : (t.text.toList == u.text.toList) = false := by
      rw [beq_eq_false_iff_ne]; intro h; exact e2 (by rw [ByteArray.toList_eq, ByteArray.toList_eq] at h; exact ByteArray.ext (Array.toList_inj.1 h))
    rw [← e0, ← e1]
    go_enter Tryd.func37, Tryd.ntmps37
    go_wp2_with fail
    go_ret
    exact SameAns.no (fun h => e2 (by rw [h])) (two_below _ _ _)
  by_cases e3 : t.list.length = u.list.length
  rotate_left
  · have e3' : ¬ (t.list.length : Int) = (u.list.length : Int) := by omega
    rw [← e0, ← e1, ← e2]
    go_enter Tryd.func37, Tryd.ntmps37
    go_wp2_with fail
    go_ret
    exact SameAns.no (fun h => e3 (by rw [h])) (two_below _ _ _)
  by_cases e4 : t.names.length = u.names.length
  rotate_left
  · have e4' : ¬ (t.names.length : Int) = (u.names.length : Int) := by omega
    rw [← e0, ← e1, ← e2, ← e3]
    go_enter Tryd.func37, Tryd.ntmps37
    go_wp2_with fail
    go_ret
    exact SameAns.no (fun h => e4 (by rw [h])) (two_below _ _ _)
  have HE : Hid (t.names = u.names → t.list = u.list → t = u) := fun h1 h2 => by cases t; cases u; simp_all
  have HE3 : Hid (t.list.length = u.list.length) := e3
  have HE4 : Hid (t.names.length = u.names.length) := e4
  rw [← e0, ← e1, ← e2, ← e3, ← e4]
  clear e0 e1 e2 e3 e4
  go_enter Tryd.func37, Tryd.ntmps37
  go_wp2_with fail
  go_loopw [5] (fun i wr => ∃ j : Nat, j ≤ t.names.length ∧ i = .int .i64 j ∧ Hid (t.names.take j = u.names.take j) ∧ Hid (Below w.heap.size w wr) ∧ Hid (Owns wr w.heap.size #[.int .i64 t.kind, .int .i64 t.num, .string t.text, .slice a t.list.length c, .slice m t.names.length d] 30) ∧ Hid (Owns wr (w.heap.size + 1) #[.int .i64 t.kind, .int .i64 t.num, .string t.text, .slice a' t.list.length c', .slice m' t.names.length d'] 30)) (fun i _ => t.names.length - (intOf i).toNat)
  case atStart =>
    refine ⟨0, Nat.zero_le _, rfl, (by show _ = _; simp), two_below _ _ _, ?_, ?_⟩
    · exact (Owns.made w _ _).below ((Below.refl _ _).alloc (Nat.le_refl _) _) (by simp)
    · have hsz : (w.alloc (.cells #[.int .i64 t.kind, .int .i64 t.num, .string t.text, .slice a t.list.length c, .slice m t.names.length d] 30)).heap.size = w.heap.size + 1 := by simp
      show Owns _ (w.heap.size + 1) _ _
      rw [← hsz]
      exact Owns.made _ _ _
  case round =>
    obtain ⟨j, hj, rfl, HT, HB, HO, HO'⟩ := hrel
    have b4 : wr.cell? ⟨w.heap.size, 4, none⟩ = some (.slice m t.names.length d) := by rw [HO.out.cell]; rfl
    have b4' : wr.cell? ⟨w.heap.size + 1, 4, none⟩ = some (.slice m' t.names.length d') := by rw [HO'.out.cell]; rfl
    by_cases hlt : j < t.names.length
    · obtain ⟨b, off, hab, _, hcs⟩ := HN.out (List.ne_nil_of_length_pos (by omega))
      obtain ⟨c0, _⟩ := hcs j hlt
      have hlt' : j < u.names.length := by have := HE4.out; omega
      obtain ⟨b', off', hab', _, hcs'⟩ := HN'.out (List.ne_nil_of_length_pos (by omega))
      obtain ⟨c0', _⟩ := hcs' j hlt'
      subst hab hab'
      have c1 : wr.cell? ⟨b, off + j, none⟩ = some (.string t.names[j]) := (Keeps.of_below HB.out (Nat.le_refl _) 0).cell (Nat.zero_le _) c0
      have c1' : wr.cell? ⟨b', off' + j, none⟩ = some (.string u.names[j]) := (Keeps.of_below HB.out (Nat.le_refl _) 0).cell (Nat.zero_le _) c0'
      clear hcs hcs' c0 c0' HN HN' HR HR'
      have HS : Hid (t.names[j] = u.names[j] → t.names.take (j + 1) = u.names.take (j + 1)) := fun h => by rw [List.take_succ_eq_append_getElem hlt, List.take_succ_eq_append_getElem hlt', HT.out, h]
      have HNE : Hid (t.names[j] ≠ u.names[j] → t ≠ u) := fun h h' => h (by subst h'; rfl)
      cases he : (t.names[j].toList == u.names[j].toList)
      · have HX : Hid (t ≠ u) := HNE.out (fun h => by rw [h] at he; simp at he)
        clear HS HNE
        go_wp2_with fail
        go_region_with (fail)
        all_goals
          go_wp2_with fail
          go_ret
          exact SameAns.no HX.out HB.out.drew
      · have HX : Hid (t.names.take (j + 1) = u.names.take (j + 1)) := HS.out (by have h := eq_of_beq he; rw [ByteArray.toList_eq, ByteArray.toList_eq] at h; exact ByteArray.ext (Array.toList_inj.1 h))
        clear HS HNE
        go_wp2_with fail
        go_region_with (fail)
        all_goals
          go_wp2_with fail
          exact ⟨⟨j + 1, by omega, by go_num, HX, HB.out.drew, HO, HO'⟩, by simp [intOf]; omega⟩
    · obtain rfl : j = t.names.length := by omega
      have HNm : Hid (t.names = u.names) := by have h := HT.out; have h4 := HE4.out; rw [List.take_length, h4, List.take_length] at h; exact h
      clear HT HN HN'
      go_wp2_with fail
      clear b4 b4'
      go_loopw [6] (fun i ws => ∃ j : Nat, j ≤ t.list.length ∧ i = .int .i64 j ∧ Hid (t.list.take j = u.list.take j) ∧ Hid (Below w.heap.size w ws) ∧ Hid (Owns ws w.heap.size #[.int .i64 t.kind, .int .i64 t.num, .string t.text, .slice a t.list.length c, .slice m t.names.length d] 30) ∧ Hid (Owns ws (w.heap.size + 1) #[.int .i64 t.kind, .int .i64 t.num, .string t.text, .slice a' t.list.length c', .slice m' t.names.length d'] 30)) (fun i _ => t.list.length - (intOf i).toNat)
      case atStart => exact ⟨0, Nat.zero_le _, rfl, (by show _ = _; simp), HB, HO, HO'⟩
      case round =>
        obtain ⟨j, hj, rfl, HT, HB, HO, HO'⟩ := hrel
        have b3 : wr.cell? ⟨w.heap.size, 3, none⟩ = some (.slice a t.list.length c) := by rw [HO.out.cell]; rfl
        have b3' : wr.cell? ⟨w.heap.size + 1, 3, none⟩ = some (.slice a' t.list.length c') := by rw [HO'.out.cell]; rfl
        by_cases hlt : j < t.list.length
        · obtain ⟨b, off, hab, _, hcs⟩ := HR.out (List.ne_nil_of_length_pos (by omega))
          obtain ⟨cs, _, hc, hQ⟩ := hcs j hlt
          obtain ⟨p, n, q, o, rfl⟩ := hQ.cells
          have hlt' : j < u.list.length := by have := HE3.out; omega
          obtain ⟨b', off', hab', _, hcs'⟩ := HR'.out (List.ne_nil_of_length_pos (by omega))
          obtain ⟨cs', _, hc', hQ'⟩ := hcs' j hlt'
          obtain ⟨p', n', q', o', rfl⟩ := hQ'.cells
          subst hab hab'
          have hk : Keeps 0 w wr := Keeps.of_below HB.out (Nat.le_refl _) _
          obtain ⟨c0, c1, c2, c3, c4⟩ := (hc.keeps hk (Nat.zero_le _)).five
          obtain ⟨d0, d1, d2, d3, d4⟩ := (hc'.keeps hk (Nat.zero_le _)).five
          have HQ : Hid (VlR wr.drew 0 k t.list[j] [.int .i64 t.list[j].kind, .int .i64 t.list[j].num, .string t.list[j].text, .slice p t.list[j].list.length n, .slice q t.list[j].names.length o]) := VlR.keeps hk.drew k _ _ hQ
          have HQ' : Hid (VlR wr.drew 0 k u.list[j] [.int .i64 u.list[j].kind, .int .i64 u.list[j].num, .string u.list[j].text, .slice p' u.list[j].list.length n', .slice q' u.list[j].names.length o']) := VlR.keeps hk.drew k _ _ hQ'
          clear hc hc' hQ hQ' hcs hcs' HR HR' hk
          have HS : Hid (t.list[j] = u.list[j] → t.list.take (j + 1) = u.list.take (j + 1)) := fun h => by rw [List.take_succ_eq_append_getElem hlt, List.take_succ_eq_append_getElem hlt', HT.out, h]
          have HNE : Hid (t.list[j] ≠ u.list[j] → t ≠ u) := fun h h' => h (by subst h'; rfl)
          go_wp2_with fail
          go_region_with (go_at_call 37; refine (ih _ _ _ _ _ _ _ HQ.out HQ'.out).mono ?_; rintro e w1 ⟨r, rfl, hr, hb1⟩)
          all_goals cases r
          all_goals
            have HB1 : Hid (Below w.heap.size w w1) := HB.out.drew.trans (hb1.mono HB.out.size)
            have HO1 : Hid (Owns w1 w.heap.size #[.int .i64 t.kind, .int .i64 t.num, .string t.text, .slice (some ⟨b, off, none⟩) t.list.length c, .slice m t.names.length d] 30) := Owns.below (w := wr.drew) HO.out hb1 HO.out.lt
            have HO1' : Hid (Owns w1 (w.heap.size + 1) #[.int .i64 t.kind, .int .i64 t.num, .string t.text, .slice (some ⟨b', off', none⟩) t.list.length c', .slice m' t.names.length d'] 30) := Owns.below (w := wr.drew) HO'.out hb1 HO'.out.lt
            have HH : Hid _ := hr
            clear hb1 hr HB HO HO'
            go_wp2_with fail
            first
              | (go_ret; exact SameAns.no (HNE.out (fun h => by have := HH.out.2 h; simp at this)) HB1.out)
              | exact ⟨⟨j + 1, by omega, by go_num, HS.out (HH.out.1 rfl), HB1, HO1, HO1'⟩, by simp [intOf]; omega⟩
        · obtain rfl : j = t.list.length := by omega
          have HL : Hid (t.list = u.list) := by have h := HT.out; have h4 := HE3.out; rw [List.take_length, h4, List.take_length] at h; exact h
          go_wp2_with fail
          go_ret
          exact SameAns.yes (HE.out HNm.out HL.out) HB.out

theorem specSm_all : ∀ k : Nat, SpecSm k
  | 0 => fun _ _ _ _ _ _ _ h => h.elim
  | k + 1 => specSm_step k (specSm_all k)

end Go.Proofs.YtegnalfkdponhaaDoor
