
/-
  DERIVED. THE WALKS OF spec.l8Size, spec.ValueSize, impl.sizeOf, impl.ValueSize.
-/
import Derived.Test.YtedeeckbgjalcaaVlOkC
import Derived.Test.YtedeeckbgjalcaaVzP
namespace Go.Proofs.Ytedeeckbgjalcaa
open Go.RowKit
set_option linter.unusedVariables false
set_option linter.unusedSimpArgs false

theorem ret_intZ {k : IntKind} {a b : Int} (h : a = b) : Ending.returned (.int k a) = .returned (.int k b) := by rw [h]

def VzC (f : Nat) (vz : Vl → Nat) (k : Nat) : Prop := ∀ (t : Vl) (vl vn : Value) (w : World), VlR w 0 k t [.int .i64 t.kind, .int .i64 t.num, .string t.text, vl, vn] → vz t ≤ 2000000 →
  Calls Try.prog f #[.agg #[.int .i64 t.kind, .int .i64 t.num, .string t.text, vl, vn]] w fun e w' => e = .returned (.int .i64 (vz t : Int)) ∧ Below w.heap.size w w'

set_option maxHeartbeats 1000000 in
theorem l8Size_step (vz : Vl → Nat) (hd : IsVz vz) (k : Nat) (ih : VzC 27 vz k) : VzC 27 vz (k + 1) := by
  intro t vl vn w ht hdt
  obtain ⟨vl', vn', hv, _, _, _, hrow, hnames⟩ := ht
  simp only [List.cons.injEq, true_and, and_true] at hv
  obtain ⟨rfl, rfl⟩ := hv
  obtain ⟨a, c, rfl, hw, hrest⟩ := Row.len hrow
  obtain ⟨a', c', rfl, _, _⟩ := StrRow.len hnames
  have hli : (t.list.length : Int) ≤ 140737488351232 := by omega
  have HD : Hid (vz t = sumL vz t.list + 1) := hd t
  have HDT : Hid (vz t ≤ 2000000) := hdt
  have HR : Hid _ := hrest
  clear hrow hnames hrest hdt
  go_enter Try.func27, Try.ntmps27
  go_wp2_with fail
  go_loopw [3, 4] (fun n i wr => ∃ j m : Nat, j ≤ t.list.length ∧ i = .int .i64 j ∧ n = .int .i64 (m : Int) ∧ Hid (m = sumL vz (t.list.take j) + 1) ∧ Hid (Below w.heap.size w wr) ∧ Hid (Owns wr w.heap.size #[.int .i64 t.kind, .int .i64 t.num, .string t.text, .slice a t.list.length c, .slice a' t.names.length c'] 26)) (fun _ i _ => t.list.length - (intOf i).toNat)
  case atStart => exact ⟨0, 1, Nat.zero_le _, rfl, rfl, (by show 1 = sumL vz (t.list.take 0) + 1; simp [sumL]), (Below.refl _ _).alloc (Nat.le_refl _) _, Owns.made _ _ _⟩
  case round =>
    obtain ⟨j, m, hj, rfl, rfl, HM, HB, HO⟩ := hrel
    have b3 : wr.cell? ⟨w.heap.size, 3, none⟩ = some (.slice a t.list.length c) := by rw [HO.out.cell]; rfl
    have hml : m ≤ 2000000 := by have h1 := HM.out; have h2 := sumL_takeZ vz t.list j; have h3 := HD.out; have h4 := HDT.out; omega
    have hmi : (m : Int) ≤ 2000000 := by omega
    by_cases hlt : j < t.list.length
    · obtain ⟨b, off, hab, _, hcs⟩ := HR.out (List.ne_nil_of_length_pos (by omega))
      subst hab
      obtain ⟨cs, hl5, hc, hR⟩ := hcs j hlt
      obtain ⟨p, n, p', n', rfl⟩ := hR.cells
      have hk : Keeps 0 w wr := Keeps.of_below HB.out (Nat.le_refl _) _
      obtain ⟨c0, c1, c2, c3, c4⟩ := (hc.keeps hk (Nat.zero_le _)).five
      have hdx : vz t.list[j] ≤ 2000000 := by have h1 := sumL_memZ (s := vz) (List.getElem_mem hlt); have h3 := HD.out; have h4 := HDT.out; omega
      have HCALL : Hid (∀ W, Keeps 0 wr W → Calls Try.prog 27 #[.agg #[.int .i64 t.list[j].kind, .int .i64 t.list[j].num, .string t.list[j].text, .slice p t.list[j].list.length n, .slice p' t.list[j].names.length n']] W fun e w' => e = .returned (.int .i64 (vz t.list[j] : Int)) ∧ Below W.heap.size W w') := fun W hW => ih t.list[j] _ _ W (VlR.keeps hW _ _ _ (VlR.keeps hk _ _ _ hR)) hdx
      have HS : Hid (sumL vz (t.list.take (j + 1)) + 1 = m + vz t.list[j]) := by show _ = _; rw [sumL_snocZ vz hlt]; have := HM.out; omega
      clear hc hR hcs hk HR hl5
      generalize hdy : vz t.list[j] = dy at *
      have hdyi : (dy : Int) ≤ 2000000 := by omega
      go_wp2_with fail
      first
      | (refine (Hid.out HCALL _ (Keeps.refl _ _)).mono ?_
         rintro e w1 ⟨rfl, hb1⟩)
      | (go_region_with (go_at_call 27; refine (Hid.out HCALL _ ((Keeps.refl _ _).drew)).mono ?_; rintro e w1 ⟨rfl, hb1⟩))
      all_goals
        have HB1 : Hid (Below w.heap.size w w1) := by
          first
          | exact HB.out.trans (hb1.mono HB.out.size)
          | exact HB.out.drew.trans (hb1.mono HB.out.size)
        have HO1 : Hid (Owns w1 w.heap.size #[.int .i64 t.kind, .int .i64 t.num, .string t.text, .slice (some ⟨b, off, none⟩) t.list.length c, .slice a' t.names.length c'] 26) := by
          first
          | exact HO.out.below hb1 HO.out.lt
          | exact Owns.below (w := wr.drew) HO.out hb1 HO.out.lt
        clear hb1 HCALL HB HO
        go_wp2_with fail
        exact ⟨⟨j + 1, m + dy, by omega, by go_num, by go_num, (by show m + dy = _; exact HS.out.symm), HB1, HO1⟩, by simp [intOf]; omega⟩
    · obtain rfl : j = t.list.length := by omega
      have HF : Hid (m = vz t) := by show _ = _; rw [HD.out, HM.out, List.take_length]
      go_wp2_with fail
      go_ret
      exact ⟨ret_intZ (by rw [← HF.out]), HB.out⟩

theorem l8Size_all (vz : Vl → Nat) (hd : IsVz vz) : ∀ k : Nat, VzC 27 vz k
  | 0 => fun _ _ _ _ h _ => h.elim
  | k + 1 => l8Size_step vz hd k (l8Size_all vz hd k)

set_option maxHeartbeats 1000000 in
theorem sizeOf_step (vz : Vl → Nat) (hd : IsVz vz) (k : Nat) (ih : VzC 24 vz k) : VzC 24 vz (k + 1) := by
  intro t vl vn w ht hdt
  obtain ⟨vl', vn', hv, _, _, _, hrow, hnames⟩ := ht
  simp only [List.cons.injEq, true_and, and_true] at hv
  obtain ⟨rfl, rfl⟩ := hv
  obtain ⟨a, c, rfl, hw, hrest⟩ := Row.len hrow
  obtain ⟨a', c', rfl, _, _⟩ := StrRow.len hnames
  have hli : (t.list.length : Int) ≤ 140737488351232 := by omega
  have HD : Hid (vz t = sumL vz t.list + 1) := hd t
  have HDT : Hid (vz t ≤ 2000000) := hdt
  have HR : Hid _ := hrest
  clear hrow hnames hrest hdt
  go_enter Try.func24, Try.ntmps24
  go_wp2_with fail
  go_loopw [3, 9] (fun n i wr => ∃ j m : Nat, j ≤ t.list.length ∧ i = .int .i64 j ∧ n = .int .i64 (m : Int) ∧ Hid (m = sumL vz (t.list.take j) + 1) ∧ Hid (Below w.heap.size w wr)) (fun _ i _ => t.list.length - (intOf i).toNat)
  case atStart => exact ⟨0, 1, Nat.zero_le _, rfl, rfl, (by show 1 = sumL vz (t.list.take 0) + 1; simp [sumL]), (Below.refl _ _).alloc (Nat.le_refl _) _⟩
  case round =>
    obtain ⟨j, m, hj, rfl, rfl, HM, HB⟩ := hrel
    have hml : m ≤ 2000000 := by have h1 := HM.out; have h2 := sumL_takeZ vz t.list j; have h3 := HD.out; have h4 := HDT.out; omega
    have hmi : (m : Int) ≤ 2000000 := by omega
    by_cases hlt : j < t.list.length
    · obtain ⟨b, off, hab, _, hcs⟩ := HR.out (List.ne_nil_of_length_pos (by omega))
      subst hab
      obtain ⟨cs, hl5, hc, hR⟩ := hcs j hlt
      obtain ⟨p, n, p', n', rfl⟩ := hR.cells
      have hk : Keeps 0 w wr := Keeps.of_below HB.out (Nat.le_refl _) _
      obtain ⟨c0, c1, c2, c3, c4⟩ := (hc.keeps hk (Nat.zero_le _)).five
      have hdx : vz t.list[j] ≤ 2000000 := by have h1 := sumL_memZ (s := vz) (List.getElem_mem hlt); have h3 := HD.out; have h4 := HDT.out; omega
      have HCALL : Hid (∀ W, Keeps 0 wr W → Calls Try.prog 24 #[.agg #[.int .i64 t.list[j].kind, .int .i64 t.list[j].num, .string t.list[j].text, .slice p t.list[j].list.length n, .slice p' t.list[j].names.length n']] W fun e w' => e = .returned (.int .i64 (vz t.list[j] : Int)) ∧ Below W.heap.size W w') := fun W hW => ih t.list[j] _ _ W (VlR.keeps hW _ _ _ (VlR.keeps hk _ _ _ hR)) hdx
      have HS : Hid (sumL vz (t.list.take (j + 1)) + 1 = m + vz t.list[j]) := by show _ = _; rw [sumL_snocZ vz hlt]; have := HM.out; omega
      clear hc hR hcs hk HR hl5
      generalize hdy : vz t.list[j] = dy at *
      have hdyi : (dy : Int) ≤ 2000000 := by omega
      go_wp2_with fail
      refine (Hid.out HCALL _ ((Keeps.refl _ _).alloc _)).mono ?_
      rintro e w1 ⟨rfl, hb1⟩
      have HB1 : Hid (Below w.heap.size w w1) := (HB.out.alloc HB.out.size _).trans (hb1.mono (by have := HB.out.size; simp; omega))
      clear hb1 HCALL HB
      go_wp2_with fail
      exact ⟨⟨j + 1, m + dy, by omega, by go_num, by go_num, (by show m + dy = _; exact HS.out.symm), HB1⟩, by simp [intOf]; omega⟩
    · obtain rfl : j = t.list.length := by omega
      have HF : Hid (m = vz t) := by show _ = _; rw [HD.out, HM.out, List.take_length]
      go_wp2_with fail
      go_ret
      exact ⟨ret_intZ (by rw [← HF.out]), HB.out⟩

theorem sizeOf_all (vz : Vl → Nat) (hd : IsVz vz) : ∀ k : Nat, VzC 24 vz k
  | 0 => fun _ _ _ _ h _ => h.elim
  | k + 1 => sizeOf_step vz hd k (sizeOf_all vz hd k)

/-- What ValueSize answers. -/
def vsO (vz : Vl → Nat) (t : Vl) : Int := if okB false 6 t then (vz t : Int) else 0
theorem vsO_yes {vz : Vl → Nat} {t : Vl} (h : okB false 6 t = true) : vsO vz t = (vz t : Int) := by simp [vsO, h]
theorem vsO_no {vz : Vl → Nat} {t : Vl} (h : okB false 6 t = false) : vsO vz t = 0 := by simp [vsO, h]

set_option maxHeartbeats 1000000 in
theorem specValueSize_any (vz : Vl → Nat) (hd : IsVz vz) (k : Nat) (t : Vl) (vl vn : Value) (w : World) (ht : VlR w 0 k t [.int .i64 t.kind, .int .i64 t.num, .string t.text, vl, vn]) :
    Calls Try.prog 15 #[.agg #[.int .i64 t.kind, .int .i64 t.num, .string t.text, vl, vn]] w fun e w' => e = .returned (.int .i64 (vsO vz t)) ∧ Below w.heap.size w w' := by
  obtain ⟨a, cap, a', cap', hv⟩ := ht.cells
  simp only [List.cons.injEq, true_and, and_true] at hv
  obtain ⟨rfl, rfl⟩ := hv
  have HR : Hid (∀ W, Keeps 0 w W → VlR W 0 k t [.int .i64 t.kind, .int .i64 t.num, .string t.text, .slice a t.list.length cap, .slice a' t.names.length cap']) := fun W h => VlR.keeps h k _ _ ht
  clear ht
  cases hok : okB false 6 t with
  | false =>
    have HV : Hid (vsO vz t = 0) := vsO_no hok
    go_enter Try.func15, Try.ntmps15
    go_wp2_with fail
    refine (specValueOk_any k t _ _ _ (HR.out _ ((Keeps.refl _ _).alloc _))).mono ?_
    rintro e w1 ⟨rfl, hb1⟩
    have HB1 : Hid (Below w.heap.size w w1) := ((Below.refl _ _).alloc (Nat.le_refl _) _).trans (hb1.mono (by simp))
    rw [hok]
    clear hb1 hok
    go_wp2_with fail
    go_ret
    exact ⟨ret_intZ HV.out.symm, HB1.out⟩
  | true =>
    have HV : Hid (vsO vz t = (vz t : Int)) := vsO_yes hok
    have HZ : Hid (vz t ≤ 2000000) := Nat.le_trans (vz_ok hd 6 t hok) (by decide)
    go_enter Try.func15, Try.ntmps15
    go_wp2_with fail
    refine (specValueOk_any k t _ _ _ (HR.out _ ((Keeps.refl _ _).alloc _))).mono ?_
    rintro e w1 ⟨rfl, hb1⟩
    have HB1 : Hid (Below w.heap.size w w1) := ((Below.refl _ _).alloc (Nat.le_refl _) _).trans (hb1.mono (by simp))
    have hbox1 : ∀ o, w1.cell? ⟨w.heap.size, o, none⟩ = #[Value.int .i64 t.kind, .int .i64 t.num, .string t.text, .slice a t.list.length cap, .slice a' t.names.length cap'][o]? := fun o => by
      rw [hb1.cell (p := ⟨w.heap.size, o, none⟩) (by simp)]; exact (Owns.made w _ _).cell o
    have b0 := hbox1 0
    have b1 := hbox1 1
    have b2 := hbox1 2
    have b3 := hbox1 3
    have b4 := hbox1 4
    simp at b0 b1 b2 b3 b4
    rw [hok]
    clear hb1 hok hbox1
    go_wp2_with fail
    refine (l8Size_all vz hd k t _ _ _ (HR.out _ (Keeps.of_below HB1.out (Nat.le_refl _) _)) HZ.out).mono ?_
    rintro e w2 ⟨rfl, hb2⟩
    have HB2 : Hid (Below w.heap.size w w2) := HB1.out.trans (hb2.mono HB1.out.size)
    clear hb2 b0 b1 b2 b3 b4 HB1
    go_wp2_with fail
    go_ret
    exact ⟨ret_intZ HV.out.symm, HB2.out⟩

set_option maxHeartbeats 1000000 in
theorem implValueSize_any (vz : Vl → Nat) (hd : IsVz vz) (k : Nat) (t : Vl) (vl vn : Value) (w : World) (ht : VlR w 0 k t [.int .i64 t.kind, .int .i64 t.num, .string t.text, vl, vn]) :
    Calls Try.prog 12 #[.agg #[.int .i64 t.kind, .int .i64 t.num, .string t.text, vl, vn]] w fun e w' => e = .returned (.int .i64 (vsO vz t)) ∧ Below w.heap.size w w' := by
  obtain ⟨a, cap, a', cap', hv⟩ := ht.cells
  simp only [List.cons.injEq, true_and, and_true] at hv
  obtain ⟨rfl, rfl⟩ := hv
  have HR : Hid (∀ W, Keeps 0 w W → VlR W 0 k t [.int .i64 t.kind, .int .i64 t.num, .string t.text, .slice a t.list.length cap, .slice a' t.names.length cap']) := fun W h => VlR.keeps h k _ _ ht
  clear ht
  cases hok : okB false 6 t with
  | false =>
    have HV : Hid (vsO vz t = 0) := vsO_no hok
    go_enter Try.func12, Try.ntmps12
    go_wp2_with fail
    refine (implValueOk_any k t _ _ _ (HR.out _ ((Keeps.refl _ _).alloc _))).mono ?_
    rintro e w1 ⟨rfl, hb1⟩
    have HB1 : Hid (Below w.heap.size w w1) := ((Below.refl _ _).alloc (Nat.le_refl _) _).trans (hb1.mono (by simp))
    rw [hok]
    clear hb1 hok
    go_wp2_with fail
    go_ret
    exact ⟨ret_intZ HV.out.symm, HB1.out⟩
  | true =>
    have HV : Hid (vsO vz t = (vz t : Int)) := vsO_yes hok
    have HZ : Hid (vz t ≤ 2000000) := Nat.le_trans (vz_ok hd 6 t hok) (by decide)
    go_enter Try.func12, Try.ntmps12
    go_wp2_with fail
    refine (implValueOk_any k t _ _ _ (HR.out _ ((Keeps.refl _ _).alloc _))).mono ?_
    rintro e w1 ⟨rfl, hb1⟩
    have HB1 : Hid (Below w.heap.size w w1) := ((Below.refl _ _).alloc (Nat.le_refl _) _).trans (hb1.mono (by simp))
    have hbox1 : ∀ o, w1.cell? ⟨w.heap.size, o, none⟩ = #[Value.int .i64 t.kind, .int .i64 t.num, .string t.text, .slice a t.list.length cap, .slice a' t.names.length cap'][o]? := fun o => by
      rw [hb1.cell (p := ⟨w.heap.size, o, none⟩) (by simp)]; exact (Owns.made w _ _).cell o
    have b0 := hbox1 0
    have b1 := hbox1 1
    have b2 := hbox1 2
    have b3 := hbox1 3
    have b4 := hbox1 4
    simp at b0 b1 b2 b3 b4
    rw [hok]
    clear hb1 hok hbox1
    go_wp2_with fail
    refine (sizeOf_all vz hd k t _ _ _ (HR.out _ (Keeps.of_below HB1.out (Nat.le_refl _) _)) HZ.out).mono ?_
    rintro e w2 ⟨rfl, hb2⟩
    have HB2 : Hid (Below w.heap.size w w2) := HB1.out.trans (hb2.mono HB1.out.size)
    clear hb2 b0 b1 b2 b3 b4 HB1
    go_wp2_with fail
    go_ret
    exact ⟨ret_intZ HV.out.symm, HB2.out⟩

end Go.Proofs.Ytedeeckbgjalcaa
