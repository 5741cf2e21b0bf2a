
/-
  DERIVED. THE WALKS OF impl.writeForm AND impl.JsonPut.
-/
import Derived.Test.YtegnalfkdponhaaDoorJpD
namespace Go.Proofs.YtegnalfkdponhaaDoor
open Go.RowKit
set_option linter.unusedVariables false
set_option linter.unusedSimpArgs false

theorem nDigits_le : ∀ (m u : Nat), u < 10 ^ (m + 1) → Lib.nDigits u ≤ m + 1
  | 0, u, h => by rw [Lib.nDigits_small (by simpa using h)]; omega
  | m + 1, u, h => by
    by_cases hs : u < 10
    · rw [Lib.nDigits_small hs]; omega
    · rw [Lib.nDigits_big hs]
      have h1 : u / 10 < 10 ^ (m + 1) := by
        rw [Nat.div_lt_iff_lt_mul (by omega)]
        rw [Nat.pow_succ] at h
        exact h
      have := nDigits_le m (u / 10) h1
      omega
theorem itoa_len {n : Int} (h1 : -2147483647 ≤ n) (h2 : n ≤ 2147483647) : (Lib.itoa n).length ≤ 12 := by
  unfold Lib.itoa
  split
  · have := nDigits_le 9 n.natAbs (by have : (10 : Nat) ^ (9 + 1) = 10000000000 := by decide
                                      omega)
    simp only [List.length_cons, Lib.decDigits_length]
    omega
  · have := nDigits_le 9 n.toNat (by have : (10 : Nat) ^ (9 + 1) = 10000000000 := by decide
                                     omega)
    rw [Lib.decDigits_length]
    omega
theorem once_names : ∀ (acc l : List ByteArray), onceB acc l = true → ∀ s ∈ l, s.size ≤ 12
  | _, [], _, s, hs => by simp at hs
  | acc, x :: l, h, s, hs => by
    simp only [onceB, Bool.and_eq_true] at h
    rcases List.mem_cons.1 hs with rfl | hs
    · have h1 := h.1.1
      simp only [nameB, Bool.and_eq_true, decide_eq_true_eq] at h1
      have := h1.1
      rw [len_toList] at this
      omega
    · exact once_names _ l h.2 s hs

/-- What is ok is not long. -/
theorem putL_len : ∀ (d : Nat) (t : Vl), okB false d t = true → (putL d t).length ≤ bw d
  | 0, _, h => by simp [okB] at h
  | d + 1, t, h => by
    have h' := h
    rw [okB_succ] at h'
    simp only [Bool.and_eq_true, List.all_eq_true] at h'
    obtain ⟨⟨⟨hp, _⟩, hn⟩, ha⟩ := h'
    have hb : bw (d + 1) = 12 * (bw d + 100) + 300 := rfl
    rw [hb]
    unfold putL
    split
    · simp only [List.length_cons, List.length_nil]; omega
    · split
      · split <;> simp only [List.length_cons, List.length_nil] <;> omega
      · split
        · rename_i h2
          rw [ok_k2 _ _ h2] at h
          simp only [Bool.and_eq_true, decide_eq_true_eq] at h
          have := itoa_len h.2.1 h.2.2
          omega
        · split
          · rename_i h3
            rw [ok_k3 _ _ h3] at h
            simp only [Bool.and_eq_true, decide_eq_true_eq] at h
            have h4 := qAll_len t.text.data.toList
            have h5 := h.2
            simp only [qTxt, List.length_append, List.length_cons, List.length_nil, len_toList] at h4 ⊢
            omega
          · split
            · rename_i h4
              have hl : t.list.length ≤ 12 := by
                rw [h4] at hp
                have : plainB 4 t.num t.text t.list.length t.names.length = (t.num == 0 && t.text.toList.isEmpty && decide (t.names.length = 0) && decide (t.list.length ≤ 12)) := rfl
                rw [this] at hp
                simp only [Bool.and_eq_true, decide_eq_true_eq] at hp
                exact hp.2
              have h6 := sepL_len (t.list.map (putL d)) (bw d) (fun x hx => by
                obtain ⟨y, hy, rfl⟩ := List.mem_map.1 hx
                exact putL_len d y (ha y hy))
              rw [List.length_map] at h6
              have h7 : t.list.length * (bw d + 1) ≤ 12 * (bw d + 1) := Nat.mul_le_mul_right _ hl
              simp only [List.length_append, List.length_cons, List.length_nil]
              omega
            · split
              · rename_i h5
                have hl : t.list.length ≤ 12 := by
                  rw [h5] at hp
                  have : plainB 5 t.num t.text t.list.length t.names.length = (t.num == 0 && t.text.toList.isEmpty && decide (t.names.length = t.list.length) && decide (t.list.length ≤ 12)) := rfl
                  rw [this] at hp
                  simp only [Bool.and_eq_true, decide_eq_true_eq] at hp
                  exact hp.2
                have h6 := sepL_len ((t.names.zip t.list).map (pairL d)) (bw d + 80) (fun x hx => by
                  obtain ⟨y, hy, rfl⟩ := List.mem_map.1 hx
                  have hy' : (y.1, y.2) ∈ t.names.zip t.list := hy
                  exact pairL_len (putL_len d y.2 (ha _ (List.of_mem_zip hy').2)) (once_names _ _ hn _ (List.of_mem_zip hy').1))
                have h7 : ((t.names.zip t.list).map (pairL d)).length * (bw d + 80 + 1) ≤ 12 * (bw d + 80 + 1) := Nat.mul_le_mul_right _ (by simp; omega)
                show (123 :: sepL ((t.names.zip t.list).map (pairL d)) ++ [125]).length ≤ _
                simp only [List.length_append, List.length_cons, List.length_nil]
                omega
              · simp

set_option maxHeartbeats 2000000 in
set_option maxRecDepth 100000 in
theorem writeForm_step (d : Nat) (ih : WrC d) : WrC (d + 1) := by
  intro k t f w0 B b l w hf hok hB h0 ht hb hl
  have hle := hb.le
  have HFM : Hid (FmR w0 0 k t f) := hf
  have HOK : Hid (okB false (d + 1) t = true) := hok
  have H0 : Hid (w0.heap.size ≤ B ∧ Tab0 w0) := ⟨hB, ht⟩
  have HLL : Hid (l.length + bw (d + 1) ≤ 140737488351232) := hl
  have HL : Hid (l.length + 500 ≤ 140737488351232) := by have : bw (d + 1) = 12 * (bw d + 100) + 300 := rfl; show _ ≤ _; omega
  obtain ⟨W0, hW0⟩ : ∃ W, W = (w.alloc (Obj.cells #[.pointer (some ⟨b, 0, none⟩)] 49)).alloc (Obj.cells #[.bool false] 4) := ⟨_, rfl⟩
  have hb0 : Below w.heap.size w W0 := by rw [hW0]; exact ((Below.refl _ _).alloc (Nat.le_refl _) _).alloc (by simp) _
  have HOP : Hid (Owns W0 w.heap.size #[.pointer (some ⟨b, 0, none⟩)] 49) := by
    show Owns _ _ _ _
    rw [hW0]
    exact (Owns.made _ _ _).below ((Below.refl _ _).alloc (Nat.le_refl _) _) (by simp)
  have HOB : Hid (Owns W0 (w.heap.size + 1) #[.bool false] 4) := by
    show Owns _ _ _ _
    rw [hW0]
    have := Owns.made (w.alloc (Obj.cells #[.pointer (some ⟨b, 0, none⟩)] 49)) #[.bool false] 4
    rwa [show (w.alloc (Obj.cells #[.pointer (some ⟨b, 0, none⟩)] 49)).heap.size = w.heap.size + 1 by simp] at this
  have HF0 : Hid (Fra B b w W0) := Fra.of_below hb0 (by omega)
  have HB0 : Hid (Bld B b l W0) := hb.on hb0
  have HBW : Hid (Below w0.heap.size w0 W0) := Fra.from0 h0 hB HF0.out
  have hnp : w.heap.size ≠ b := by omega
  have hnb : w.heap.size + 1 ≠ b := by omega
  have HNE : Hid (w.heap.size ≠ b ∧ w.heap.size + 1 ≠ b) := ⟨hnp, hnb⟩
  have p0 : W0.cell? ⟨w.heap.size, 0, none⟩ = some (.pointer (some ⟨b, 0, none⟩)) := by rw [HOP.out.cell]; rfl
  have q0 : W0.cell? ⟨w.heap.size + 1, 0, none⟩ = some (.bool false) := by rw [HOB.out.cell]; rfl
  have HW0 : Hid (W0 = (w.alloc (Obj.cells #[.pointer (some ⟨b, 0, none⟩)] 49)).alloc (Obj.cells #[.bool false] 4)) := hW0
  clear hf hok hB h0 ht hb hl hb0 hle hW0 hnp hnb
  cases k with
  | zero => exact HFM.out.elim
  | succ k =>
  rcases HFM.out with ⟨h0, rfl⟩ | ⟨h0, rfl⟩ | ⟨h0, rfl⟩ | ⟨h0, rfl⟩ | ⟨h0, vl', rfl, hrow⟩ | ⟨h0, hl', vl', rfl, hrow⟩ | ⟨h0, rfl⟩ | ⟨h0, rfl⟩
  · have HPUT : Hid (putL (d + 1) t = [110, 117, 108, 108]) := by show putL (d + 1) t = _; unfold putL; rw [if_pos h0]
    clear h0
    have t_null := fun (W : World) (v : Value) => (show (Instr.typeAssert (.iface 75 v) 46 75 true).run Tryd.prog W = .ok (.tuple #[v, .bool true]) W by kernel_rfl)
    have hbN : Below W0.heap.size W0 (W0.alloc (Obj.cells #[] 75)) := (Below.refl _ _).alloc (Nat.le_refl _) _
    have HBN : Hid (Bld B b l (W0.alloc (Obj.cells #[] 75))) := HB0.out.on hbN
    have HFN : Hid (Fra B b w (W0.alloc (Obj.cells #[] 75))) := HF0.out.trans (Fra.of_below hbN (by have := HB0.out.le; omega))
    clear hbN
    go_enter Tryd.func23, Tryd.ntmps23
    go_wp2_with fail
    rw [← HW0.out]
    refine (bld_string B b l ⟨#[110, 117, 108, 108]⟩ _ HBN.out (by have := HL.out; show l.length + 4 ≤ _; omega)).mono ?_
    rintro e w1 ⟨rfl, h1, hf1⟩
    have HR : Hid (Bld B b (l ++ putL (d + 1) t) w1 ∧ Fra B b w w1) := ⟨by rw [HPUT.out]; exact h1, HFN.out.trans hf1⟩
    clear h1 hf1
    go_wp2_with fail
    go_end0
    exact ⟨rfl, HR.out⟩
  · have HPUT : Hid (putL (d + 1) t = Lib.formatBool (t.num == 1)) := by
      show putL (d + 1) t = _
      unfold putL
      rw [if_neg (by omega), if_pos h0]
      by_cases h : t.num = 1
      · rw [if_pos h, h]; decide +kernel
      · rw [if_neg h, show (t.num == 1) = false by simpa using h]; decide +kernel
    clear h0
    have t_null := fun (W : World) (v : Value) => (show (Instr.typeAssert (.iface 76 v) 46 75 true).run Tryd.prog W = .ok (.tuple #[.agg #[], .bool false]) W by kernel_rfl)
    have t_bool := fun (W : World) (v : Value) => (show (Instr.typeAssert (.iface 76 v) 46 76 true).run Tryd.prog W = .ok (.tuple #[v, .bool true]) W by kernel_rfl)
    have HWS : Hid (Calls Tryd.prog 45 #[.pointer (some ⟨b, 0, none⟩), .string ⟨(Lib.formatBool (t.num == 1)).toArray⟩] W0.drew (fun e w1 => e = .returned (.tuple #[.int .i64 ((⟨(Lib.formatBool (t.num == 1)).toArray⟩ : ByteArray).size : Int), .nilIface]) ∧ Hid (Bld B b (l ++ putL (d + 1) t) w1 ∧ Fra B b w w1))) := by
      refine (bld_string B b l ⟨(Lib.formatBool (t.num == 1)).toArray⟩ W0.drew (HB0.out.on ((Below.refl _ _).drew)) (by
        have h5 : (⟨(Lib.formatBool (t.num == 1)).toArray⟩ : ByteArray).size ≤ 5 := by cases (t.num == 1) <;> decide +kernel
        have := HL.out
        omega)).mono ?_
      rintro e w1 ⟨rfl, h1, hf1⟩
      exact ⟨rfl, by rw [HPUT.out]; simpa using h1, HF0.out.drew.trans hf1⟩
    go_enter Tryd.func23, Tryd.ntmps23
    go_wp2_with fail
    rw [← HW0.out]
    go_region_with (first | (go_at_call 46; refine (Tryd.strconv_FormatBool _ _).mono ?_; rintro e w1 ⟨rfl, rfl⟩) | (go_at_call 45; refine (Hid.out HWS).mono ?_; rintro e w2 ⟨rfl, HR⟩))
    all_goals
      go_wp2_with fail
      go_end0
      exact ⟨rfl, HR.out⟩
  · have HPUT : Hid (putL (d + 1) t = Lib.itoa t.num) := by show putL (d + 1) t = _; unfold putL; rw [if_neg (by omega), if_neg (by omega), if_pos h0]
    have HNUM : Hid (-2147483647 ≤ t.num ∧ t.num ≤ 2147483647) := by
      have h := HOK.out
      rw [ok_k2 _ _ h0] at h
      simp only [Bool.and_eq_true, decide_eq_true_eq] at h
      exact h.2
    clear h0
    have t_null := fun (W : World) (v : Value) => (show (Instr.typeAssert (.iface 77 v) 46 75 true).run Tryd.prog W = .ok (.tuple #[.agg #[], .bool false]) W by kernel_rfl)
    have t_bool := fun (W : World) (v : Value) => (show (Instr.typeAssert (.iface 77 v) 46 76 true).run Tryd.prog W = .ok (.tuple #[.bool false, .bool false]) W by kernel_rfl)
    have t_num := fun (W : World) (v : Value) => (show (Instr.typeAssert (.iface 77 v) 46 77 true).run Tryd.prog W = .ok (.tuple #[v, .bool true]) W by kernel_rfl)
    have HIT : Hid (Calls Tryd.prog 30 #[.int .i64 t.num] W0.drew (fun e w1 => e = .returned (.string ⟨(Lib.itoa t.num).toArray⟩) ∧ w1.cell? ⟨w.heap.size, 0, none⟩ = some (.pointer (some ⟨b, 0, none⟩)) ∧ Hid (Below W0.heap.size W0 w1))) := by
      have hn := HNUM.out
      refine (Tryd.strconv_Itoa t.num (by omega) (by omega) W0.drew (H0.out.2 _ HBW.out.drew)).mono ?_
      rintro e w1 ⟨rfl, kk, os, rfl⟩
      have hb1 := ((Below.refl W0.heap.size W0).drew).trans (Lib.below_grow W0.heap.size W0.drew (Nat.le_refl _) kk os)
      exact ⟨rfl, cell_on hb1 p0, hb1⟩
    have HWS : Hid (∀ w1, Below W0.heap.size W0 w1 → Calls Tryd.prog 45 #[.pointer (some ⟨b, 0, none⟩), .string ⟨(Lib.itoa t.num).toArray⟩] w1 (fun e w2 => e = .returned (.tuple #[.int .i64 ((⟨(Lib.itoa t.num).toArray⟩ : ByteArray).size : Int), .nilIface]) ∧ Hid (Bld B b (l ++ putL (d + 1) t) w2 ∧ Fra B b w w2))) := fun w1 hb1 => by
      refine (bld_string B b l ⟨(Lib.itoa t.num).toArray⟩ w1 (HB0.out.on hb1) (by
        have h5 : (⟨(Lib.itoa t.num).toArray⟩ : ByteArray).size ≤ 12 := by
          have := itoa_len HNUM.out.1 HNUM.out.2
          show (Lib.itoa t.num).toArray.size ≤ 12
          simpa using this
        have := HL.out
        omega)).mono ?_
      rintro e w2 ⟨rfl, h1, hf1⟩
      exact ⟨rfl, by rw [HPUT.out]; simpa using h1, HF0.out.trans ((Fra.of_below hb1 (by have := HB0.out.le; omega)).trans hf1)⟩
    go_enter Tryd.func23, Tryd.ntmps23
    go_wp2_with fail
    rw [← HW0.out]
    go_region_with (first | (go_at_call 30; refine (Hid.out HIT).mono ?_; rintro e w1 ⟨rfl, p1, HB1⟩) | (go_at_call 45; refine (Hid.out HWS _ (Hid.out HB1)).mono ?_; rintro e w2 ⟨rfl, HR⟩))
    all_goals
      go_wp2_with fail
      go_end0
      exact ⟨rfl, HR.out⟩
  · have HPUT : Hid (putL (d + 1) t = qTxt t.text.data.toList) := by show putL (d + 1) t = _; unfold putL; rw [if_neg (by omega), if_neg (by omega), if_neg (by omega), if_pos h0]
    have HSZ : Hid (t.text.size ≤ 40) := by
      have h := HOK.out
      rw [ok_k3 _ _ h0] at h
      simp only [Bool.and_eq_true, decide_eq_true_eq] at h
      exact h.2
    clear h0
    have t_null := fun (W : World) (v : Value) => (show (Instr.typeAssert (.iface 78 v) 46 75 true).run Tryd.prog W = .ok (.tuple #[.agg #[], .bool false]) W by kernel_rfl)
    have t_bool := fun (W : World) (v : Value) => (show (Instr.typeAssert (.iface 78 v) 46 76 true).run Tryd.prog W = .ok (.tuple #[.bool false, .bool false]) W by kernel_rfl)
    have t_num := fun (W : World) (v : Value) => (show (Instr.typeAssert (.iface 78 v) 46 77 true).run Tryd.prog W = .ok (.tuple #[.int .i64 0, .bool false]) W by kernel_rfl)
    have t_text := fun (W : World) (v : Value) => (show (Instr.typeAssert (.iface 78 v) 46 78 true).run Tryd.prog W = .ok (.tuple #[v, .bool true]) W by kernel_rfl)
    go_enter Tryd.func23, Tryd.ntmps23
    go_wp2_with fail
    rw [← HW0.out]
    refine (writeText_any B b l t.text W0 HB0.out (by have := HSZ.out; have := HL.out; omega)).mono ?_
    rintro e w1 ⟨rfl, h1, hf1⟩
    have HR : Hid (Bld B b (l ++ putL (d + 1) t) w1 ∧ Fra B b w w1) := ⟨by rw [HPUT.out]; exact h1, HF0.out.trans hf1⟩
    clear h1 hf1
    go_wp2_with fail
    go_end0
    exact ⟨rfl, HR.out⟩
  · have HPUT : Hid (putL (d + 1) t = 91 :: sepL (t.list.map (putL d)) ++ [93]) := by show putL (d + 1) t = _; unfold putL; rw [if_neg (by omega), if_neg (by omega), if_neg (by omega), if_neg (by omega), if_pos h0]
    have hok := HOK.out
    rw [okB_succ] at hok
    simp only [Bool.and_eq_true, List.all_eq_true] at hok
    obtain ⟨⟨⟨hp, _⟩, hn⟩, ha⟩ := hok
    have h12 : t.list.length ≤ 12 := by
      rw [h0] at hp
      have : plainB 4 t.num t.text t.list.length t.names.length = (t.num == 0 && t.text.toList.isEmpty && decide (t.names.length = 0) && decide (t.list.length ≤ 12)) := rfl
      rw [this] at hp
      simp only [Bool.and_eq_true, decide_eq_true_eq] at hp
      exact hp.2
    obtain ⟨sa, sc, rfl, _, _⟩ := Row.len hrow
    have HC : Hid (Calls Tryd.prog 48 #[.pointer (some ⟨b, 0, none⟩), .string ⟨#[91, 93]⟩, .string ⟨#[44]⟩, .slice sa t.list.length sc, .func (.func 49) #[] #[.pointer (some ⟨w.heap.size, 0, none⟩), .pointer (some ⟨w.heap.size + 1, 0, none⟩)]] W0 fun e w' => e = .returned (.tuple #[]) ∧ Bld B b (l ++ (91 :: sepL (t.list.map (putL d)) ++ [93])) w' ∧ Fra B b W0 w') :=
      writeAllF d ih k t.list _ w0 B b _ _ l W0 hrow ha (putL_len d) h12 H0.out.1 HBW.out H0.out.2 HB0.out HLL.out HOP.out HOB.out HNE.out.1 HNE.out.2
    clear h0 hrow hp hn ha h12 ih
    have t_null := fun (W : World) (v : Value) => (show (Instr.typeAssert (.iface 80 v) 46 75 true).run Tryd.prog W = .ok (.tuple #[.agg #[], .bool false]) W by kernel_rfl)
    have t_bool := fun (W : World) (v : Value) => (show (Instr.typeAssert (.iface 80 v) 46 76 true).run Tryd.prog W = .ok (.tuple #[.bool false, .bool false]) W by kernel_rfl)
    have t_num := fun (W : World) (v : Value) => (show (Instr.typeAssert (.iface 80 v) 46 77 true).run Tryd.prog W = .ok (.tuple #[.int .i64 0, .bool false]) W by kernel_rfl)
    have t_text := fun (W : World) (v : Value) => (show (Instr.typeAssert (.iface 80 v) 46 78 true).run Tryd.prog W = .ok (.tuple #[.string ⟨#[]⟩, .bool false]) W by kernel_rfl)
    have t_var := fun (W : World) (v : Value) => (show (Instr.typeAssert (.iface 80 v) 46 87 true).run Tryd.prog W = .ok (.tuple #[.string ⟨#[]⟩, .bool false]) W by kernel_rfl)
    have t_word := fun (W : World) (v : Value) => (show (Instr.typeAssert (.iface 80 v) 46 88 true).run Tryd.prog W = .ok (.tuple #[.string ⟨#[]⟩, .bool false]) W by kernel_rfl)
    have t_list := fun (W : World) (v : Value) => (show (Instr.typeAssert (.iface 80 v) 46 80 true).run Tryd.prog W = .ok (.tuple #[v, .bool true]) W by kernel_rfl)
    go_enter Tryd.func23, Tryd.ntmps23
    go_wp2_with fail
    rw [← HW0.out]
    refine (Hid.out HC).mono ?_
    rintro e w1 ⟨rfl, h1, hf1⟩
    have HR : Hid (Bld B b (l ++ putL (d + 1) t) w1 ∧ Fra B b w w1) := ⟨by rw [HPUT.out]; exact h1, HF0.out.trans hf1⟩
    clear h1 hf1
    go_wp2_with fail
    go_end0
    exact ⟨rfl, HR.out⟩
  · have HPUT : Hid (putL (d + 1) t = 123 :: sepL ((t.names.zip t.list).map (pairL d)) ++ [125]) := by show putL (d + 1) t = _; unfold putL; rw [if_neg (by omega), if_neg (by omega), if_neg (by omega), if_neg (by omega), if_neg (by omega), if_pos h0]; rfl
    have hok := HOK.out
    rw [okB_succ] at hok
    simp only [Bool.and_eq_true, List.all_eq_true] at hok
    obtain ⟨⟨⟨hp, _⟩, hn⟩, ha⟩ := hok
    have h12 : (t.names.zip t.list).length ≤ 12 := by
      rw [h0] at hp
      have : plainB 5 t.num t.text t.list.length t.names.length = (t.num == 0 && t.text.toList.isEmpty && decide (t.names.length = t.list.length) && decide (t.list.length ≤ 12)) := rfl
      rw [this] at hp
      simp only [Bool.and_eq_true, decide_eq_true_eq] at hp
      have := hp.2
      simp
      omega
    obtain ⟨sa, sc, rfl, _, _⟩ := Row.len hrow
    have HC : Hid (Calls Tryd.prog 50 #[.pointer (some ⟨b, 0, none⟩), .string ⟨#[123, 125]⟩, .string ⟨#[44]⟩, .slice sa (t.names.zip t.list).length sc, .func (.func 51) #[] #[.pointer (some ⟨w.heap.size, 0, none⟩), .pointer (some ⟨w.heap.size + 1, 0, none⟩)]] W0 fun e w' => e = .returned (.tuple #[]) ∧ Bld B b (l ++ (123 :: sepL ((t.names.zip t.list).map (pairL d)) ++ [125])) w' ∧ Fra B b W0 w') :=
      writeAllB d ih k (t.names.zip t.list) _ w0 B b _ _ l W0 hrow (fun x hx => by
        have hx' : (x.1, x.2) ∈ t.names.zip t.list := hx
        exact ⟨ha _ (List.of_mem_zip hx').2, once_names _ _ hn _ (List.of_mem_zip hx').1⟩) (putL_len d) h12 H0.out.1 HBW.out H0.out.2 HB0.out HLL.out HOP.out HOB.out HNE.out.1 HNE.out.2
    obtain ⟨zn, hzn⟩ : ∃ zn, (t.names.zip t.list).length = zn := ⟨_, rfl⟩
    rw [hzn] at HC ⊢
    clear h0 hrow hp hn ha h12 ih hl' hzn HFM
    have t_null := fun (W : World) (v : Value) => (show (Instr.typeAssert (.iface 84 v) 46 75 true).run Tryd.prog W = .ok (.tuple #[.agg #[], .bool false]) W by kernel_rfl)
    have t_bool := fun (W : World) (v : Value) => (show (Instr.typeAssert (.iface 84 v) 46 76 true).run Tryd.prog W = .ok (.tuple #[.bool false, .bool false]) W by kernel_rfl)
    have t_num := fun (W : World) (v : Value) => (show (Instr.typeAssert (.iface 84 v) 46 77 true).run Tryd.prog W = .ok (.tuple #[.int .i64 0, .bool false]) W by kernel_rfl)
    have t_text := fun (W : World) (v : Value) => (show (Instr.typeAssert (.iface 84 v) 46 78 true).run Tryd.prog W = .ok (.tuple #[.string ⟨#[]⟩, .bool false]) W by kernel_rfl)
    have t_var := fun (W : World) (v : Value) => (show (Instr.typeAssert (.iface 84 v) 46 87 true).run Tryd.prog W = .ok (.tuple #[.string ⟨#[]⟩, .bool false]) W by kernel_rfl)
    have t_word := fun (W : World) (v : Value) => (show (Instr.typeAssert (.iface 84 v) 46 88 true).run Tryd.prog W = .ok (.tuple #[.string ⟨#[]⟩, .bool false]) W by kernel_rfl)
    have t_list := fun (W : World) (v : Value) => (show (Instr.typeAssert (.iface 84 v) 46 80 true).run Tryd.prog W = .ok (.tuple #[.slice none 0 0, .bool false]) W by kernel_rfl)
    have t_tree := fun (W : World) (v : Value) => (show (Instr.typeAssert (.iface 84 v) 46 84 true).run Tryd.prog W = .ok (.tuple #[v, .bool true]) W by kernel_rfl)
    go_enter Tryd.func23, Tryd.ntmps23
    go_wp2_with fail
    rw [← HW0.out]
    refine (Hid.out HC).mono ?_
    rintro e w1 ⟨rfl, h1, hf1⟩
    have HR : Hid (Bld B b (l ++ putL (d + 1) t) w1 ∧ Fra B b w w1) := ⟨by rw [HPUT.out]; exact h1, HF0.out.trans hf1⟩
    clear h1 hf1
    go_wp2_with fail
    go_end0
    exact ⟨rfl, HR.out⟩
  · exfalso
    have hok := HOK.out
    rw [okB_succ] at hok
    simp only [Bool.and_eq_true, Bool.false_or, decide_eq_true_eq] at hok
    have := hok.1.1.2
    omega
  · exfalso
    have hok := HOK.out
    rw [okB_succ] at hok
    simp only [Bool.and_eq_true, Bool.false_or, decide_eq_true_eq] at hok
    have := hok.1.1.2
    omega

theorem write_all : ∀ d : Nat, WrC d
  | 0 => fun _ t _ _ _ _ _ _ _ h _ _ _ _ _ => by simp [okB] at h
  | d + 1 => writeForm_step d (write_all d)

end Go.Proofs.YtegnalfkdponhaaDoor
