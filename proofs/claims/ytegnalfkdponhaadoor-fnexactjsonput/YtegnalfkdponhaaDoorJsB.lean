
/-
  DERIVED. THE WALKS OF spec.l1Name2 AND spec.l1Put.
-/
import Derived.Test.YtegnalfkdponhaaDoorJsA
import Derived.Test.YtegnalfkdponhaaDoorJpE
namespace Go.Proofs.YtegnalfkdponhaaDoor
open Go.RowKit
set_option linter.unusedVariables false
set_option linter.unusedSimpArgs false

theorem bw_le : ∀ d, d ≤ 5 → bw d ≤ 108581100 := by
  intro d hd
  match d, hd with
  | 0, _ => decide
  | 1, _ => decide
  | 2, _ => decide
  | 3, _ => decide
  | 4, _ => decide
  | 5, _ => decide
  | d + 6, h => omega

def PtC (d : Nat) : Prop := ∀ (k : Nat) (t : Vl) (vl vn : Value) (w : World), VlR w 0 k t [.int .i64 t.kind, .int .i64 t.num, .string t.text, vl, vn] → okB false d t = true →
  Calls Tryd.prog 19 #[.agg #[.int .i64 t.kind, .int .i64 t.num, .string t.text, vl, vn]] w fun e w' => e = .returned (.string (mkB (putL d t))) ∧ Below w.heap.size w w'

set_option maxHeartbeats 1000000 in
theorem l1Name2_any (t : Vl) (vl : Value) (a' : Option Addr) (c' : Nat) (j : Nat) (w : World) (hn : StrRow w 0 t.names (.slice a' t.names.length c')) (hj : j < t.names.length) :
    Calls Tryd.prog 40 #[.agg #[.int .i64 t.kind, .int .i64 t.num, .string t.text, vl, .slice a' t.names.length c'], .int .i64 (j : Int)] w fun e w' => e = .returned (.string t.names[j]) ∧ Below w.heap.size w w' := by
  obtain ⟨_, _, hv, hw, hrest⟩ := hn.len
  simp only [Value.slice.injEq, true_and] at hv
  obtain ⟨rfl, rfl⟩ := hv
  obtain ⟨b, off, rfl, _, hcs⟩ := hrest (List.ne_nil_of_length_pos (by omega))
  have c0 := (hcs j hj).1
  have hbl : b < w.heap.size := cell_lt c0
  have hji : (j : Int) < (t.names.length : Int) := by omega
  have hni : (t.names.length : Int) ≤ 140737488351232 := by omega
  clear hrest hcs hn
  go_enter Tryd.func40, Tryd.ntmps40
  go_wp2_with fail
  go_ret
  exact ⟨rfl, (Below.refl _ _).alloc (Nat.le_refl _) _⟩

set_option maxHeartbeats 4000000 in
set_option maxRecDepth 100000 in
theorem l1Put_step (d : Nat) (hd : d ≤ 5) (ih : PtC d) : PtC (d + 1) := by
  intro k t vl vn w hv hok
  cases k with
  | zero => exact hv.elim
  | succ k =>
  obtain ⟨vl', vn', he, hkd, hnm, htx, hrow, hnames⟩ := hv
  simp only [List.cons.injEq, true_and, and_true] at he
  obtain ⟨rfl, rfl⟩ := he
  obtain ⟨a, c, rfl, hw, hrest⟩ := Row.len hrow
  obtain ⟨a', c', rfl, hw', _⟩ := hnames.len
  have hok' := hok
  rw [okB_succ] at hok'
  simp only [Bool.and_eq_true, List.all_eq_true, Bool.false_or, decide_eq_true_eq] at hok'
  obtain ⟨⟨⟨hp, hk5⟩, hno⟩, ha⟩ := hok'
  have HBW : Hid (bw d ≤ 108581100) := bw_le d hd
  obtain ⟨W0, hW0⟩ : ∃ W, W = w.alloc (Obj.cells #[.int .i64 t.kind, .int .i64 t.num, .string t.text, .slice a t.list.length c, .slice a' t.names.length c'] 30) := ⟨_, rfl⟩
  have hb0 : Below w.heap.size w W0 := by rw [hW0]; exact (Below.refl _ _).alloc (Nat.le_refl _) _
  have HO : Hid (Owns W0 w.heap.size #[.int .i64 t.kind, .int .i64 t.num, .string t.text, .slice a t.list.length c, .slice a' t.names.length c'] 30) := by rw [hW0]; exact Owns.made _ _ _
  have HB0 : Hid (Below w.heap.size w W0) := hb0
  have HW0 : Hid (W0 = w.alloc (Obj.cells #[.int .i64 t.kind, .int .i64 t.num, .string t.text, .slice a t.list.length c, .slice a' t.names.length c'] 30)) := hW0
  have HREST : Hid _ := hrest
  have HNM : Hid (∀ W, Keeps 0 w W → StrRow W 0 t.names (.slice a' t.names.length c')) := fun W h => hnames.keeps h
  have HA : Hid (∀ x ∈ t.list, okB false d x = true) := ha
  have HOK : Hid (okB false (d + 1) t = true) := hok
  have HNO : Hid (onceB [] t.names = true) := hno
  have HP : Hid (plainB t.kind t.num t.text t.list.length t.names.length = true) := hp
  clear hrow hnames hrest hok ha hno hp hb0 hW0 hw hw'
  by_cases h1 : t.kind = 1
  · have HPUT : Hid (putL (d + 1) t = if t.num = 1 then [116, 114, 117, 101] else [102, 97, 108, 115, 101]) := by show putL (d + 1) t = _; unfold putL; rw [if_neg (by omega), if_pos h1]
    have e1 : (t.kind == 1) = true := by simp [h1]
    clear HREST ih
    by_cases hn1 : t.num = 1
    · have en : (t.num == 1) = true := by simp [hn1]
      have HN1 : Hid (t.num = 1) := hn1
      clear hn1 h1
      go_enter Tryd.func19, Tryd.ntmps19
      go_wp2_with fail
      go_ret
      exact ⟨ret_string (by rw [HPUT.out, if_pos HN1.out]; rfl), HW0.out ▸ HB0.out⟩
    · have en : (t.num == 1) = false := by simp [hn1]
      have HN1 : Hid (t.num ≠ 1) := hn1
      clear hn1 h1
      go_enter Tryd.func19, Tryd.ntmps19
      go_wp2_with fail
      go_ret
      exact ⟨ret_string (by rw [HPUT.out, if_neg HN1.out]; rfl), HW0.out ▸ HB0.out⟩
  have e1 : (t.kind == 1) = false := by simp [h1]
  by_cases h2 : t.kind = 2
  · have HPUT : Hid (putL (d + 1) t = Lib.itoa t.num) := by show putL (d + 1) t = _; unfold putL; rw [if_neg (by omega), if_neg (by omega), if_pos h2]
    have HNUM : Hid (-2147483647 ≤ t.num ∧ t.num ≤ 2147483647) := by
      have h := HOK.out
      rw [ok_k2 _ _ h2] at h
      simp only [Bool.and_eq_true, decide_eq_true_eq] at h
      exact h.2
    have e2 : (t.kind == 2) = true := by simp [h2]
    clear HREST ih h1 h2
    go_enter Tryd.func19, Tryd.ntmps19
    go_wp2_with fail
    rw [← HW0.out]
    refine (l1Dec_any t.num HNUM.out.1 HNUM.out.2 W0).mono ?_
    rintro e w1 ⟨rfl, hb1⟩
    have HB1 : Hid (Below w.heap.size w w1) := HB0.out.trans (hb1.mono HB0.out.size)
    clear hb1
    go_wp2_with fail
    go_ret
    exact ⟨ret_string (by rw [HPUT.out]), HB1.out⟩
  have e2 : (t.kind == 2) = false := by simp [h2]
  by_cases h3 : t.kind = 3
  · have HPUT : Hid (putL (d + 1) t = qTxt t.text.data.toList) := by show putL (d + 1) t = _; unfold putL; rw [if_neg (by omega), if_neg (by omega), if_neg (by omega), if_pos h3]
    have HSZ : Hid (t.text.size ≤ 10000) := by
      have h := HOK.out
      rw [ok_k3 _ _ h3] at h
      simp only [Bool.and_eq_true, decide_eq_true_eq] at h
      have := h.2
      show _ ≤ _
      omega
    have e3 : (t.kind == 3) = true := by simp [h3]
    clear HREST ih h1 h2 h3
    go_enter Tryd.func19, Tryd.ntmps19
    go_wp2_with fail
    rw [← HW0.out]
    refine (l1Quote_any t.text W0 HSZ.out).mono ?_
    rintro e w1 ⟨rfl, hb1⟩
    have HB1 : Hid (Below w.heap.size w w1) := HB0.out.trans (hb1.mono HB0.out.size)
    clear hb1
    go_wp2_with fail
    go_ret
    exact ⟨ret_string (by rw [HPUT.out]), HB1.out⟩
  have e3 : (t.kind == 3) = false := by simp [h3]
  by_cases h4 : t.kind = 4
  · have HPUT : Hid (putL (d + 1) t = 91 :: sepL (t.list.map (putL d)) ++ [93]) := by show putL (d + 1) t = _; unfold putL; rw [if_neg (by omega), if_neg (by omega), if_neg (by omega), if_neg (by omega), if_pos h4]
    have h12 : t.list.length ≤ 12 := by
      have hp := HP.out
      rw [h4] at hp
      have : plainB 4 t.num t.text t.list.length t.names.length = (t.num == 0 && t.text.toList.isEmpty && decide (t.names.length = 0) && decide (t.list.length ≤ 12)) := rfl
      rw [this] at hp
      simp only [Bool.and_eq_true, decide_eq_true_eq] at hp
      exact hp.2
    have hli : (t.list.length : Int) ≤ 12 := by omega
    have HSL : Hid (∀ j, j ≤ t.list.length → (mkB (sepL ((t.list.take j).map (putL d)))).size ≤ 1302980000) := fun j hj => by
      have h5 := sepL_len ((t.list.take j).map (putL d)) (bw d) (fun x hx => by
        obtain ⟨y, hy, rfl⟩ := List.mem_map.1 hx
        exact putL_len d y (HA.out y (List.mem_of_mem_take hy)))
      have h6 : ((t.list.take j).map (putL d)).length * (bw d + 1) ≤ 12 * (bw d + 1) := Nat.mul_le_mul_right _ (by simp; omega)
      have := HBW.out
      show _ ≤ _
      rw [mkB_size]
      omega
    have e4 : (t.kind == 4) = true := by simp [h4]
    clear h1 h2 h3 h4 hk5
    go_enter Tryd.func19, Tryd.ntmps19
    go_wp2_with fail
    rw [← HW0.out]
    go_loopw [3, 4] (fun o i wr => ∃ (j : Nat) (x : ByteArray), j ≤ t.list.length ∧ o = .string x ∧ i = .int .i64 j ∧ x.size ≤ 1302980000 ∧ Hid (x = mkB (sepL ((t.list.take j).map (putL d)))) ∧ Hid (Below W0.heap.size W0 wr)) (fun _ i _ => t.list.length - (intOf i).toNat)
    case atStart => exact ⟨0, ⟨#[]⟩, Nat.zero_le _, rfl, rfl, by decide, by show _ = _; simp [sepL, mkB], Below.refl _ _⟩
    case round =>
      obtain ⟨j, x, hj, rfl, rfl, hx, HX, HB⟩ := hrel
      have b3 : wr.cell? ⟨w.heap.size, 3, none⟩ = some (.slice a t.list.length c) := by rw [(HO.out.below HB.out HO.out.lt).cell]; rfl
      have hji : (j : Int) ≤ 12 := by omega
      by_cases hlt : j < t.list.length
      · have hlti : (j : Int) < (t.list.length : Int) := by omega
        obtain ⟨bb, off, rfl, _, hcs⟩ := HREST.out (List.ne_nil_of_length_pos (by omega))
        obtain ⟨cs, _, hc, hR⟩ := hcs j hlt
        obtain ⟨p, n, p', n', rfl⟩ := hR.cells
        have hkw : Keeps 0 w wr := Keeps.of_below (HB0.out.trans (HB.out.mono HB0.out.size)) (Nat.le_refl _) 0
        obtain ⟨r0, r1, r2, r3, r4⟩ := (hc.keeps hkw (Nat.zero_le _)).five
        have HC : Hid (Calls Tryd.prog 19 #[.agg #[.int .i64 t.list[j].kind, .int .i64 t.list[j].num, .string t.list[j].text, .slice p t.list[j].list.length n, .slice p' t.list[j].names.length n']] wr (fun e w' => ∃ y : ByteArray, e = .returned (.string y) ∧ y.size ≤ 108581100 ∧ Hid (y = mkB (putL d t.list[j])) ∧ Hid (Below wr.heap.size wr w'))) :=
          (ih k t.list[j] _ _ wr (VlR.keeps hkw _ _ _ hR) (HA.out _ (List.getElem_mem hlt))).mono fun e w' ⟨g1, g2⟩ => ⟨_, g1, by
            have := putL_len d t.list[j] (HA.out _ (List.getElem_mem hlt))
            have := HBW.out
            rw [mkB_size]; omega, rfl, g2⟩
        have HN : Hid (mkB (sepL ((t.list.take (j + 1)).map (putL d))) = if j = 0 then mkB (putL d t.list[j]) else x ++ mkB [44] ++ mkB (putL d t.list[j])) := by
          show _ = _
          rw [List.take_succ_eq_append_getElem hlt, List.map_append]
          by_cases hz : j = 0
          · subst hz; simp [sepL]
          · rw [if_neg hz, HX.out, mkB_append, mkB_append]
            congr 1
            rw [show [t.list[j]].map (putL d) = [putL d t.list[j]] from rfl, sepL_snoc _ _ (by intro h; rw [List.map_eq_nil_iff, List.take_eq_nil_iff] at h; rcases h with h | h; exact hz h; rw [h] at hlt; simp at hlt)]
            simp
        have HS1 : Hid ((mkB (sepL ((t.list.take (j + 1)).map (putL d)))).size ≤ 1302980000) := HSL.out (j + 1) hlt
        clear hc hR hcs hkw HREST ih
        by_cases hz : j = 0
        · have hz' : decide ((0 : Int) < (j : Int)) = false := decide_eq_false (by omega)
          have hz2 : ¬ 0 < j := by omega
          have hz3 : decide (0 < j) = false := decide_eq_false (by omega)
          have HZ : Hid (j = 0) := hz
          clear hz
          go_wp2_with fail
          refine (Hid.out HC).mono ?_
          rintro e w1 ⟨y, rfl, hy, HY, HB1⟩
          have HB2 : Hid (Below W0.heap.size W0 w1) := HB.out.trans (HB1.out.mono HB.out.size)
          have h6 : Hid (x ++ y = mkB (sepL ((t.list.take (j + 1)).map (putL d)))) := by
            have h0 : sepL ((t.list.take j).map (putL d)) = [] := by rw [show t.list.take j = [] by rw [HZ.out]; rfl]; rfl
            show _ = _
            rw [HN.out, if_pos HZ.out, HX.out, h0, HY.out, mkB_append, List.nil_append]
          go_wp2_with fail
          refine ⟨⟨j + 1, x ++ y, by omega, rfl, by go_num, ?_, ?_, HB2.out⟩, by simp [intOf]; omega⟩
          · rw [h6.out]; exact HS1.out
          · exact h6
        · have hz' : (0 : Int) < (j : Int) := by omega
          have HZ : Hid (j ≠ 0) := hz
          clear hz
          go_wp2_with fail
          refine (Hid.out HC).mono ?_
          rintro e w1 ⟨y, rfl, hy, HY, HB1⟩
          have HB2 : Hid (Below W0.heap.size W0 w1) := HB.out.trans (HB1.out.mono HB.out.size)
          have h5 : Hid (x ++ ⟨#[44]⟩ ++ y = mkB (sepL ((t.list.take (j + 1)).map (putL d)))) := by
            show _ = _
            rw [HN.out, if_neg HZ.out, HY.out]
            rfl
          go_wp2_with fail
          exact ⟨⟨j + 1, x ++ ⟨#[44]⟩ ++ y, by omega, rfl, by go_num, by rw [h5.out]; exact HS1.out, h5, HB2.out⟩, by simp [intOf]; omega⟩
      · have hlti : decide ((j : Int) < (t.list.length : Int)) = false := decide_eq_false (by omega)
        obtain rfl : j = t.list.length := by omega
        clear HREST ih
        go_wp2_with fail
        go_ret
        refine ⟨ret_string ?_, HB0.out.trans (HB.out.mono HB0.out.size)⟩
        rw [HPUT.out, HX.out, List.take_length]
        show mkB [91] ++ _ ++ mkB [93] = _
        rw [mkB_append, mkB_append]
        simp
  have e4 : (t.kind == 4) = false := by simp [h4]
  by_cases h5 : t.kind = 5
  · have HPUT : Hid (putL (d + 1) t = 123 :: sepL ((t.names.zip t.list).map (pairL d)) ++ [125]) := by show putL (d + 1) t = _; unfold putL; rw [if_neg (by omega), if_neg (by omega), if_neg (by omega), if_neg (by omega), if_neg (by omega), if_pos h5]; rfl
    have hp5 : t.names.length = t.list.length ∧ t.list.length ≤ 12 := by
      have hp := HP.out
      rw [h5] at hp
      have : plainB 5 t.num t.text t.list.length t.names.length = (t.num == 0 && t.text.toList.isEmpty && decide (t.names.length = t.list.length) && decide (t.list.length ≤ 12)) := rfl
      rw [this] at hp
      simp only [Bool.and_eq_true, decide_eq_true_eq] at hp
      exact ⟨hp.1.2, hp.2⟩
    have HNL : Hid (t.names.length = t.list.length) := hp5.1
    have hli : (t.list.length : Int) ≤ 12 := by have := hp5.2; omega
    have HZL : Hid ((t.names.zip t.list).length = t.list.length) := by show _ = _; simp; omega
    have HSL : Hid (∀ j, j ≤ t.list.length → (mkB (sepL (((t.names.zip t.list).take j).map (pairL d)))).size ≤ 1302980000) := fun j hj => by
      have h6 := sepL_len (((t.names.zip t.list).take j).map (pairL d)) (bw d + 80) (fun x hx => by
        obtain ⟨y, hy, rfl⟩ := List.mem_map.1 hx
        have hy' : (y.1, y.2) ∈ t.names.zip t.list := List.mem_of_mem_take hy
        exact pairL_len (putL_len d y.2 (HA.out _ (List.of_mem_zip hy').2)) (once_names _ _ HNO.out _ (List.of_mem_zip hy').1))
      have h7 : (((t.names.zip t.list).take j).map (pairL d)).length * (bw d + 80 + 1) ≤ 12 * (bw d + 80 + 1) := Nat.mul_le_mul_right _ (by have := hp5.2; simp; omega)
      have := HBW.out
      show _ ≤ _
      rw [mkB_size]
      omega
    have e5 : (t.kind == 5) = true := by simp [h5]
    have h12 : t.list.length ≤ 12 := hp5.2
    clear h1 h2 h3 h4 hk5 h5 hp5
    go_enter Tryd.func19, Tryd.ntmps19
    go_wp2_with fail
    rw [← HW0.out]
    go_loopw [5, 6] (fun o i wr => ∃ (j : Nat) (x : ByteArray), j ≤ t.list.length ∧ o = .string x ∧ i = .int .i64 j ∧ x.size ≤ 1302980000 ∧ Hid (x = mkB (sepL (((t.names.zip t.list).take j).map (pairL d)))) ∧ Hid (Below W0.heap.size W0 wr)) (fun _ i _ => t.list.length - (intOf i).toNat)
    case atStart => exact ⟨0, ⟨#[]⟩, Nat.zero_le _, rfl, rfl, by decide, by show _ = _; simp [sepL, mkB], Below.refl _ _⟩
    case round =>
      obtain ⟨j, x, hj, rfl, rfl, hx, HX, HB⟩ := hrel
      have hji : (j : Int) ≤ 12 := by omega
      by_cases hlt : j < t.list.length
      · have hlti : (j : Int) < (t.list.length : Int) := by omega
        obtain ⟨bb, off, rfl, _, hcs⟩ := HREST.out (List.ne_nil_of_length_pos (by omega))
        obtain ⟨cs, _, hc, hR⟩ := hcs j hlt
        obtain ⟨p, n, p', n', rfl⟩ := hR.cells
        have hjn : j < t.names.length := by have := HNL.out; omega
        have HKW : Hid (∀ W, Below wr.heap.size wr W → Keeps 0 w W) := fun W h => Keeps.of_below (HB0.out.trans ((HB.out.trans (h.mono HB.out.size)).mono HB0.out.size)) (Nat.le_refl _) 0
        have HCELL : Hid (∀ W, Below wr.heap.size wr W → (W.cell? ⟨w.heap.size, 0, none⟩ = some (.int .i64 t.kind) ∧ W.cell? ⟨w.heap.size, 1, none⟩ = some (.int .i64 t.num) ∧ W.cell? ⟨w.heap.size, 2, none⟩ = some (.string t.text) ∧ W.cell? ⟨w.heap.size, 3, none⟩ = some (.slice (some ⟨bb, off, none⟩) t.list.length c) ∧ W.cell? ⟨w.heap.size, 4, none⟩ = some (.slice a' t.names.length c')) ∧ (W.cell? ⟨bb, off + j * 5, none⟩ = some (.int .i64 t.list[j].kind) ∧ W.cell? ⟨bb, off + j * 5 + 1, none⟩ = some (.int .i64 t.list[j].num) ∧ W.cell? ⟨bb, off + j * 5 + 2, none⟩ = some (.string t.list[j].text) ∧ W.cell? ⟨bb, off + j * 5 + 3, none⟩ = some (.slice p t.list[j].list.length n) ∧ W.cell? ⟨bb, off + j * 5 + 4, none⟩ = some (.slice p' t.list[j].names.length n'))) := fun W h => by
          have hO := HO.out.below (HB.out.trans (h.mono HB.out.size)) HO.out.lt
          refine ⟨⟨?_, ?_, ?_, ?_, ?_⟩, (hc.keeps (HKW.out W h) (Nat.zero_le _)).five⟩
          · rw [hO.cell]; rfl
          · rw [hO.cell]; rfl
          · rw [hO.cell]; rfl
          · rw [hO.cell]; rfl
          · rw [hO.cell]; rfl
        obtain ⟨nm, hnm9⟩ : ∃ nm, t.names[j] = nm := ⟨_, rfl⟩
        have HN12 : Hid (nm.size ≤ 12) := by show _ ≤ _; rw [← hnm9]; exact once_names _ _ HNO.out _ (List.getElem_mem hjn)
        have HT1 : Hid (Calls Tryd.prog 40 #[.agg #[.int .i64 t.kind, .int .i64 t.num, .string t.text, .slice (some ⟨bb, off, none⟩) t.list.length c, .slice a' t.names.length c'], .int .i64 (j : Int)] wr.drew (fun e w' => e = .returned (.string nm) ∧ ((w'.cell? ⟨w.heap.size, 0, none⟩ = some (.int .i64 t.kind) ∧ w'.cell? ⟨w.heap.size, 1, none⟩ = some (.int .i64 t.num) ∧ w'.cell? ⟨w.heap.size, 2, none⟩ = some (.string t.text) ∧ w'.cell? ⟨w.heap.size, 3, none⟩ = some (.slice (some ⟨bb, off, none⟩) t.list.length c) ∧ w'.cell? ⟨w.heap.size, 4, none⟩ = some (.slice a' t.names.length c')) ∧ (w'.cell? ⟨bb, off + j * 5, none⟩ = some (.int .i64 t.list[j].kind) ∧ w'.cell? ⟨bb, off + j * 5 + 1, none⟩ = some (.int .i64 t.list[j].num) ∧ w'.cell? ⟨bb, off + j * 5 + 2, none⟩ = some (.string t.list[j].text) ∧ w'.cell? ⟨bb, off + j * 5 + 3, none⟩ = some (.slice p t.list[j].list.length n) ∧ w'.cell? ⟨bb, off + j * 5 + 4, none⟩ = some (.slice p' t.list[j].names.length n'))) ∧ Hid (Below wr.heap.size wr w'))) := by
          refine (l1Name2_any t _ a' c' j wr.drew (HNM.out _ (HKW.out _ ((Below.refl _ _).drew))) hjn).mono ?_
          rintro e w' ⟨rfl, hb⟩
          have hb' : Below wr.heap.size wr w' := ((Below.refl _ wr).drew).trans hb
          exact ⟨by rw [hnm9], HCELL.out _ hb', hb'⟩
        have HT2 : Hid (∀ W, Below wr.heap.size wr W → Calls Tryd.prog 39 #[.string nm] W (fun e w' => ∃ q : ByteArray, e = .returned (.string q) ∧ ((w'.cell? ⟨w.heap.size, 0, none⟩ = some (.int .i64 t.kind) ∧ w'.cell? ⟨w.heap.size, 1, none⟩ = some (.int .i64 t.num) ∧ w'.cell? ⟨w.heap.size, 2, none⟩ = some (.string t.text) ∧ w'.cell? ⟨w.heap.size, 3, none⟩ = some (.slice (some ⟨bb, off, none⟩) t.list.length c) ∧ w'.cell? ⟨w.heap.size, 4, none⟩ = some (.slice a' t.names.length c')) ∧ (w'.cell? ⟨bb, off + j * 5, none⟩ = some (.int .i64 t.list[j].kind) ∧ w'.cell? ⟨bb, off + j * 5 + 1, none⟩ = some (.int .i64 t.list[j].num) ∧ w'.cell? ⟨bb, off + j * 5 + 2, none⟩ = some (.string t.list[j].text) ∧ w'.cell? ⟨bb, off + j * 5 + 3, none⟩ = some (.slice p t.list[j].list.length n) ∧ w'.cell? ⟨bb, off + j * 5 + 4, none⟩ = some (.slice p' t.list[j].names.length n'))) ∧ q.size ≤ 80 ∧ Hid (q = mkB (qTxt nm.data.toList)) ∧ Hid (Below wr.heap.size wr w'))) := fun W h => by
          refine (l1Quote_any nm W (by have := HN12.out; omega)).mono ?_
          rintro e w' ⟨rfl, hb⟩
          have hb' : Below wr.heap.size wr w' := h.trans (hb.mono h.size)
          refine ⟨_, rfl, HCELL.out _ hb', ?_, rfl, hb'⟩
          have h6 := qAll_len nm.data.toList
          have := HN12.out
          rw [mkB_size]
          simp only [qTxt, List.length_append, List.length_cons, List.length_nil, len_toList] at h6 ⊢
          omega
        have HT3 : Hid (∀ W, Below wr.heap.size wr W → Calls Tryd.prog 19 #[.agg #[.int .i64 t.list[j].kind, .int .i64 t.list[j].num, .string t.list[j].text, .slice p t.list[j].list.length n, .slice p' t.list[j].names.length n']] W (fun e w' => ∃ y : ByteArray, e = .returned (.string y) ∧ ((w'.cell? ⟨w.heap.size, 0, none⟩ = some (.int .i64 t.kind) ∧ w'.cell? ⟨w.heap.size, 1, none⟩ = some (.int .i64 t.num) ∧ w'.cell? ⟨w.heap.size, 2, none⟩ = some (.string t.text) ∧ w'.cell? ⟨w.heap.size, 3, none⟩ = some (.slice (some ⟨bb, off, none⟩) t.list.length c) ∧ w'.cell? ⟨w.heap.size, 4, none⟩ = some (.slice a' t.names.length c')) ∧ (w'.cell? ⟨bb, off + j * 5, none⟩ = some (.int .i64 t.list[j].kind) ∧ w'.cell? ⟨bb, off + j * 5 + 1, none⟩ = some (.int .i64 t.list[j].num) ∧ w'.cell? ⟨bb, off + j * 5 + 2, none⟩ = some (.string t.list[j].text) ∧ w'.cell? ⟨bb, off + j * 5 + 3, none⟩ = some (.slice p t.list[j].list.length n) ∧ w'.cell? ⟨bb, off + j * 5 + 4, none⟩ = some (.slice p' t.list[j].names.length n'))) ∧ y.size ≤ 108581100 ∧ Hid (y = mkB (putL d t.list[j])) ∧ Hid (Below wr.heap.size wr w'))) := fun W h =>
          (ih k t.list[j] _ _ W (VlR.keeps (HKW.out _ h) _ _ _ hR) (HA.out _ (List.getElem_mem hlt))).mono fun e w' ⟨g1, g2⟩ => ⟨_, g1, HCELL.out _ (h.trans (g2.mono h.size)), by
            have := putL_len d t.list[j] (HA.out _ (List.getElem_mem hlt))
            have := HBW.out
            rw [mkB_size]; omega, rfl, h.trans (g2.mono h.size)⟩
        have HN : Hid (mkB (sepL (((t.names.zip t.list).take (j + 1)).map (pairL d))) = if j = 0 then mkB (qTxt nm.data.toList) ++ mkB [58] ++ mkB (putL d t.list[j]) else x ++ mkB [44] ++ mkB (qTxt nm.data.toList) ++ mkB [58] ++ mkB (putL d t.list[j])) := by
          show _ = _
          have hz9 : j < (t.names.zip t.list).length := by have := HZL.out; omega
          have hpr : (t.names.zip t.list)[j] = (nm, t.list[j]) := by rw [← hnm9]; simp
          rw [List.take_succ_eq_append_getElem hz9, List.map_append, hpr]
          by_cases hz : j = 0
          · subst hz; simp [sepL, pairL, mkB_append]
          · rw [if_neg hz, HX.out, mkB_append, mkB_append, mkB_append, mkB_append]
            congr 1
            rw [show [(nm, t.list[j])].map (pairL d) = [pairL d (nm, t.list[j])] from rfl, sepL_snoc _ _ (by intro h; rw [List.map_eq_nil_iff, List.take_eq_nil_iff] at h; rcases h with h | h; exact hz h; rw [h] at hz9; simp at hz9)]
            simp [pairL]
        have HS1 : Hid ((mkB (sepL (((t.names.zip t.list).take (j + 1)).map (pairL d)))).size ≤ 1302980000) := HSL.out (j + 1) hlt
        obtain ⟨⟨c0, c1, c2, c3, c4⟩, ⟨r0, r1, r2, r3, r4⟩⟩ := HCELL.out wr (Below.refl _ _)
        clear hc hR hcs HREST ih hnm9
        by_cases hz : j = 0
        · have hz' : decide ((0 : Int) < (j : Int)) = false := decide_eq_false (by omega)
          have hz2 : ¬ 0 < j := by omega
          have hz3 : decide (0 < j) = false := decide_eq_false (by omega)
          have HZ : Hid (j = 0) := hz
          clear hz
          go_wp2_with fail
          go_region_held3 (fun w' => (w'.cell? ⟨w.heap.size, 0, none⟩ = some (.int .i64 t.kind) ∧ w'.cell? ⟨w.heap.size, 1, none⟩ = some (.int .i64 t.num) ∧ w'.cell? ⟨w.heap.size, 2, none⟩ = some (.string t.text) ∧ w'.cell? ⟨w.heap.size, 3, none⟩ = some (.slice (some ⟨bb, off, none⟩) t.list.length c) ∧ w'.cell? ⟨w.heap.size, 4, none⟩ = some (.slice a' t.names.length c')) ∧ (w'.cell? ⟨bb, off + j * 5, none⟩ = some (.int .i64 t.list[j].kind) ∧ w'.cell? ⟨bb, off + j * 5 + 1, none⟩ = some (.int .i64 t.list[j].num) ∧ w'.cell? ⟨bb, off + j * 5 + 2, none⟩ = some (.string t.list[j].text) ∧ w'.cell? ⟨bb, off + j * 5 + 3, none⟩ = some (.slice p t.list[j].list.length n) ∧ w'.cell? ⟨bb, off + j * 5 + 4, none⟩ = some (.slice p' t.list[j].names.length n'))) (go_keep) (first | (go_at_call 40; refine (Hid.out HT1).mono ?_; rintro e w1 ⟨rfl, ⟨⟨i0, i1, i2, i3, i4⟩, ⟨j0, j1, j2, j3, j4⟩⟩, HB1⟩) | (go_at_call 39; refine (Hid.out HT2 _ (Hid.out HB1)).mono ?_; rintro e w2 ⟨q, rfl, ⟨⟨k0, k1, k2, k3, k4⟩, ⟨l0, l1, l2, l3, l4⟩⟩, hq, HQ, HB2⟩; have n1 : ¬ (9223372036854775807 : Nat) < x.size + q.size := (by omega); have n2 : ¬ (9223372036854775807 : Nat) < x.size + q.size + 1 := (by omega); have n3 : ¬ (9223372036854775807 : Nat) < x.size + 1 + q.size := (by omega); have n4 : ¬ (9223372036854775807 : Nat) < x.size + 1 + q.size + 1 := (by omega)) | (go_at_call 19; refine (Hid.out HT3 _ (Hid.out HB2)).mono ?_; rintro e w3 ⟨y, rfl, ⟨⟨m0, m1, m2, m3, m4⟩, ⟨n0, n1, n2, n3, n4⟩⟩, hy, HY, HB3⟩; have n5 : ¬ (9223372036854775807 : Nat) < x.size + q.size + 1 + y.size := (by omega); have n6 : ¬ (9223372036854775807 : Nat) < x.size + 1 + q.size + 1 + y.size := (by omega)))
          have h6 : Hid (x ++ q ++ ⟨#[58]⟩ ++ y = mkB (sepL (((t.names.zip t.list).take (j + 1)).map (pairL d)))) := by
            have h0 : sepL (((t.names.zip t.list).take j).map (pairL d)) = [] := by rw [show (t.names.zip t.list).take j = [] by rw [HZ.out]; rfl]; rfl
            show _ = _
            rw [HN.out, if_pos HZ.out, HX.out, h0, HQ.out, HY.out]
            show mkB [] ++ _ ++ mkB [58] ++ _ = _
            rw [mkB_append, List.nil_append]
          have HB9 : Hid (Below W0.heap.size W0 w3) := HB.out.trans (HB3.out.mono HB.out.size)
          go_wp2_with fail
          exact ⟨⟨j + 1, x ++ q ++ ⟨#[58]⟩ ++ y, by omega, rfl, by go_num, by rw [h6.out]; exact HS1.out, h6, HB9⟩, by simp [intOf]; omega⟩
        · have hz' : (0 : Int) < (j : Int) := by omega
          have HZ : Hid (j ≠ 0) := hz
          clear hz
          go_wp2_with fail
          go_region_held3 (fun w' => (w'.cell? ⟨w.heap.size, 0, none⟩ = some (.int .i64 t.kind) ∧ w'.cell? ⟨w.heap.size, 1, none⟩ = some (.int .i64 t.num) ∧ w'.cell? ⟨w.heap.size, 2, none⟩ = some (.string t.text) ∧ w'.cell? ⟨w.heap.size, 3, none⟩ = some (.slice (some ⟨bb, off, none⟩) t.list.length c) ∧ w'.cell? ⟨w.heap.size, 4, none⟩ = some (.slice a' t.names.length c')) ∧ (w'.cell? ⟨bb, off + j * 5, none⟩ = some (.int .i64 t.list[j].kind) ∧ w'.cell? ⟨bb, off + j * 5 + 1, none⟩ = some (.int .i64 t.list[j].num) ∧ w'.cell? ⟨bb, off + j * 5 + 2, none⟩ = some (.string t.list[j].text) ∧ w'.cell? ⟨bb, off + j * 5 + 3, none⟩ = some (.slice p t.list[j].list.length n) ∧ w'.cell? ⟨bb, off + j * 5 + 4, none⟩ = some (.slice p' t.list[j].names.length n'))) (go_keep) (first | (go_at_call 40; refine (Hid.out HT1).mono ?_; rintro e w1 ⟨rfl, ⟨⟨i0, i1, i2, i3, i4⟩, ⟨j0, j1, j2, j3, j4⟩⟩, HB1⟩) | (go_at_call 39; refine (Hid.out HT2 _ (Hid.out HB1)).mono ?_; rintro e w2 ⟨q, rfl, ⟨⟨k0, k1, k2, k3, k4⟩, ⟨l0, l1, l2, l3, l4⟩⟩, hq, HQ, HB2⟩; have n1 : ¬ (9223372036854775807 : Nat) < x.size + q.size := (by omega); have n2 : ¬ (9223372036854775807 : Nat) < x.size + q.size + 1 := (by omega); have n3 : ¬ (9223372036854775807 : Nat) < x.size + 1 + q.size := (by omega); have n4 : ¬ (9223372036854775807 : Nat) < x.size + 1 + q.size + 1 := (by omega)) | (go_at_call 19; refine (Hid.out HT3 _ (Hid.out HB2)).mono ?_; rintro e w3 ⟨y, rfl, ⟨⟨m0, m1, m2, m3, m4⟩, ⟨n0, n1, n2, n3, n4⟩⟩, hy, HY, HB3⟩; have n5 : ¬ (9223372036854775807 : Nat) < x.size + q.size + 1 + y.size := (by omega); have n6 : ¬ (9223372036854775807 : Nat) < x.size + 1 + q.size + 1 + y.size := (by omega)))
          have h6 : Hid (x ++ ⟨#[44]⟩ ++ q ++ ⟨#[58]⟩ ++ y = mkB (sepL (((t.names.zip t.list).take (j + 1)).map (pairL d)))) := by
            show _ = _
            rw [HN.out, if_neg HZ.out, HQ.out, HY.out]
            rfl
          have HB9 : Hid (Below W0.heap.size W0 w3) := HB.out.trans (HB3.out.mono HB.out.size)
          go_wp2_with fail
          exact ⟨⟨j + 1, x ++ ⟨#[44]⟩ ++ q ++ ⟨#[58]⟩ ++ y, by omega, rfl, by go_num, by rw [h6.out]; exact HS1.out, h6, HB9⟩, by simp [intOf]; omega⟩
      · have b3 : wr.cell? ⟨w.heap.size, 3, none⟩ = some (.slice a t.list.length c) := by rw [(HO.out.below HB.out HO.out.lt).cell]; rfl
        have hlti : decide ((j : Int) < (t.list.length : Int)) = false := decide_eq_false (by omega)
        obtain rfl : j = t.list.length := by omega
        clear HREST ih
        go_wp2_with fail
        go_ret
        refine ⟨ret_string ?_, HB0.out.trans (HB.out.mono HB0.out.size)⟩
        rw [HPUT.out, HX.out, List.take_of_length_le (by rw [HZL.out]; exact Nat.le_refl _)]
        show mkB [123] ++ _ ++ mkB [125] = _
        rw [mkB_append, mkB_append]
        simp
  have e5 : (t.kind == 5) = false := by simp [h5]
  have HPUT : Hid (putL (d + 1) t = [110, 117, 108, 108]) := by
    have h0 : t.kind = 0 := by
      have hp := HP.out
      unfold plainB at hp
      rw [if_neg h1, if_neg h2, if_neg h3, if_neg h4, if_neg h5] at hp
      by_cases h0 : t.kind = 0
      · exact h0
      · rw [if_neg h0] at hp
        by_cases h67 : t.kind = 6 ∨ t.kind = 7
        · omega
        · rw [if_neg h67] at hp; simp at hp
    show putL (d + 1) t = _
    unfold putL
    rw [if_pos h0]
  clear HREST ih h1 h2 h3 h4 h5
  go_enter Tryd.func19, Tryd.ntmps19
  go_wp2_with fail
  go_ret
  exact ⟨ret_string (by rw [HPUT.out]; rfl), HW0.out ▸ HB0.out⟩

end Go.Proofs.YtegnalfkdponhaaDoor
