
/-
  DERIVED. DOCUMENTS THAT ARE SAVED: the walks of slices.Clone, slices.DeleteFunc, impl.SavedDrop.
-/
import Derived.Test.YtkogdlncjciboaaDoorSdA
import Derived.Deep.RegionWith
import Derived.Deep.AppendLies
import Derived.BigQuiet
namespace Go.Proofs.YtkogdlncjciboaaDoor
open Go.RowKit
set_option linter.unusedVariables false
set_option linter.unusedSimpArgs false

/-- The texts but those of that sum. -/
def dropS (l : List ByteArray) (sum : ByteArray) : List ByteArray := l.filter fun t => !hitS sum t
theorem dropS_snoc {l : List ByteArray} {sum : ByteArray} {j : Nat} (h : j < l.length) : dropS (l.take (j + 1)) sum = dropS (l.take j) sum ++ if hitS sum l[j] then [] else [l[j]] := by
  unfold dropS
  rw [List.take_succ_eq_append_getElem h, List.filter_append]
  cases hh : hitS sum l[j] <;> simp [hh]
theorem dropS_keep {l : List ByteArray} {sum : ByteArray} {j : Nat} (h : j < l.length) (h1 : dropS (l.take j) sum = l.take j) (h2 : hitS sum l[j] = false) : dropS (l.take (j + 1)) sum = l.take (j + 1) := by
  rw [dropS_snoc h, h1, h2, List.take_succ_eq_append_getElem h]
  rfl
theorem dropS_le (l : List ByteArray) (sum : ByteArray) : (dropS l sum).length ≤ l.length := List.length_filter_le _ _

set_option maxHeartbeats 1000000 in
theorem hitD_any (sum t : ByteArray) (kb : Nat) (w : World) (hc : w.cell? ⟨kb, 0, none⟩ = some (.string sum)) (hk : KTab w) (ht : t.size ≤ 67108864) :
    Calls Tryd.prog 34 #[.string t, .pointer (some ⟨kb, 0, none⟩)] w fun e w' => e = .returned (.bool (hitS sum t)) ∧ Below w.heap.size w w' := by
  have HK : Hid (∀ W, W.heap = w.heap → KTab W) := fun W hW i hi => by rw [← hk i hi]; unfold World.cell?; rw [hW]
  clear hk
  go_enter Tryd.func34, Tryd.ntmps34
  go_wp2_with fail
  go_region_with (go_at_call 8; (refine (implDocSum_any t w.drew (HK.out _ rfl) (by omega)).mono ?_; rintro e w1 ⟨rfl, hb1⟩; have c1 := cell_on (W := w.drew) hb1 (p := ⟨kb, 0, none⟩) hc; have HB1 : Hid _ := hb1; clear hb1))
  all_goals
    go_wp2_with fail
    go_ret
    exact ⟨rfl, ⟨HB1.out.os, HB1.out.tape, HB1.out.output, HB1.out.size, HB1.out.block⟩⟩

set_option maxHeartbeats 1000000 in
theorem indexD_any (l : List ByteArray) (v : Value) (sum : ByteArray) (kb : Nat) (w : World) (hrow : StrRow w 0 l v) (hc : w.cell? ⟨kb, 0, none⟩ = some (.string sum)) (hk : KTab w) (hl : ∀ t ∈ l, t.size ≤ 67108864) :
    Calls Tryd.prog 29 #[v, .func (.func 34) #[] #[.pointer (some ⟨kb, 0, none⟩)]] w fun e w' =>
      ∃ r : Int, e = .returned (.int .i64 r) ∧ ((r = -1 ∧ dropS l sum = l) ∨ ∃ (m : Nat) (h : m < l.length), r = (m : Int) ∧ dropS (l.take m) sum = l.take m ∧ hitS sum l[m] = true) ∧ Below w.heap.size w w' := by
  obtain ⟨a1, c1, rfl, _, hrest⟩ := hrow.len
  have hlen : (l.length : Int) ≤ 140737488351232 := by omega
  have HZ : Hid (∀ t ∈ l, t.size ≤ 67108864) := hl
  have HC : Hid (w.cell? ⟨kb, 0, none⟩ = some (.string sum)) := hc
  have HK : Hid (KTab w) := hk
  clear hrow hl hc hk
  go_enter Tryd.func29, Tryd.ntmps29
  go_wp2_with fail
  go_loopw [8] (fun i wr => ∃ j : Nat, j ≤ l.length ∧ i = .int .i64 j ∧ Hid (dropS (l.take j) sum = l.take j) ∧ Hid (Below w.heap.size w wr)) (fun i _ => l.length - (intOf i).toNat)
  case atStart => exact ⟨0, Nat.zero_le _, rfl, rfl, Below.refl _ _⟩
  case round =>
    obtain ⟨j, hj, rfl, HG, HB⟩ := hrel
    by_cases hlt : j < l.length
    · have hlti : (j : Int) < (l.length : Int) := by omega
      obtain ⟨b, off, rfl, _, hcs⟩ := hrest (List.ne_nil_of_length_pos (by omega))
      obtain ⟨x0, _⟩ := hcs j hlt
      have cj := (Keeps.of_below HB.out (Nat.le_refl _) 0).cell (p := ⟨b, off + j, none⟩) (Nat.zero_le _) x0
      have HCr : Hid (wr.cell? ⟨kb, 0, none⟩ = some (.string sum)) := (Keeps.of_below HB.out (Nat.le_refl _) 0).cell (p := ⟨kb, 0, none⟩) (Nat.zero_le _) HC.out
      have hz := HZ.out l[j] (List.getElem_mem hlt)
      obtain ⟨t, ht⟩ : ∃ t, l[j] = t := ⟨_, rfl⟩
      rw [ht] at cj hz
      have HT : Hid (l[j] = t) := ht
      clear hcs hrest x0 ht
      go_wp2_with fail
      refine (hitD_any sum t kb wr HCr.out (HK.out.on HB.out) hz).mono ?_
      rintro e w1 ⟨rfl, hb1⟩
      have HB1 : Hid (Below w.heap.size w w1) := HB.out.trans (hb1.mono HB.out.size)
      clear hb1 HB
      cases he : hitS sum t
      · have HN : Hid (dropS (l.take (j + 1)) sum = l.take (j + 1)) := dropS_keep hlt HG.out (by rw [HT.out]; exact he)
        clear he HG
        go_wp2_with fail
        exact ⟨⟨j + 1, by omega, by go_num, HN, HB1⟩, by simp [intOf]; omega⟩
      · have HF : Hid (dropS (l.take j) sum = l.take j ∧ hitS sum l[j] = true) := ⟨HG.out, by rw [HT.out]; exact he⟩
        clear he HG
        go_wp2_with fail
        go_ret
        exact ⟨_, rfl, Or.inr ⟨j, hlt, rfl, HF.out.1, HF.out.2⟩, HB1.out⟩
    · obtain rfl : j = l.length := by omega
      have HF : Hid (dropS l sum = l) := by have h := HG.out; rw [List.take_length] at h; exact h
      clear HG hrest
      go_wp2_with fail
      go_ret
      exact ⟨_, rfl, Or.inl ⟨rfl, HF.out⟩, HB.out⟩


theorem TxO.of_row {B n : Nat} {w : World} {l : List ByteArray} {v : Value} (h : w.ownsRow B 9 1 v n (l.map Value.string)) (hn : n = l.length) (h16 : l.length * 16 ≤ 140737488351232) (hl : ∀ (i : Nat) (h : i < l.length), l[i].size ≤ 140737488351232) : TxO w l v ∧ ∀ b, At v b → B ≤ b := by
  subst hn
  have hh := h
  obtain ⟨h1, h2⟩ := h
  rcases h2 with ⟨rfl, h3⟩ | ⟨g, cap, cur, rfl, hB, hO, hle, hmx, _⟩
  · exact ⟨Or.inl ⟨List.length_eq_zero_iff.1 h3, rfl⟩, fun b hb => hb.none.elim⟩
  · refine ⟨Or.inr ⟨g, cap, rfl, hle, hmx, h16, (Array.getElem?_eq_some_iff.1 hO).1, fun k hk => ?_⟩, fun b hb => by rw [hb.eq]; exact hB⟩
    have h5 := World.ownsRow.cells hh rfl k (.string l[k]) (by simp [hk])
    have h6 := World.ownsRow.frozenAt hh k
    exact ⟨by simpa [Addr.add_mid] using h5, h6, hl k hk⟩

set_option maxHeartbeats 1000000 in
theorem clone_any (l : List ByteArray) (v : Value) (w : World) (hrow : StrRow w 0 l v) :
    Calls Tryd.prog 33 #[v] w fun e w' => ∃ v', e = .returned v' ∧ TxO w' l v' ∧ (∀ b, At v' b → w.heap.size ≤ b) ∧ Below w.heap.size w w' := by
  obtain ⟨i0, hi0, hz0, hz1, hz2⟩ := info_string
  have q : ∀ (w : World) (a : Option Addr) (n c : Nat), (binOp .eql 27 (.slice a n c) (.slice none 0 0)).run Tryd.prog w = .ok (.bool a.isNone) w := fun w a n c => Lib.run_eql_slice_nil w _ _ a n c 0 0 Tryd.underlying27
  rcases hrow with ⟨rfl, rfl⟩ | ⟨⟨b, off, spot⟩, cap, rfl, h1, h2, h3, h4⟩
  · go_enter Tryd.func33, Tryd.ntmps33
    go_wp2_with fail
    go_ret
    exact ⟨_, rfl, Or.inl ⟨rfl, rfl⟩, fun b hb => hb.none.elim, Below.refl _ _⟩
  · have HC : Hid (∀ (i : Nat) (h : i < l.length), w.cell? ⟨b, off + i, none⟩ = some (.string l[i]) ∧ l[i].size ≤ 140737488351232 ∧ spot = none) := fun i hi => by
      obtain ⟨_, a0, cs, a1, a2, a3, a4⟩ := h4 i hi
      subst a3
      have h5 := a2 0 (by simp)
      rw [Nat.mul_one, Nat.add_zero] at h5
      exact ⟨h5, a4, a0⟩
    have hlen : (l.length : Int) ≤ 140737488351232 := by omega
    have hmx : l.length * 16 ≤ 140737488351232 := h3
    clear h1 h2 h3 h4
    go_enter Tryd.func33, Tryd.ntmps33
    go_wp2_with (at_builtin; refine wpList_append_own _ rfl _ _ 27 rfl w.heap.size 9 i0 (.string ByteArray.empty) 1 16 Tryd.underlying27 hi0 hz0 hz1 hz2 rfl (by decide) _ _ _ rfl (World.ownsRow_made w #[] 0 (Nat.le_refl _) (Nat.zero_le _) rfl) ⟨b, off, spot⟩ l.length cap (l.map Value.string) rfl (by simp) (fun j u hu => by
      have hj : j < l.length := by have := (List.getElem?_eq_some_iff.1 hu).1; simpa using this
      obtain ⟨d1, _, rfl⟩ := HC.out j hj
      rw [List.getElem?_map, List.getElem?_eq_getElem hj] at hu
      injection hu with hu
      rw [Addr.add_mid, ← hu]
      exact cell_al d1 _) (by simp [Value.oneCell']) (by unfold maxLen; omega) (by omega) (by simp) ?_)
    intro v' w4 hown hgrow hnn
    have HT := TxO.of_row hown rfl hmx (fun i hi => (HC.out i hi).2.1)
    have HT1 : Hid (TxO w4 l v') := HT.1
    have HT2 : Hid (∀ b, At v' b → w.heap.size ≤ b) := HT.2
    have HB : Hid (Below w.heap.size w w4) := ((Below.refl _ _).alloc (Nat.le_refl _) _).grown hgrow (by simp) (fun k hk => by injection hk with hk; subst hk; exact Nat.le_refl _)
    clear hown hgrow hnn HT HC
    go_wp2_with fail
    go_ret
    exact ⟨v', rfl, HT1.out, HT2.out, HB.out⟩

theorem KTab.turnsP {w w' : World} {P : Nat → Prop} (h : KTab w) (ht : TurnsP P w w') (h0 : ¬ P 0) : KTab w' := fun i hi => by
  have h1 := h i hi
  rw [World.cell?_of_block (w := w) (ht.block 0 (cell_lt h1) h0)]
  exact h1
theorem TurnsP.cell {w w' : World} {P : Nat → Prop} {p : Addr} {v : Value} (ht : TurnsP P w w') (h0 : ¬ P p.block) (h : w.cell? p = some v) : w'.cell? p = some v :=
  (World.cell?_of_block (w := w) (ht.block p.block (cell_lt h) h0)).trans h

theorem string_zero : ∀ w, (zeroValue 9).run Tryd.prog w = .ok (.string ByteArray.empty) w := by
  obtain ⟨i, hi, hz, _, _⟩ := info_string
  intro w
  simp [zeroValue, typeInfo, hi, hz]
theorem setCells_size (b : Nat) : ∀ (cs : List Value) (o : Nat) (w : World), (w.setCells b o cs).heap.size = w.heap.size
  | [], _, _ => rfl
  | v :: r, o, w => by
    show ((w.setCell ⟨b, o, none⟩ v).setCells b (o + 1) r).heap.size = _
    rw [setCells_size b r (o + 1) _]
    simp [World.setCell]
theorem TurnsP.setCellsP {P : Nat → Prop} {b : Nat} (hb : P b) : ∀ (cs : List Value) (o : Nat) {a w : World}, TurnsP P a w → TurnsP P a (w.setCells b o cs)
  | [], _, _, _, h => h
  | v :: r, o, a, w, h => by
    show TurnsP P a ((w.setCell ⟨b, o, none⟩ v).setCells b (o + 1) r)
    exact TurnsP.setCellsP hb r (o + 1) (h.setCell hb v)

set_option maxHeartbeats 4000000 in
theorem deleteFunc_any (l : List ByteArray) (v : Value) (sum : ByteArray) (kb : Nat) (w : World) (hrow : TxO w l v) (hat : ∀ b, At v b → b ≠ kb ∧ 0 < b) (hc : w.cell? ⟨kb, 0, none⟩ = some (.string sum)) (hk : KTab w) (hl : ∀ t ∈ l, t.size ≤ 67108864) :
    Calls Tryd.prog 32 #[v, .func (.func 34) #[] #[.pointer (some ⟨kb, 0, none⟩)]] w fun e w' =>
      ∃ v', e = .returned v' ∧ TxO w' (dropS l sum) v' ∧ (∀ b, At v' b → At v b) ∧ TurnsP (At v) w w' := by
  obtain ⟨a, c, rfl, h16⟩ := hrow.len
  have hlen : (l.length : Int) ≤ 140737488351232 := by omega
  have HO : Hid (TxO w l (.slice a l.length c)) := hrow
  have HAT : Hid (∀ b, At (.slice a l.length c) b → b ≠ kb ∧ 0 < b) := hat
  have HC : Hid (w.cell? ⟨kb, 0, none⟩ = some (.string sum)) := hc
  have HK : Hid (KTab w) := hk
  have HZ : Hid (∀ t ∈ l, t.size ≤ 67108864) := hl
  clear hrow hat hc hk hl
  go_enter Tryd.func32, Tryd.ntmps32
  go_wp2_with fail
  refine (indexD_any l _ sum kb w HO.out.row HC.out HK.out HZ.out).mono ?_
  rintro e w1 ⟨r, rfl, hr, hb1⟩
  have HB1 : Hid (Below w.heap.size w w1) := hb1
  rcases hr with ⟨rfl, hd⟩ | ⟨m, hm, rfl, hd, hh⟩
  · have HD : Hid (dropS l sum = l) := hd
    clear hd hb1
    go_wp2_with fail
    go_ret
    exact ⟨_, rfl, by rw [HD.out]; exact HO.out.below HB1.out, fun b hb => hb, TurnsP.of_below HB1.out (Nat.le_refl _)⟩
  · have HD : Hid (l.take m = dropS (l.take (m + 1)) sum) := by show _ = _; rw [dropS_snoc hm, hd, hh]; simp
    have hto := HO.out.below HB1.out
    rcases hto with ⟨h0, _⟩ | ⟨g, c', hv, h1, h2, h3, h4⟩
    · rw [h0] at hm; exact absurd hm (Nat.not_lt_zero _)
    simp only [Value.slice.injEq, true_and] at hv
    obtain ⟨rfl, rfl⟩ := hv
    have HM1 : Hid (TxM w1 g l) := h4
    have HLC : Hid (l.length ≤ c ∧ c ≤ maxLen ∧ l.length * 16 ≤ 140737488351232) := ⟨h1, h2, h3⟩
    have HT1 : Hid (TurnsP (At (.slice (some ⟨g, 0, none⟩) l.length c)) w w1) := TurnsP.of_below HB1.out (Nat.le_refl _)
    have HG : Hid (At (.slice (some ⟨g, 0, none⟩) l.length c) g ∧ ¬ At (.slice (some ⟨g, 0, none⟩) l.length c) kb ∧ ¬ At (.slice (some ⟨g, 0, none⟩) l.length c) 0) := by
      have h6 := HAT.out g (At.mk _ _ _)
      exact ⟨At.mk _ _ _, fun h => h6.1 h.eq.symm, fun h => by have := h.eq; omega⟩
    have hmi : (m : Int) < (l.length : Int) := by omega
    have hm1 : ((m : Int) == -1) = false := by simp
    clear h1 h2 h3 h4 hd hh hb1 HB1 HO HAT
    go_wp2_with fail
    go_loopw [5, 6] (fun iv jv wr => ∃ (i j : Nat) (mm : List ByteArray), iv = .int .i64 i ∧ jv = .int .i64 j ∧ i < j ∧ j ≤ l.length ∧ Hid (mm.length = l.length) ∧ Hid (mm.take i = dropS (l.take j) sum) ∧ Hid (∀ k, j ≤ k → mm[k]? = l[k]?) ∧ Hid (TxM wr g mm) ∧ Hid (TurnsP (At (.slice (some ⟨g, 0, none⟩) l.length c)) w wr)) (fun _ j _ => l.length - (intOf j).toNat)
    case atStart => exact ⟨m, m + 1, l, rfl, by go_num, by omega, by omega, rfl, HD, fun _ _ => rfl, HM1, HT1⟩
    case round =>
      clear HD HM1 HT1 hm hmi hm1
      obtain ⟨i, j, mm, rfl, rfl, hij, hj, HML, HTK, HRE, HO, HT⟩ := hrel
      by_cases hlt : j < l.length
      · have hlti : (j : Int) < (l.length : Int) := by omega
        have hili : (i : Int) < (l.length : Int) := by omega
        have hjm : j < mm.length := by rw [HML.out]; exact hlt
        have him : i < mm.length := by rw [HML.out]; omega
        obtain ⟨x, hx⟩ : ∃ x, l[j] = x := ⟨_, rfl⟩
        have hmx : mm[j] = x := by
          have h5 := HRE.out j (Nat.le_refl _)
          rw [List.getElem?_eq_getElem hjm, List.getElem?_eq_getElem hlt, hx] at h5
          exact Option.some.inj h5
        have cj := (HO.out.2 j hjm).1
        rw [hmx] at cj
        have hz : x.size ≤ 67108864 := by rw [← hx]; exact HZ.out _ (List.getElem_mem hlt)
        have HX : Hid (l[j] = x) := hx
        clear hx hmx
        go_wp2_with fail
        refine (hitD_any sum x kb wr (HT.out.cell (p := ⟨kb, 0, none⟩) HG.out.2.1 HC.out) (HK.out.turnsP HT.out HG.out.2.2) hz).mono ?_
        rintro e w2 ⟨rfl, hb2⟩
        have HO2 : Hid (TxM w2 g mm) := HO.out.below hb2
        have HT2 : Hid (TurnsP (At (.slice (some ⟨g, 0, none⟩) l.length c)) w w2) := HT.out.trans (TurnsP.of_below hb2 (Nat.le_refl _))
        clear hb2 HO HT cj
        cases he : hitS sum x
        · have HTK2 : Hid ((mm.set i x).take (i + 1) = dropS (l.take (j + 1)) sum) := by
            show _ = _
            rw [dropS_snoc hlt, HX.out, he, ← HTK.out, List.take_succ_eq_append_getElem (by rw [List.length_set]; exact him), List.getElem_set_self, List.take_set_of_le (Nat.le_refl _)]
            rfl
          have HRE2 : Hid (∀ k, j + 1 ≤ k → (mm.set i x)[k]? = l[k]?) := fun k hk => by rw [List.getElem?_set_ne (by omega)]; exact HRE.out k (by omega)
          have HO3 : Hid (TxM (w2.setCell ⟨g, i, none⟩ (.string x)) g (mm.set i x)) := HO2.out.set i him x (by omega)
          have HT3 : Hid (TurnsP (At (.slice (some ⟨g, 0, none⟩) l.length c)) w (w2.setCell ⟨g, i, none⟩ (.string x))) := HT2.out.setCell HG.out.1 _
          have HML3 : Hid ((mm.set i x).length = l.length) := by show _ = _; rw [List.length_set]; exact HML.out
          obtain ⟨ci, fi, _⟩ := HO2.out.2 i him
          clear he HTK HRE HO2 HT2
          go_wp2_with fail
          exact ⟨⟨i + 1, j + 1, mm.set i x, by go_num, by go_num, by omega, by omega, HML3, HTK2, HRE2, HO3, HT3⟩, by simp [intOf]; omega⟩
        · have HTK2 : Hid (mm.take i = dropS (l.take (j + 1)) sum) := by show _ = _; rw [dropS_snoc hlt, HX.out, he, ← HTK.out]; simp
          have HRE2 : Hid (∀ k, j + 1 ≤ k → mm[k]? = l[k]?) := fun k hk => HRE.out k (by omega)
          clear he HTK HRE
          go_wp2_with fail
          exact ⟨⟨i, j + 1, mm, rfl, by go_num, by omega, by omega, HML, HTK2, HRE2, HO2, HT2⟩, by simp [intOf]; omega⟩
      · obtain rfl : j = l.length := by omega
        have HTL : Hid (mm.take i = dropS l sum) := by have h := HTK.out; rw [List.take_length] at h; exact h
        have hcl : ∀ ty, (Builtin.clear_ #[27] ty #[.slice (some ⟨g, i, none⟩) (l.length - i) (c - i)]).run Tryd.prog wr = .ok (.tuple #[]) (wr.setCells g i (List.replicate (l.length - i) (.string ByteArray.empty))) := fun ty =>
          Lib.run_clear_slice wr _ 9 ty (.string ByteArray.empty) Tryd.underlying27 string_zero rfl rfl g i _ _ (by omega) (fun t ht => by rw [(HO.out.2 (i + t) (by rw [HML.out]; omega)).1]; rfl) (fun t ht => (HO.out.2 (i + t) (by rw [HML.out]; omega)).2.1)
        have HOE : Hid (TxO (wr.setCells g i (List.replicate (l.length - i) (.string ByteArray.empty))) (dropS l sum) (.slice (some ⟨g, 0, none⟩) i c)) := by
          have hdl : (dropS l sum).length = i := by rw [← HTL.out, List.length_take, HML.out]; omega
          have hlc := HLC.out
          refine Or.inr ⟨g, c, by rw [hdl], by omega, hlc.2.1, by omega, by rw [setCells_size]; exact HO.out.1, fun k hk => ?_⟩
          have hkm : k < mm.length := by rw [HML.out]; omega
          have hgk : (dropS l sum)[k] = mm[k] := by
            have h5 : (dropS l sum)[k]? = (mm.take i)[k]? := by rw [HTL.out]
            rw [List.getElem?_take, if_pos (by omega), List.getElem?_eq_getElem hk, List.getElem?_eq_getElem hkm] at h5
            exact Option.some.inj h5
          rw [hgk]
          obtain ⟨d1, d2, d3⟩ := HO.out.2 k hkm
          exact ⟨(World.cell?_setCells_out g _ i wr ⟨g, k, none⟩ (fun _ _ => Or.inl (by show k < i; omega))).trans d1, (World.frozen?_setCells g _ i wr _).trans d2, d3⟩
        have HTE : Hid (TurnsP (At (.slice (some ⟨g, 0, none⟩) l.length c)) w (wr.setCells g i (List.replicate (l.length - i) (.string ByteArray.empty)))) := TurnsP.setCellsP HG.out.1 _ _ HT.out
        have hic : i ≤ c := by have := HLC.out; omega
        have hici : (i : Int) ≤ (c : Int) := by omega
        have hlc2 : l.length ≤ c := HLC.out.1
        have hlci : (l.length : Int) ≤ (c : Int) := by omega
        clear HTK HRE HO HT hlt
        go_wp2_with fail
        go_ret
        exact ⟨_, rfl, HOE.out, fun b hb => by rw [hb.eq]; exact At.mk _ _ _, HTE.out⟩

end Go.Proofs.YtkogdlncjciboaaDoor
