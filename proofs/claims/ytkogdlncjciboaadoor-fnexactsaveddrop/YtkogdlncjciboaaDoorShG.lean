
/-
  DERIVED. A SUM IS ENDED AND TOLD: the walk of (*impl.sumWriter).sum.
-/
import Derived.Test.YtkogdlncjciboaaDoorShE
import Derived.Test.YtkogdlncjciboaaDoorShF
import Derived.Test.YtkogdlncjciboaaDoorShelf
namespace Go.Proofs.YtkogdlncjciboaaDoor
open Go.RowKit
set_option linter.unusedVariables false
set_option linter.unusedSimpArgs false

theorem wrapu64 (n : Nat) (h : n < 4611686018427387904) : IntKind.u64.wrap (n : Int) = (n : Int) := by simp [IntKind.wrap, IntKind.bits, IntKind.signed]; omega
theorem repeat_zero (c : Nat) : Lib.repeatL [0] c = List.replicate c 0 := by
  induction c with
  | zero => rfl
  | succ c ih => simp [Lib.repeatL, ih, List.replicate_succ]
theorem bytes_toList (l : List UInt8) : (⟨l.toArray⟩ : ByteArray).data.toList = l := rfl

theorem repeat_any (c : Nat) (w : World) (hc : c < 64) : Calls Tryd.prog 41 #[.string ⟨#[0]⟩, .int .i64 (c : Int)] w fun e w' => ∃ zs : ByteArray, e = .returned (.string zs) ∧ zs.data.toList = List.replicate c 0 ∧ Below w.heap.size w w' := by
  refine (Tryd.strings_Repeat ⟨#[0]⟩ c w (by omega) (by show 1 * c ≤ _; omega)).mono ?_
  rintro e w' ⟨rfl, hb⟩
  exact ⟨_, rfl, by rw [bytes_toList]; exact repeat_zero c, hb⟩

theorem fig_hex : ∀ n, n < 16 → figB n = hexU n := by decide
theorem hexB_snoc (l : List UInt8) (c : UInt8) : hexB (l ++ [c]) = hexB l ++ [hexU (c.toNat / 16), hexU (c.toNat % 16)] := by
  have h16 : c.toNat / 16 < 16 := by have := c.toNat_lt; omega
  have h15 : c.toNat % 16 < 16 := Nat.mod_lt _ (by omega)
  simp [hexB, fig_hex _ h16, fig_hex _ h15]
theorem index_state (A : Array Value) (n : Nat) (v : Value) (w : World) (hn : n < 8) (hv : A[n]? = some v) : (Instr.index 59 (.agg A) (.int .i64 (n : Int))).run Tryd.prog w = .ok v w := by
  obtain ⟨i, hi, hs⟩ := info_u32
  have hb : 0 ≤ (n : Int) ∧ (n : Int) < 8 := by omega
  simp [Instr.index, run_underlying Tryd.underlying59, asIntOf, hb, part, isAgg, run_underlying Tryd.underlying53, sizeOf, typeInfo, hi, hs, hv, go_sem]
  omega
theorem bAt_get {l : List UInt8} {m : Nat} (h : m < l.length) : bAt l m = l[m] := by simp [bAt, List.getD_eq_getElem?_getD, h]
theorem be4_len (x : W32) : (be4 x).length = 4 := rfl
theorem flat_len : ∀ (l : List W32), (l.flatMap be4).length = 4 * l.length
  | [] => rfl
  | x :: l => by rw [List.flatMap_cons, List.length_append, flat_len l, be4_len, List.length_cons]; omega
theorem flat_take (l : List W32) (i : Nat) (h : i < l.length) : (l.take (i + 1)).flatMap be4 = (l.take i).flatMap be4 ++ be4 l[i] := by
  rw [List.take_succ_eq_append_getElem h, List.flatMap_append]; simp

set_option maxHeartbeats 4000000 in
theorem sum_any (l : List UInt8) (s : S8) (rest : ByteArray) (b : Nat) (w : World) (h : WrM w b s rest l.length) (hrun : runB s0 l = (s, rest.data.toList)) (hk : KTab w) (hb0 : 0 < b) (hl : l.length ≤ 1099511627776) :
    Calls Tryd.prog 23 #[.pointer (some ⟨b, 0, none⟩)] w fun e w' => ∃ t : ByteArray, e = .returned (.string t) ∧ t.data.toList = hexB (sumB l) ∧ Turns [b] w w' := by
  have HO : Hid (WrM w b s rest l.length) := h
  have HK : Hid (KTab w) := hk
  have HR : Hid (runB s0 l = (s, rest.data.toList)) := hrun
  have hrs : rest.size = l.length % 64 := by
    have := runB_length s0 l
    rw [hrun, Array.length_toList] at this
    exact this
  have c9 : w.cell? ⟨b, 9, none⟩ = some (.int .i64 (l.length : Int)) := (Owns.cell h 9).trans rfl
  obtain ⟨n8, hn8⟩ : ∃ n8, n8 = l.length * 8 := ⟨_, rfl⟩
  have HN8 : Hid (n8 = l.length * 8) := hn8
  have hn8i : (l.length : Int) * 8 = (n8 : Int) := by omega
  have hw0 : IntKind.u64.wrap (l.length : Int) = (l.length : Int) := wrapu64 _ (by omega)
  have hw1 : IntKind.u64.wrap (n8 : Int) = (n8 : Int) := wrapu64 _ (by omega)
  have hn8l : (n8 : Int) < 18446744073709551616 := by omega
  have hli : (l.length : Int) ≤ 1099511627776 := by omega
  have hbl : b < w.heap.size := Owns.lt h
  clear h hk hrun hn8
  go_enter Tryd.func23, Tryd.ntmps23
  go_wp2_with fail
  refine (bytesOf_any n8 8 w (Or.inr rfl) (by have := HN8.out; omega)).mono ?_
  rintro e w1 ⟨size, rfl, hsz, hb1⟩
  have HSZ : Hid (size.data.toList = be8 (l.length * 8)) := by show _ = _; rw [hsz, beN_eight, HN8.out]
  have hs8 : size.size = 8 := by
    have h1 : size.data.toList.length = 8 := by rw [hsz, beN_len]
    rw [Array.length_toList] at h1
    exact h1
  have HT1 : Hid (Turns [b] w w1) := Turns.of_below hb1 (Nat.le_refl _)
  have HO1 : Hid (WrM w1 b s rest l.length) := (HO.out : Owns _ _ _ _).below hb1 hbl
  have HK1 : Hid (KTab w1) := HK.out.on hb1
  clear hsz hb1 c9 HO HK hn8i hw0 hw1 hn8l
  go_wp2_with fail
  refine (write_any s rest ⟨#[128]⟩ l.length b w1 HO1.out HK1.out hb0 (by omega) (by decide) (by omega)).mono ?_
  rintro e w2 ⟨rfl, ⟨rest2, hr2, hO2⟩, hT2⟩
  obtain ⟨s2, hs2⟩ : ∃ s2, (runB s (rest.data.toList ++ [128])).1 = s2 := ⟨_, rfl⟩
  have hrun2 : runB s0 (l ++ [128]) = (s2, rest2.data.toList) := by
    rw [← runB_append, HR.out]
    show runB s (rest.data.toList ++ [128]) = _
    rw [← hs2, hr2]
  have HR2 : Hid (runB s0 (l ++ [128]) = (s2, rest2.data.toList)) := hrun2
  have hrs2 : rest2.size = (l.length + 1) % 64 := by
    have := runB_length s0 (l ++ [128])
    rw [hrun2, Array.length_toList] at this
    simpa using this
  have HO2 : Hid (WrM w2 b s2 rest2 (l.length + 1)) := by rw [← hs2]; exact hO2
  have HT2 : Hid (Turns [b] w w2) := HT1.out.trans hT2
  have HK2 : Hid (KTab w2) := HK1.out.turns hT2 hb0
  have c8 : w2.cell? ⟨b, 8, none⟩ = some (.string rest2) := (Owns.cell HO2.out 8).trans rfl
  obtain ⟨pn, hpn⟩ : ∃ pn, pn = padN l.length := ⟨_, rfl⟩
  have hpi : ((120 : Int) - (rest2.size : Int)) % 64 = (pn : Int) := by rw [hpn]; unfold padN; omega
  have hp64 : pn < 64 := by rw [hpn]; unfold padN; omega
  have HPN : Hid (pn = padN l.length) := hpn
  have hr2i : (rest2.size : Int) < 64 := by omega
  have HRS2 : Hid (rest2.size = (l.length + 1) % 64) := hrs2
  clear hs2 hr2 hO2 hT2 hrun2 hpn HO1 HT1 HK1 HR hrs2
  go_wp2_with fail
  refine (repeat_any pn w2 hp64).mono ?_
  rintro e w3 ⟨zs, rfl, hzl0, hb3⟩
  have hzl : zs.data.toList = List.replicate (padN l.length) 0 := by rw [hzl0, HPN.out]
  have hzsz : zs.size = pn := by
    have h1 : zs.data.toList.length = pn := by rw [hzl, List.length_replicate, HPN.out]
    rw [Array.length_toList] at h1
    exact h1
  have HZL : Hid (zs.data.toList = List.replicate (padN l.length) 0) := hzl
  have hzi : zs.size < 64 := by omega
  have hT3 : Turns [b] w w3 := HT2.out.trans (Turns.of_below hb3 (Nat.le_refl _))
  have HT3 : Hid (Turns [b] w w3) := hT3
  have HO3 : Hid (WrM w3 b s2 rest2 (l.length + 1)) := (HO2.out : Owns _ _ _ _).below hb3 (Owns.lt HO2.out)
  have HK3 : Hid (KTab w3) := HK2.out.on hb3
  clear hb3 hzl hzl0 hzsz hT3 HO2 HT2 HK2 c8 hpi
  go_wp2_with fail
  refine (write_any s2 rest2 zs (l.length + 1) b w3 HO3.out HK3.out hb0 (by omega) (by omega) (by omega)).mono ?_
  rintro e w4 ⟨rfl, ⟨rest4, hr4, hO4⟩, hT4⟩
  obtain ⟨s4, hs4⟩ : ∃ s4, (runB s2 (rest2.data.toList ++ zs.data.toList)).1 = s4 := ⟨_, rfl⟩
  have hrun4 : runB s0 (l ++ [128] ++ List.replicate (padN l.length) 0) = (s4, rest4.data.toList) := by
    rw [← runB_append, HR2.out, ← HZL.out]
    show runB s2 (rest2.data.toList ++ zs.data.toList) = _
    rw [← hs4, hr4]
  have HR4 : Hid (runB s0 (l ++ [128] ++ List.replicate (padN l.length) 0) = (s4, rest4.data.toList)) := hrun4
  have hrs4 : rest4.size < 64 := by
    have := runB_length s0 (l ++ [128] ++ List.replicate (padN l.length) 0)
    rw [hrun4, Array.length_toList] at this
    show rest4.data.size < 64
    rw [this]
    exact Nat.mod_lt _ (by omega)
  have HO4 : Hid (WrM w4 b s4 rest4 (l.length + 1 + zs.size)) := by rw [← hs4]; exact hO4
  have HT4 : Hid (Turns [b] w w4) := HT3.out.trans hT4
  have HK4 : Hid (KTab w4) := HK3.out.turns hT4 hb0
  clear hs4 hr4 hO4 hT4 hrun4 HT3 HO3 HK3 HR2 HZL
  go_wp2_with fail
  refine (write_any s4 rest4 size (l.length + 1 + zs.size) b w4 HO4.out HK4.out hb0 hrs4 (by omega) (by omega)).mono ?_
  rintro e w5 ⟨rfl, ⟨rest5, hr5, hO5⟩, hT5⟩
  obtain ⟨s5, hs5⟩ : ∃ s5, (runB s4 (rest4.data.toList ++ size.data.toList)).1 = s5 := ⟨_, rfl⟩
  have HS5 : Hid (sumS l = s5) := by
    show _ = _
    have h1 : runB s0 (padB l) = runB s4 (rest4.data.toList ++ size.data.toList) := by
      rw [padB, ← HSZ.out, ← runB_append, HR4.out]
    rw [sumS, h1, hs5]
  have HO5 : Hid (WrM w5 b s5 rest5 (l.length + 1 + zs.size + size.size)) := by rw [← hs5]; exact hO5
  have HT5 : Hid (Turns [b] w w5) := HT4.out.trans hT5
  have hbl5 : b < w5.heap.size := Owns.lt HO5.out
  have d0 : w5.cell? ⟨b, 0, none⟩ = some (.int .u32 (wI s5.a)) := (Owns.cell HO5.out 0).trans rfl
  have d1 : w5.cell? ⟨b, 1, none⟩ = some (.int .u32 (wI s5.b)) := (Owns.cell HO5.out 1).trans rfl
  have d2 : w5.cell? ⟨b, 2, none⟩ = some (.int .u32 (wI s5.c)) := (Owns.cell HO5.out 2).trans rfl
  have d3 : w5.cell? ⟨b, 3, none⟩ = some (.int .u32 (wI s5.d)) := (Owns.cell HO5.out 3).trans rfl
  have d4 : w5.cell? ⟨b, 4, none⟩ = some (.int .u32 (wI s5.e)) := (Owns.cell HO5.out 4).trans rfl
  have d5 : w5.cell? ⟨b, 5, none⟩ = some (.int .u32 (wI s5.f)) := (Owns.cell HO5.out 5).trans rfl
  have d6 : w5.cell? ⟨b, 6, none⟩ = some (.int .u32 (wI s5.g)) := (Owns.cell HO5.out 6).trans rfl
  have d7 : w5.cell? ⟨b, 7, none⟩ = some (.int .u32 (wI s5.h)) := (Owns.cell HO5.out 7).trans rfl
  clear hs5 hr5 hO5 hT5 HT4 HO4 HK4 HR4 HSZ
  go_wp2_with fail
  clear d0 d1 d2 d3 d4 d5 d6 d7
  obtain ⟨A, hA⟩ : ∃ A, (#[.int .u32 (wI s5.a), .int .u32 (wI s5.b), .int .u32 (wI s5.c), .int .u32 (wI s5.d), .int .u32 (wI s5.e), .int .u32 (wI s5.f), .int .u32 (wI s5.g), .int .u32 (wI s5.h)] : Array Value) = A := ⟨_, rfl⟩
  have HA : Hid (∀ j, j < 8 → A[j]? = some (.int .u32 (wI (wAt s5.l j)))) := fun j hj => by
    rw [← hA]
    show s5.cs.toArray[j]? = _
    rw [List.getElem?_toArray]; exact cs_at s5 j hj
  rw [hA]
  clear hA
  generalize hW6 : w5.alloc _ = W6
  have HBX0 : Hid (BX w5.heap.size w5.heap.size (hexB ((s5.l.take 0).flatMap be4)) W6 (.slice none 0 0)) := by
    rw [← hW6]
    exact ⟨Nat.le_refl _, ⟨_, Owns.made w5 _ _, Or.inl rfl⟩, ⟨rfl, Or.inl ⟨rfl, rfl⟩⟩, by simp [Value.ownBlock]⟩
  have HB6 : Hid (Below w5.heap.size w5 W6) := by rw [← hW6]; exact (Below.refl _ _).alloc (Nat.le_refl _) _
  clear hW6
  go_loopw [35] (fun iv wr => ∃ (i : Nat) (v : Value), i ≤ 8 ∧ iv = .int .i64 i ∧ Hid (BX w5.heap.size w5.heap.size (hexB ((s5.l.take i).flatMap be4)) wr v) ∧ Hid (Below w5.heap.size w5 wr)) (fun iv _ => 8 - (intOf iv).toNat)
  case atStart => exact ⟨0, _, Nat.zero_le _, rfl, HBX0, HB6⟩
  case round =>
    rename World => wa
    obtain ⟨i, v, hi, rfl, HBX, HB⟩ := hrel
    clear HBX0 HB6
    by_cases hlt : i < 8
    · have hlti : (i : Int) < 8 := by omega
      have hl8 : s5.l.length = 8 := rfl
      have hidx := index_state A i _ wa hlt (HA.out i hlt)
      obtain ⟨x, hx⟩ : ∃ x, wAt s5.l i = x := ⟨_, rfl⟩
      have hxi : s5.l[i]'(by omega) = x := by rw [← hx]; simp [wAt, List.getD_eq_getElem?_getD, hl8, hlt]
      rw [hx] at hidx
      have HNX : Hid ((s5.l.take (i + 1)).flatMap be4 = (s5.l.take i).flatMap be4 ++ be4 x) := by show _ = _; rw [flat_take s5.l i (by omega), hxi]
      have hwx : IntKind.u64.wrap (wI x) = wI x := by unfold wI; exact wrapu64 _ (by have := x.isLt; omega)
      have HLA : Hid ((hexB ((s5.l.take i).flatMap be4)).length ≤ 64) := by
        show _ ≤ _
        rw [hexB_length]
        have h1 := flat_len (s5.l.take i)
        rw [List.length_take, hl8] at h1
        omega
      clear hx hxi hl8
      go_wp2_with fail
      refine (bytesOf_any x.toNat 4 wa (Or.inl rfl) (by have := x.isLt; omega)).mono ?_
      rintro e wb ⟨t, rfl, ht, hbb⟩
      rw [beN_four] at ht
      have ht4 : t.size = 4 := by
        have h1 : t.data.toList.length = 4 := by rw [ht, be4_len]
        rw [Array.length_toList] at h1
        exact h1
      obtain ⟨cap, W2, hconv, hb2, hz2, hc2⟩ := conv_bytes t wb
      rw [ht4] at hconv hc2
      have hvo : ∀ g, v.ownBlock = some g → g < wa.heap.size := fun g hg => (HBX.out.2.2.1.lt g hg).2
      have hBX2 : BX w5.heap.size w5.heap.size (hexB ((s5.l.take i).flatMap be4)) W2 v := by
        obtain ⟨q1, ⟨p, q2, q3⟩, q4, q5⟩ := HBX.out
        have hlt5 := HBX.out.lt.2
        have hk : ∀ q, q < wa.heap.size → W2.heap[q]? = wa.heap[q]? := fun q hq => (hb2.block q (by have := hbb.size; omega)).trans (hbb.block q hq)
        refine ⟨q1, ⟨p, (hk _ hlt5).trans q2, q3⟩, ⟨q4.1, ?_⟩, q5⟩
        rcases q4.2 with h0 | ⟨g, cap, cur, r1, r2, r3, r4⟩
        · exact Or.inl h0
        · exact Or.inr ⟨g, cap, cur, r1, r2, (hk g (hvo g (by rw [r1]; rfl))).trans r3, r4⟩
      have HBX2 : Hid (BX w5.heap.size w5.heap.size (hexB ((s5.l.take i).flatMap be4 ++ (be4 x).take 0)) W2 v) := by rw [List.take_zero, List.append_nil]; exact hBX2
      have HB2 : Hid (Below w5.heap.size w5 W2) := HB.out.trans ((hbb.mono HB.out.size).trans (hb2.mono (Nat.le_trans HB.out.size hbb.size)))
      have HC2 : Hid (∀ (m : Nat), m < 4 → W2.cell? ⟨wb.heap.size, m, none⟩ = some (.int .u8 ((bAt (be4 x) m).toNat : Int))) := fun m hm => by rw [hc2 m hm, ht]; rfl
      have HNO : Hid (v.ownBlock ≠ some wb.heap.size) := fun he => by have := hvo _ he; have := hbb.size; omega
      have HNB : Hid (wb.heap.size ≠ w5.heap.size ∧ wb.heap.size < W2.heap.size) := ⟨by have := HBX.out.lt.2; have := hbb.size; omega, by omega⟩
      clear ht hbb hb2 hz2 hc2 hvo hBX2 HBX HB hidx hwx
      go_wp2_with fail
      clear hconv
      go_loopw [43] (fun mv wr => ∃ (m : Nat) (v' : Value), m ≤ 4 ∧ mv = .int .i64 m ∧ Hid (BX w5.heap.size w5.heap.size (hexB ((s5.l.take i).flatMap be4 ++ (be4 x).take m)) wr v') ∧ Hid (Below w5.heap.size w5 wr) ∧ Hid ((∀ (k : Nat), k < 4 → wr.cell? ⟨wb.heap.size, k, none⟩ = some (.int .u8 ((bAt (be4 x) k).toNat : Int))) ∧ v'.ownBlock ≠ some wb.heap.size ∧ wb.heap.size < wr.heap.size)) (fun mv _ => 4 - (intOf mv).toNat)
      case atStart => exact ⟨0, v, Nat.zero_le _, rfl, HBX2, HB2, HC2.out, HNO.out, HNB.out.2⟩
      case round =>
        rename World => wc
        obtain ⟨m, v', hm, rfl, HBm, HBw, HG⟩ := hrel
        clear HBX2 HB2 HC2 HNO
        by_cases hm4 : m < 4
        · have hm4i : (m : Int) < 4 := by omega
          obtain ⟨c, hc⟩ : ∃ c, bAt (be4 x) m = c := ⟨_, rfl⟩
          have cc := HG.out.1 m hm4
          rw [hc] at cc
          have hcm : (be4 x)[m]'(by rw [be4_len]; exact hm4) = c := by rw [← hc, bAt_get]
          have HNH : Hid (hexB ((s5.l.take i).flatMap be4 ++ (be4 x).take (m + 1)) = hexB ((s5.l.take i).flatMap be4 ++ (be4 x).take m) ++ [hexU (c.toNat / 16), hexU (c.toNat % 16)]) := by
            show _ = _
            rw [List.take_succ_eq_append_getElem (by rw [be4_len]; exact hm4), hcm, ← List.append_assoc, hexB_snoc]
          have HLN : Hid ((hexB ((s5.l.take i).flatMap be4 ++ (be4 x).take m)).length ≤ 80) := by
            show _ ≤ _
            have h1 := HLA.out
            rw [hexB_length] at h1 ⊢
            rw [List.length_append, List.length_take, be4_len]
            omega
          clear hc hcm
          go_wp2_with fail
          refine (writeFigures_x w5.heap.size w5.heap.size _ c v' wc HBm.out (by have := HLN.out; omega)).mono ?_
          rintro e wd ⟨rfl, ⟨v2, h2, hv2⟩, hf2⟩
          have HBm2 : Hid (BX w5.heap.size w5.heap.size (hexB ((s5.l.take i).flatMap be4 ++ (be4 x).take (m + 1))) wd v2) := by rw [HNH.out]; exact h2
          have HBw2 : Hid (Below w5.heap.size w5 wd) := by
            have hb := HBw.out
            refine ⟨hf2.os.trans hb.os, hf2.tape.trans hb.tape, hf2.output.trans hb.output, Nat.le_trans hb.size hf2.size, fun q hq => ?_⟩
            rw [hf2.block q (by have := hb.size; omega) (by omega) (fun he => by have := (HBm.out.2.2.1.lt q he.symm).1; omega)]
            exact hb.block q hq
          have HG2 : Hid ((∀ (k : Nat), k < 4 → wd.cell? ⟨wb.heap.size, k, none⟩ = some (.int .u8 ((bAt (be4 x) k).toNat : Int))) ∧ v2.ownBlock ≠ some wb.heap.size ∧ wb.heap.size < wd.heap.size) := by
            obtain ⟨g1, g2, g3⟩ := HG.out
            refine ⟨fun k hk => ?_, fun he => ?_, Nat.lt_of_lt_of_le g3 hf2.size⟩
            · rw [World.cell?_of_block (w := wc) (a := ⟨wb.heap.size, k, none⟩) (hf2.block _ g3 HNB.out.1 (fun he => g2 he.symm))]
              exact g1 k hk
            · rcases hv2 _ he with h3 | h3
              · exact g2 h3
              · omega
          clear h2 hv2 hf2 HBm HBw HG HNH HLN cc
          go_wp2_with fail
          exact ⟨⟨m + 1, v2, by omega, by go_num, HBm2, HBw2, HG2⟩, by simp [intOf]; omega⟩
        · have hm : m = 4 := by omega
          have HBE : Hid (BX w5.heap.size w5.heap.size (hexB ((s5.l.take (i + 1)).flatMap be4)) wc v') := by
            show BX _ _ _ _ _
            rw [HNX.out]
            have := HBm.out
            rw [hm, List.take_of_length_le (l := be4 x) (by rw [be4_len]; exact Nat.le_refl _)] at this
            exact this
          clear HBm HG hm HNX HLA
          go_wp2_with fail
          exact ⟨⟨i + 1, v', by omega, by go_num, HBE, HBw⟩, by simp [intOf]; omega⟩
    · have hi8 : i = 8 := by omega
      have HBE : Hid (BX w5.heap.size w5.heap.size (hexB (sumB l)) wa v) := by
        show BX _ _ _ _ _
        have h1 := HBX.out
        rw [hi8, show s5.l.take 8 = s5.l by rfl, ← HS5.out] at h1
        exact h1
      clear HBX hi8
      go_wp2_with fail
      refine (Tryd.Builder_String_any w5.heap.size w5.heap.size (hexB (sumB l)) wa HBE.out.bld HB.out.size).mono ?_
      rintro e we ⟨rfl, hbe⟩
      have HTE : Hid (Turns [b] w we) := HT5.out.trans (Turns.of_below (HB.out.trans (hbe.mono (Nat.le_refl _))) (Nat.le_refl _))
      clear hbe
      go_wp2_with fail
      go_ret
      exact ⟨_, rfl, rfl, HTE.out⟩

end Go.Proofs.YtkogdlncjciboaaDoor
