
/-
  DERIVED. THE WALKS OF spec.l1Hex, spec.l1Quote, spec.l1Dec.
-/
import Derived.Test.YtegnalfkdponhaaDoorJpB
import Derived.Lib.ItoaNum
import Derived.Laws.IdiomStrings
import Derived.Deep.RegionHeld3
namespace Go.Proofs.YtegnalfkdponhaaDoor
open Go.RowKit
set_option linter.unusedVariables false
set_option linter.unusedSimpArgs false

/-- A text of bytes. -/
def mkB (l : List UInt8) : ByteArray := ⟨l.toArray⟩
theorem mkB_size (l : List UInt8) : (mkB l).size = l.length := by show l.toArray.size = _; simp
theorem mkB_append (l m : List UInt8) : mkB l ++ mkB m = mkB (l ++ m) := by
  apply ByteArray.ext
  rw [ByteArray.data_append]
  simp [mkB]

theorem conv_one (W : World) (u : UInt8) : (convert 36 9 (.slice (some ⟨W.heap.size, 0, none⟩) 1 1)).run Tryd.prog (W.alloc (Obj.cells #[.int .u8 (u.toNat : Int)] 5)) = .ok (.string (mkB [u])) (W.alloc (Obj.cells #[.int .u8 (u.toNat : Int)] 5)) :=
  run_convert_bytes_back _ _ _ 5 ⟨W.heap.size, 0, none⟩ 1 [u] Tryd.underlying36 Tryd.underlying5 Tryd.underlying9 (fun j hj => by
    match j, hj with
    | 0, hj => simp [Addr.add])
theorem conv_oneD (W : World) (u : UInt8) : (convert 36 9 (.slice (some ⟨W.heap.size, 0, none⟩) 1 1)).run Tryd.prog (W.alloc (Obj.cells #[.int .u8 (u.toNat : Int)] 5)).drew = .ok (.string (mkB [u])) (W.alloc (Obj.cells #[.int .u8 (u.toNat : Int)] 5)).drew :=
  run_convert_bytes_back _ _ _ 5 ⟨W.heap.size, 0, none⟩ 1 [u] Tryd.underlying36 Tryd.underlying5 Tryd.underlying9 (fun j hj => by
    match j, hj with
    | 0, hj => show (W.alloc _).cell? _ = _; simp [Addr.add])
theorem conv_at (W : World) (b : Nat) (u : UInt8) (h : W.cell? ⟨b, 0, none⟩ = some (.int .u8 (u.toNat : Int))) : (convert 36 9 (.slice (some ⟨b, 0, none⟩) 1 1)).run Tryd.prog W = .ok (.string (mkB [u])) W :=
  run_convert_bytes_back _ _ _ 5 ⟨b, 0, none⟩ 1 [u] Tryd.underlying36 Tryd.underlying5 Tryd.underlying9 (fun j hj => by
    match j, hj with
    | 0, hj => simpa [Addr.add] using h)
theorem cell_made (w : World) (u : UInt8) : (w.alloc (Obj.cells #[.int .u8 (u.toNat : Int)] 5)).drew.cell? ⟨w.heap.size, 0, none⟩ = some (.int .u8 (u.toNat : Int)) := by
  show (w.alloc _).cell? _ = _
  simp
theorem conv_two (W : World) (u v : UInt8) : (convert 36 9 (.slice (some ⟨W.heap.size, 0, none⟩) 2 2)).run Tryd.prog (W.alloc (Obj.cells #[.int .u8 (u.toNat : Int), .int .u8 (v.toNat : Int)] 5)) = .ok (.string (mkB [u, v])) (W.alloc (Obj.cells #[.int .u8 (u.toNat : Int), .int .u8 (v.toNat : Int)] 5)) :=
  run_convert_bytes_back _ _ _ 5 ⟨W.heap.size, 0, none⟩ 2 [u, v] Tryd.underlying36 Tryd.underlying5 Tryd.underlying9 (fun j hj => by
    match j, hj with
    | 0, hj => simp [Addr.add]
    | 1, hj => simp [Addr.add])
theorem conv_twoD (W : World) (u v : UInt8) : (convert 36 9 (.slice (some ⟨W.heap.size, 0, none⟩) 2 2)).run Tryd.prog (W.alloc (Obj.cells #[.int .u8 (u.toNat : Int), .int .u8 (v.toNat : Int)] 5)).drew = .ok (.string (mkB [u, v])) (W.alloc (Obj.cells #[.int .u8 (u.toNat : Int), .int .u8 (v.toNat : Int)] 5)).drew :=
  run_convert_bytes_back _ _ _ 5 ⟨W.heap.size, 0, none⟩ 2 [u, v] Tryd.underlying36 Tryd.underlying5 Tryd.underlying9 (fun j hj => by
    match j, hj with
    | 0, hj => show (W.alloc _).cell? _ = _; simp [Addr.add]
    | 1, hj => show (W.alloc _).cell? _ = _; simp [Addr.add])

theorem hex_eq (n : Nat) (h : n < figs.size) : figs[n]'h = hexU n := by
  have h' : n < figs.data.size := h
  show figs.data[n]'h' = figs.data.getD n 0
  unfold Array.getD
  rw [dif_pos h']
  rfl

set_option maxHeartbeats 1000000 in
theorem l1Hex_any (c : UInt8) (w : World) :
    Calls Tryd.prog 64 #[.int .u8 (c.toNat : Int)] w fun e w' => e = .returned (.string (mkB [48, 48, hexU (c.toNat / 16), hexU (c.toNat % 16)])) ∧ Below w.heap.size w w' := by
  have h16 : c.toNat / 16 < 16 := by have := c.toNat_lt; omega
  have h15 : c.toNat % 16 < 16 := Nat.mod_lt _ (by omega)
  have hc : (c.toNat : Int) < 256 := by have := c.toNat_lt; omega
  have hw1 : IntKind.u8.wrap ((c.toNat : Int) / 16) = (c.toNat : Int) / 16 := by simp [IntKind.wrap, IntKind.bits, IntKind.signed]; omega
  have hw2 : IntKind.u8.wrap ((c.toNat : Int) % 16) = (c.toNat : Int) % 16 := by simp [IntKind.wrap, IntKind.bits, IntKind.signed]; omega
  have hi1 : (c.toNat : Int) / 16 < 16 := by omega
  have hi2 : (c.toNat : Int) % 16 < 16 := by omega
  have hn1 : 0 ≤ (c.toNat : Int) / 16 := by omega
  have hn2 : 0 ≤ (c.toNat : Int) % 16 := by omega
  have cv := conv_two
  have cvD := conv_twoD
  have cvs : ∀ u v, (mkB [u, v]).size = 2 := fun u v => mkB_size _
  go_enter Tryd.func64, Tryd.ntmps64
  go_wp2_with fail
  go_region
  all_goals
    go_wp2_with fail
    go_ret
    refine ⟨ret_string ?_, by first | exact ((Below.refl _ _).alloc (Nat.le_refl _) _).drew | exact ((Below.refl _ _).drew).alloc (Nat.le_refl _) _ | exact (Below.refl _ _).alloc (Nat.le_refl _) _⟩
    have e1 := hex_eq (c.toNat / 16) h16
    have e2 := hex_eq (c.toNat % 16) h15
    rw [← e1, ← e2]
    exact mkB_append [48, 48] _

set_option maxHeartbeats 4000000 in
set_option maxRecDepth 100000 in
theorem l1Quote_any (s : ByteArray) (w : World) (hs : s.size ≤ 10000) :
    Calls Tryd.prog 39 #[.string s] w fun e w' => e = .returned (.string (mkB (qTxt s.data.toList))) ∧ Below w.heap.size w w' := by
  have hsz : (s.size : Int) ≤ 10000 := by omega
  go_enter Tryd.func39, Tryd.ntmps39
  go_wp2_with fail
  go_loopw [3, 4] (fun o i wr => ∃ (j : Nat) (x : ByteArray), j ≤ s.size ∧ o = .string x ∧ i = .int .i64 j ∧ x.size ≤ 60001 ∧ Hid (x = mkB ([34] ++ qAll (s.data.toList.take j))) ∧ Hid (Below w.heap.size w wr)) (fun _ i _ => s.size - (intOf i).toNat)
  case atStart => exact ⟨0, ⟨#[34]⟩, Nat.zero_le _, rfl, rfl, by decide, by show _ = _; simp [qAll, mkB], Below.refl _ _⟩
  case round =>
    obtain ⟨j, x, hj, rfl, rfl, hx, HX, HB⟩ := hrel
    by_cases hlt : j < s.size
    · have hlti : (j : Int) < (s.size : Int) := by omega
      obtain ⟨c, hc⟩ : ∃ c, s[j] = c := ⟨_, rfl⟩
      have HN : Hid (mkB ([34] ++ qAll (s.data.toList.take (j + 1))) = x ++ mkB (qByte c)) := by
        show _ = _
        rw [take_snoc s j hlt, qAll_snoc, hc, HX.out, mkB_append, List.append_assoc]
      have HSZ : Hid ((x ++ mkB (qByte c)).size ≤ 60001) := by
        show _ ≤ _
        rw [← HN.out, mkB_size]
        have := qAll_len (s.data.toList.take (j + 1))
        simp only [List.length_append, List.length_cons, List.length_nil, List.length_take, len_toList] at this ⊢
        omega
      have hc8 : (c.toNat : Int) < 256 := by have := c.toNat_lt; omega
      by_cases hq : c.toNat = 34 ∨ c.toNat = 92
      · have HQ : Hid (qByte c = [92, c]) := by show qByte c = _; unfold qByte; rw [if_pos hq]
        have hor : ((c.toNat : Int) == 34) = true ∨ (((c.toNat : Int) == 34) = false ∧ ((c.toNat : Int) == 92) = true) := by
          by_cases h : c.toNat = 34
          · left; simp; omega
          · right; constructor
            · simp; omega
            · simp; omega
        clear hq
        have cv := conv_one
        have cvs : ∀ u, (mkB [u]).size = 1 := fun u => mkB_size _
        rcases hor with e34 | ⟨e34, e92⟩
        all_goals
          go_wp2_with fail
          refine ⟨⟨j + 1, x ++ mkB (qByte c), by omega, ?_, by go_num, HSZ.out, HN.out.symm, HB.out.alloc HB.out.size _⟩, by simp [intOf]; omega⟩
          rw [HQ.out]
          congr 1
          rw [show mkB [92, c] = mkB [92] ++ mkB [c] by rw [mkB_append]; rfl, ← ByteArray.append_assoc]
          rfl
      have e34 : ((c.toNat : Int) == 34) = false := by simp; omega
      have e92 : ((c.toNat : Int) == 92) = false := by simp; omega
      by_cases h10 : c.toNat = 10
      · have HQ : Hid (qByte c = [92, 110]) := by show qByte c = _; unfold qByte; rw [if_neg hq, if_pos h10]
        have e10 : ((c.toNat : Int) == 10) = true := by simp; omega
        clear hq h10
        go_wp2_with fail
        refine ⟨⟨j + 1, x ++ mkB (qByte c), by omega, ?_, by go_num, HSZ.out, HN.out.symm, HB.out⟩, by simp [intOf]; omega⟩
        rw [HQ.out]
        rfl
      have e10 : ((c.toNat : Int) == 10) = false := by simp; omega
      by_cases hh : c.toNat < 32 ∨ 126 < c.toNat
      · have HQ : Hid (qByte c = [92, 117, 48, 48, hexU (c.toNat / 16), hexU (c.toNat % 16)]) := by show qByte c = _; unfold qByte; rw [if_neg hq, if_neg h10, if_pos hh]
        have hor : decide ((c.toNat : Int) < 32) = true ∨ (decide ((c.toNat : Int) < 32) = false ∧ decide ((126 : Int) < (c.toNat : Int)) = true) := by
          by_cases h : c.toNat < 32
          · left; simp; omega
          · right; constructor
            · simp; omega
            · simp; omega
        clear hq h10 hh
        rcases hor with e32 | ⟨e32, e126⟩
        all_goals
          go_wp2_with fail
          refine (l1Hex_any c wr).mono ?_
          rintro e w1 ⟨rfl, hb1⟩
          obtain ⟨y, hy⟩ : ∃ y, mkB [48, 48, hexU (c.toNat / 16), hexU (c.toNat % 16)] = y := ⟨_, rfl⟩
          rw [hy]
          have HY : Hid (mkB [48, 48, hexU (c.toNat / 16), hexU (c.toNat % 16)] = y) := hy
          have hys : y.size = 4 := by rw [← hy]; exact mkB_size _
          have HB1 : Hid (Below w.heap.size w w1) := HB.out.trans (hb1.mono HB.out.size)
          clear hy hb1
          go_wp2_with fail
          refine ⟨⟨j + 1, x ++ mkB (qByte c), by omega, ?_, by go_num, HSZ.out, HN.out.symm, HB1.out⟩, by simp [intOf]; omega⟩
          rw [HQ.out]
          congr 1
          rw [← HY.out, show mkB [92, 117, 48, 48, hexU (c.toNat / 16), hexU (c.toNat % 16)] = mkB [92, 117] ++ mkB [48, 48, hexU (c.toNat / 16), hexU (c.toNat % 16)] by rw [mkB_append]; rfl, ← ByteArray.append_assoc]
          rfl
      have HQ : Hid (qByte c = [c]) := by show qByte c = _; unfold qByte; rw [if_neg hq, if_neg h10, if_neg hh]
      have e32 : decide ((c.toNat : Int) < 32) = false := by simp; omega
      have e126 : decide ((126 : Int) < (c.toNat : Int)) = false := by simp; omega
      have cv := conv_one
      have cvs : ∀ u, (mkB [u]).size = 1 := fun u => mkB_size _
      clear hq h10 hh
      go_wp2_with fail
      refine ⟨⟨j + 1, x ++ mkB (qByte c), by omega, ?_, by go_num, HSZ.out, HN.out.symm, HB.out.alloc HB.out.size _⟩, by simp [intOf]; omega⟩
      rw [HQ.out]
    · have hlti : decide ((j : Int) < (s.size : Int)) = false := decide_eq_false (by omega)
      obtain rfl : j = s.size := by omega
      go_wp2_with fail
      go_ret
      refine ⟨ret_string ?_, HB.out⟩
      rw [HX.out, List.take_of_length_le (by rw [len_toList]; exact Nat.le_refl _)]
      exact mkB_append _ [34]

theorem nDigits_le' : ∀ (m u : Nat), u < 10 ^ (m + 1) → Lib.nDigits u ≤ m + 1
  | 0, u, h => by rw [Lib.nDigits_small (by simpa using h)]; omega
  | m + 1, u, h => by
    by_cases hs : u < 10
    · rw [Lib.nDigits_small hs]; omega
    · rw [Lib.nDigits_big hs]
      have h1 : u / 10 < 10 ^ (m + 1) := by
        rw [Nat.div_lt_iff_lt_mul (by omega)]
        rw [Nat.pow_succ] at h
        exact h
      have := nDigits_le' m (u / 10) h1
      omega
theorem fig_of {u : Nat} (h : u < 10) : ∃ v : UInt8, UInt8.ofNat (48 + u) = v ∧ (v.toNat : Int) = 48 + (u : Int) := by
  refine ⟨_, rfl, ?_⟩
  have h1 : (UInt8.ofNat (48 + u)).toNat = 48 + u := by rw [UInt8.toNat_ofNat']; omega
  rw [h1]
  push_cast
  rfl

set_option maxHeartbeats 1000000 in
set_option maxRecDepth 100000 in
theorem l1Dec_nat : ∀ (f u : Nat), u < 10 ^ (f + 1) → u ≤ 2147483647 → ∀ w : World, Calls Tryd.prog 28 #[.int .i64 (u : Int)] w fun e w' => e = .returned (.string (mkB (Lib.decDigits u))) ∧ Below w.heap.size w w' := by
  have small : ∀ (u : Nat), u < 10 → ∀ w : World, Calls Tryd.prog 28 #[.int .i64 (u : Int)] w fun e w' => e = .returned (.string (mkB (Lib.decDigits u))) ∧ Below w.heap.size w w' := by
    intro u hu w
    have h1 : (u : Int) < 10 := by omega
    have h3 : decide ((u : Int) < 0) = false := decide_eq_false (by omega)
    have h4 : decide ((u : Int) < -9223372036854775807) = false := decide_eq_false (by omega)
    obtain ⟨v, hv, hvn⟩ := fig_of hu
    have HD : Hid (Lib.decDigits u = [v]) := by show Lib.decDigits u = _; rw [Lib.decDigits_one hu, hv]
    have hw8 : IntKind.u8.wrap (48 + (u : Int)) = (v.toNat : Int) := by rw [hvn]; simp [IntKind.wrap, IntKind.bits, IntKind.signed]; omega
    have cv := conv_one
    clear hu hv hvn
    go_enter Tryd.func28, Tryd.ntmps28
    go_wp2_with fail
    go_ret
    exact ⟨ret_string (by rw [HD.out]), (Below.refl _ _).alloc (Nat.le_refl _) _⟩
  intro f
  induction f with
  | zero =>
    intro u hu hm w
    exact small u (by simpa using hu) w
  | succ f ih =>
    intro u hu hm w
    by_cases hs : u < 10
    · exact small u hs w
    have h1 : decide ((u : Int) < 10) = false := decide_eq_false (by omega)
    have h3 : decide ((u : Int) < 0) = false := decide_eq_false (by omega)
    have h4 : decide ((u : Int) < -9223372036854775807) = false := decide_eq_false (by omega)
    have hum : (u : Int) ≤ 2147483647 := by omega
    obtain ⟨v, hv, hvn⟩ := fig_of (Nat.mod_lt u (show 0 < 10 by omega))
    have HD : Hid (mkB (Lib.decDigits u) = mkB (Lib.decDigits (u / 10)) ++ mkB [v]) := by
      show _ = _
      rw [mkB_append, ← hv]
      conv => lhs; rw [Lib.decDigits, dif_neg hs]
    have HDS : Hid ((mkB (Lib.decDigits (u / 10))).size ≤ 20) := by
      show _ ≤ _
      rw [mkB_size, Lib.decDigits_length]
      have := nDigits_le' 9 (u / 10) (by have : (10 : Nat) ^ (9 + 1) = 10000000000 := by decide
                                         omega)
      omega
    have hw8 : IntKind.u8.wrap (48 + (u : Int) % 10) = (v.toNat : Int) := by rw [hvn]; simp [IntKind.wrap, IntKind.bits, IntKind.signed]; omega
    have HC : Hid (∀ W : World, Calls Tryd.prog 28 #[.int .i64 ((u : Int) / 10)] W fun e w' => ∃ x : ByteArray, e = .returned (.string x) ∧ x.size ≤ 20 ∧ Hid (x = mkB (Lib.decDigits (u / 10))) ∧ Hid (Below W.heap.size W w')) := fun W => by
      have h10 : u / 10 < 10 ^ (f + 1) := by
        rw [Nat.div_lt_iff_lt_mul (by omega)]
        rw [Nat.pow_succ] at hu
        exact hu
      have := ih (u / 10) h10 (by omega) W
      rw [show ((u / 10 : Nat) : Int) = (u : Int) / 10 by omega] at this
      exact this.mono fun e w' ⟨h1, h2⟩ => ⟨_, h1, HDS.out, rfl, h2⟩
    have cv := conv_one
    have cvs : ∀ u, (mkB [u]).size = 1 := fun u => mkB_size _
    clear hu hm hs hv hvn ih small
    have cvD := conv_oneD
    have htd : (u : Int).tdiv 10 = (u : Int) / 10 := Int.tdiv_eq_ediv_of_nonneg (by omega)
    have htm : (u : Int).tmod 10 = (u : Int) % 10 := Int.tmod_eq_emod_of_nonneg (by omega)
    have hwd : IntKind.i64.wrap ((u : Int) / 10) = (u : Int) / 10 := by simp [IntKind.wrap, IntKind.bits, IntKind.signed]; omega
    have hwm : IntKind.i64.wrap ((u : Int) % 10) = (u : Int) % 10 := by simp [IntKind.wrap, IntKind.bits, IntKind.signed]; omega
    have hwa : IntKind.i64.wrap (48 + (u : Int) % 10) = 48 + (u : Int) % 10 := by simp [IntKind.wrap, IntKind.bits, IntKind.signed]; omega
    go_enter Tryd.func28, Tryd.ntmps28
    go_wp2_with fail
    go_region_with (go_at_call 28; refine (Hid.out HC _).mono ?_; rintro e w1 ⟨x, rfl, hx, HX, HB1⟩; try (have cvX := conv_at w1 w.heap.size v (cell_on (Hid.out HB1) (cell_made w v))))
    all_goals
      go_wp2_with fail
      go_ret
      refine ⟨ret_string (by rw [HD.out, HX.out]), ?_⟩
      first
        | exact (((Below.refl _ w).drew).trans (HB1.out.mono (Nat.le_refl _))).alloc (HB1.out.size) _
        | exact ((((Below.refl _ w).alloc (Nat.le_refl _) _).drew).trans (HB1.out.mono (by simp)))
        | exact ((((Below.refl _ w).drew).alloc (Nat.le_refl _) _).trans (HB1.out.mono (by simp)))

theorem l1Dec_any (n : Int) (h1 : -2147483647 ≤ n) (h2 : n ≤ 2147483647) (w : World) : Calls Tryd.prog 28 #[.int .i64 n] w fun e w' => e = .returned (.string (mkB (Lib.itoa n))) ∧ Below w.heap.size w w' := by
  have hp : (10 : Nat) ^ (9 + 1) = 10000000000 := by decide
  by_cases hn : n < 0
  · have HC : Hid (∀ W : World, Calls Tryd.prog 28 #[.int .i64 (-n)] W fun e w' => ∃ x : ByteArray, e = .returned (.string x) ∧ x.size ≤ 20 ∧ Hid (x = mkB (Lib.decDigits n.natAbs)) ∧ Hid (Below W.heap.size W w')) := fun W => by
      have := l1Dec_nat 9 n.natAbs (by omega) (by omega) W
      rw [show ((n.natAbs : Nat) : Int) = -n by omega] at this
      refine this.mono fun e w' ⟨h1, h2⟩ => ⟨_, h1, ?_, rfl, h2⟩
      rw [mkB_size, Lib.decDigits_length]
      have := nDigits_le' 9 n.natAbs (by omega)
      omega
    have HI : Hid (mkB (Lib.itoa n) = mkB [45] ++ mkB (Lib.decDigits n.natAbs)) := by
      show _ = _
      rw [mkB_append]
      unfold Lib.itoa
      rw [if_pos hn]
      rfl
    have h4 : decide (n < -9223372036854775807) = false := decide_eq_false (by omega)
    have hng : IntKind.i64.wrap (-n) = -n := by simp [IntKind.wrap, IntKind.bits, IntKind.signed]; omega
    clear hp
    go_enter Tryd.func28, Tryd.ntmps28
    go_wp2_with fail
    refine (Hid.out HC _).mono ?_
    rintro e w1 ⟨x, rfl, hx, HX, HB1⟩
    go_wp2_with fail
    go_ret
    exact ⟨ret_string (by rw [HI.out, HX.out]; rfl), HB1.out⟩
  · have := l1Dec_nat 9 n.toNat (by omega) (by omega) w
    rw [show ((n.toNat : Nat) : Int) = n by omega] at this
    refine this.mono fun e w' ⟨h1, h2⟩ => ⟨?_, h2⟩
    rw [h1]
    unfold Lib.itoa
    rw [if_neg hn]

end Go.Proofs.YtegnalfkdponhaaDoor
