
/-
  DERIVED. A BLOCK IS TAKEN INTO A SUM: the walk of (*impl.sumState).mix.
-/
import Derived.Test.YtkogdlncjciboaaDoorShB
import Derived.Lib.LaidTab
import Derived.Lib.ConvBytes
import Derived.Lib.Strings
import Derived.Lib.AppendIntMem
import Derived.Deep.Cut
import Derived.Deep.RegionHeld3
import Derived.Deep.MidRow
namespace Go.Proofs.YtkogdlncjciboaaDoor
open Go.RowKit
set_option linter.unusedVariables false
set_option linter.unusedSimpArgs false

/-- The table of the standard's constants lies in the first global. -/
def KTab (w : World) : Prop := ∀ (i : Nat), i < 64 → w.cell? ⟨0, i, none⟩ = some (.int .u32 (wI (wAt kTab i)))
theorem KTab.on {w w' : World} (h : KTab w) (hb : Below w.heap.size w w') : KTab w' := fun i hi => cell_on hb (h i hi)
theorem KTab.turns {w w' : World} {b : Nat} (h : KTab w) (hb : Turns [b] w w') (h0 : 0 < b) : KTab w' := fun i hi => by
  have hc := h i hi
  have hl := cell_lt hc
  rw [World.cell?_of_block (w := w) (a := ⟨0, i, none⟩) (hb.block 0 hl (by simp; omega))]
  exact hc

/-- The array of a block's words, noughts behind. -/
def wordsA (ws : List W32) : Array Value := ((ws ++ List.replicate (64 - ws.length) 0#32).map fun x => Value.int .u32 (wI x)).toArray
theorem wordsA_size {ws : List W32} (h : ws.length ≤ 64) : (wordsA ws).size = 64 := by simp [wordsA]; omega
theorem wordsA_at {ws : List W32} (h : ws.length ≤ 64) {j : Nat} (hj : j < 64) : (wordsA ws)[j]? = some (.int .u32 (wI (wAt ws j))) := by
  simp only [wordsA, List.getElem?_toArray, List.getElem?_map, wAt, List.getD_eq_getElem?_getD]
  by_cases h1 : j < ws.length
  · rw [List.getElem?_append_left h1, List.getElem?_eq_getElem h1]; rfl
  · rw [List.getElem?_append_right (by omega), List.getElem?_replicate, if_pos (by omega), List.getElem?_eq_none (by omega)]; rfl
theorem wordsA_put {ws : List W32} (h : ws.length < 64) (x y : W32) : (wordsA (ws ++ [y])).setIfInBounds ws.length (.int .u32 (wI x)) = wordsA (ws ++ [x]) := by
  simp only [wordsA, List.setIfInBounds_toArray]
  congr 1
  simp only [List.append_assoc, List.map_append, List.map_cons, List.map_nil, List.length_append, List.length_cons, List.length_nil]
  rw [List.set_append_right _ _ (by simp)]
  simp
theorem wordsA_nought {ws : List W32} (h : ws.length < 64) : wordsA (ws ++ [0#32]) = wordsA ws := by
  unfold wordsA
  congr 2
  have e : 64 - ws.length = (64 - (ws ++ [0#32]).length) + 1 := by simp; omega
  rw [e, List.replicate_succ, List.append_assoc]
  rfl
/-- The first m bytes of four as a word. -/
def partW (bs : List UInt8) : W32 := bs.foldl (fun x c => x <<< 8 ||| bW c) 0#32
theorem partW_snoc (bs : List UInt8) (c : UInt8) : partW (bs ++ [c]) = partW bs <<< 8 ||| bW c := by simp [partW]
theorem partW_four (a b c d : UInt8) : partW [a, b, c, d] = w4 a b c d := by
  rw [← w4_steps]; rfl

theorem wrap64 (n : Nat) (h : n < 4294967296) : IntKind.i64.wrap (n : Int) = (n : Int) := by simp [IntKind.wrap, IntKind.bits, IntKind.signed]; omega

theorem cell_al {w : World} {p : Addr} {v : Value} (h : w.cell? p = some v) (o : Obj) : (w.alloc o).cell? p = some v := (World.cell?_alloc_lt _ _ _ (cell_lt h)).trans h
theorem cell_dr {w : World} {p : Addr} {v : Value} (h : w.cell? p = some v) : w.drew.cell? p = some v := h
theorem cell_st {w : World} {b o o' : Nat} {v : Value} (hne : o' ≠ o) (h : w.cell? ⟨b, o, none⟩ = some v) (u : Value) : (w.setCell ⟨b, o', none⟩ u).cell? ⟨b, o, none⟩ = some v :=
  (World.cell?_setCell_other _ _ _ _ (fun he => hne (by injection he))).trans h
theorem bl_al {a w : World} (h : Below a.heap.size a w) (o : Obj) : Below a.heap.size a (w.alloc o) := h.alloc h.size o
theorem bl_dr {a w : World} (h : Below a.heap.size a w) : Below a.heap.size a w.drew := h.drew
theorem bl_tr {a w w' : World} (h : Below a.heap.size a w) (h' : Below w.heap.size w w') : Below a.heap.size a w' := h.trans (h'.mono h.size)
theorem fr_al {w : World} {p : Addr} {v : Value} (h : w.cell? p = some v ∧ w.frozen? p = false) (o : Obj) : (w.alloc o).cell? p = some v ∧ (w.alloc o).frozen? p = false :=
  ⟨cell_al h.1 o, (World.frozen?_of_block (w := w) (Below.heap_alloc _ _ _ (cell_lt h.1))).trans h.2⟩
theorem fr_dr {w : World} {p : Addr} {v : Value} (h : w.cell? p = some v ∧ w.frozen? p = false) : w.drew.cell? p = some v ∧ w.drew.frozen? p = false := h
theorem fr_on {w w' : World} {p : Addr} {v : Value} (hb : Below w.heap.size w w') (h : w.cell? p = some v ∧ w.frozen? p = false) : w'.cell? p = some v ∧ w'.frozen? p = false :=
  ⟨cell_on hb h.1, (hb.frozen (cell_lt h.1)).trans h.2⟩
theorem two_cells {W : World} {g a b : Nat} (h0 : W.cell? ⟨g, 0, none⟩ = some (.int .i64 (a : Int))) (h1 : W.cell? ⟨g, 1, none⟩ = some (.int .i64 (b : Int))) : ∀ (i : Nat) (h : i < [a, b].length), W.cell? ⟨g, i, none⟩ = some (.int .i64 (([a, b][i] : Nat) : Int))
  | 0, _ => h0
  | 1, _ => h1
  | i + 2, h => absurd h (by simp)

/-- A text's bytes in a block of their own. -/
theorem conv_bytes (s : ByteArray) (w : World) : ∃ cap W, (convert 9 24 (.string s)).run Tryd.prog w = .ok (.slice (some ⟨w.heap.size, 0, none⟩) s.size cap) W ∧ Below w.heap.size w W ∧ W.heap.size = w.heap.size + 1 ∧
    ∀ (j : Nat), j < s.size → W.cell? ⟨w.heap.size, j, none⟩ = some (.int .u8 ((s.data.toList.getD j 0).toNat : Int)) :=
  ⟨_, _, Lib.run_convert_string_bytes w _ _ _ s Tryd.underlying9 Tryd.underlying24 Tryd.underlying5,
    ⟨rfl, rfl, rfl, by rw [Lib.bytesWorld_size]; omega, fun k hk => Lib.bytesWorld_at_old _ _ _ k hk⟩, Lib.bytesWorld_size _ _ _, fun j hj => Lib.bytesWorld_cell _ _ _ j hj⟩
theorem ext_at (blk : ByteArray) (q j : Nat) (h : q + 4 ≤ blk.size) (hj : j < 4) : (blk.extract q (q + 4)).data.toList.getD j 0 = bAt blk.data.toList (q + j) := by
  unfold bAt
  rw [Lib.extract_data, List.getD_eq_getElem?_getD, List.getD_eq_getElem?_getD, List.getElem?_take]
  rw [if_pos (by omega), List.getElem?_drop]
theorem ext_size (blk : ByteArray) (q : Nat) (h : q + 4 ≤ blk.size) : (blk.extract q (q + 4)).size = 4 := by
  rw [ByteArray.size_extract]; omega

/-- The state while it is added to: its first j words are the new ones. -/
def plusL (s t : S8) (j : Nat) : List Value := (List.range 8).map fun i => .int .u32 (wI (if i < j then wAt s.l i + wAt t.l i else wAt s.l i))
theorem plusL_zero (s t : S8) : plusL s t 0 = s.cs := rfl
theorem plusL_end (s t : S8) : plusL s t 8 = (s.plus t).cs := rfl
theorem plusL_len (s t : S8) (j : Nat) : (plusL s t j).length = 8 := by simp [plusL]
theorem plusL_at (s t : S8) (j i : Nat) (h : i < 8) : (plusL s t j)[i]? = some (.int .u32 (wI (if i < j then wAt s.l i + wAt t.l i else wAt s.l i))) := by simp [plusL, h]
theorem plusL_put (s t : S8) (j : Nat) (h : j < 8) (r z : Value) : (plusL s t j ++ [r, z]).toArray.setIfInBounds j (.int .u32 (wI (wAt s.l j + wAt t.l j))) = (plusL s t (j + 1) ++ [r, z]).toArray := by
  rw [List.setIfInBounds_toArray]
  congr 1
  rw [List.set_append_left _ _ (by rw [plusL_len]; omega)]
  congr 1
  apply List.ext_getElem?
  intro i
  rw [List.getElem?_set]
  by_cases hi : i < 8
  · rw [plusL_at _ _ _ _ hi, plusL_at _ _ _ _ hi, plusL_len]
    by_cases hji : j = i
    · subst hji; rw [if_pos rfl, if_pos h, if_pos (by omega)]
    · rw [if_neg hji]
      by_cases h2 : i < j
      · rw [if_pos h2, if_pos (by omega)]
      · rw [if_neg h2, if_neg (by omega)]
  · have e1 : (plusL s t j)[i]? = none := List.getElem?_eq_none (by rw [plusL_len]; omega)
    have e2 : (plusL s t (j + 1))[i]? = none := List.getElem?_eq_none (by rw [plusL_len]; omega)
    rw [e1, e2, if_neg (by omega)]
theorem cs_at (s : S8) (i : Nat) (h : i < 8) : s.cs[i]? = some (.int .u32 (wI (wAt s.l i))) := by
  have := plusL_at s s 0 i h
  simpa [plusL_zero] using this
theorem info_words : (Tryd.prog.info? 76).map (·.size) = some 64 := by kernel_rfl
theorem words_range {w : World} {b : Nat} {ws : List W32} (h : Owns w b (wordsA ws) 76) : w.rangeAt b 0 (wordsA ws).toList := fun j v hv => by rw [Nat.zero_add, h.cell]; simpa using hv

theorem info_u32 : ∃ i, Tryd.prog.info? 53 = some i ∧ i.size = 1 := by
  have h : (Tryd.prog.info? 53).map (fun i => i.size) = some 1 := by kernel_rfl
  obtain ⟨i, h1, h2⟩ := Option.map_eq_some_iff.1 h
  exact ⟨i, h1, h2⟩
theorem index_words (A : Array Value) (n : Nat) (v : Value) (w : World) (hn : n < 64) (hv : A[n]? = some v) : (Instr.index 76 (.agg A) (.int .i64 (n : Int))).run Tryd.prog w = .ok v w := by
  obtain ⟨i, hi, hs⟩ := info_u32
  have hb : 0 ≤ (n : Int) ∧ (n : Int) < 64 := by omega
  simp [Instr.index, run_underlying Tryd.underlying76, asIntOf, hb, part, isAgg, run_underlying Tryd.underlying53, sizeOf, typeInfo, hi, hs, hv, go_sem]
  omega

set_option maxHeartbeats 4000000 in
set_option maxRecDepth 100000 in
theorem mix_any (s : S8) (blk : ByteArray) (r z : Value) (b : Nat) (w : World) (h : Owns w b (s.cs ++ [r, z]).toArray 61) (hk : KTab w) (hb0 : 0 < b) (hl : blk.size = 64) :
    Calls Tryd.prog 39 #[.pointer (some ⟨b, 0, none⟩), .string blk] w fun e w' => e = .returned (.tuple #[]) ∧ Owns w' b ((s.mix blk.data.toList).cs ++ [r, z]).toArray 61 ∧ Turns [b] w w' := by
  have HO : Hid (Owns w b (s.cs ++ [r, z]).toArray 61) := h
  have HK : Hid (KTab w) := hk
  have hbl := h.lt
  have hsz : (blk.size : Int) = 64 := by omega
  clear h hk
  go_enter Tryd.func39, Tryd.ntmps39
  go_wp2_with fail
  generalize hW1 : World.alloc w _ = W1
  have hO1 : Owns W1 w.heap.size (wordsA []) 76 := by rw [← hW1]; exact Owns.made w _ _
  have hB1 : Below w.heap.size w W1 := by rw [← hW1]; exact (Below.refl _ _).alloc (Nat.le_refl _) _
  clear hW1
  go_loopw [15] (fun iv wr => ∃ i : Nat, i ≤ 16 ∧ iv = .int .i64 i ∧ Hid (Owns wr w.heap.size (wordsA (wordsTo blk.data.toList i)) 76) ∧ Hid (Below w.heap.size w wr)) (fun iv _ => 16 - (intOf iv).toNat)
  case atStart => exact ⟨0, Nat.zero_le _, rfl, hO1, hB1⟩
  case round =>
    rename World => wo
    obtain ⟨i, hi, rfl, HOw, HB⟩ := hrel
    clear hO1 hB1
    by_cases hlt : i < 16
    · have hlti : (i : Int) < 16 := by omega
      obtain ⟨q, hq0⟩ : ∃ q : Nat, q = 4 * i := ⟨_, rfl⟩
      have HQ : Hid (q = 4 * i) := hq0
      have hq : (4 : Int) * (i : Int) = (q : Int) := by omega
      have hq1 : (q : Int) + 4 ≤ 64 := by omega
      have hq2 : q + 4 ≤ 64 := by omega
      clear hq0
      obtain ⟨cap, W2, hconv, hb2, hz2, hc2⟩ := conv_bytes (blk.extract q (q + 4)) wo
      rw [ext_size blk q (by omega)] at hconv hc2
      have hg := HB.out.size
      have HOw2 : Hid (Owns W2 w.heap.size (wordsA (wordsTo blk.data.toList i ++ [partW []])) 76) := by
        rw [show partW [] = 0#32 by rfl, wordsA_nought (by rw [wordsTo_length]; omega)]
        exact HOw.out.below hb2 (HOw.out.lt)
      have HB2 : Hid (Below w.heap.size w W2) := HB.out.trans (hb2.mono hg)
      have HC2 : Hid (∀ (m : Nat), m < 4 → W2.cell? ⟨wo.heap.size, m, none⟩ = some (.int .u8 ((bAt blk.data.toList (q + m)).toNat : Int))) := fun m hm => by rw [hc2 m hm, ext_at blk q m (by omega) hm]
      have hz2' : wo.heap.size < W2.heap.size := by omega
      have HNE : Hid (wo.heap.size ≠ w.heap.size) := by have := HOw.out.lt; show _ ≠ _; omega
      clear hb2 hz2 hc2 hg
      go_wp2_with fail
      clear hconv
      go_loopw [27] (fun mv wi => ∃ m : Nat, m ≤ 4 ∧ mv = .int .i64 m ∧ Hid (Owns wi w.heap.size (wordsA (wordsTo blk.data.toList i ++ [partW (((List.range 4).map fun k => bAt blk.data.toList (q + k)).take m)])) 76) ∧ Hid (Turns [w.heap.size] W2 wi)) (fun mv _ => 4 - (intOf mv).toNat)
      case atStart => exact ⟨0, Nat.zero_le _, rfl, HOw2, Turns.refl _ _⟩
      case round =>
        obtain ⟨m, hm, rfl, HOm, HTm⟩ := hrel
        by_cases hm4 : m < 4
        · have hm4i : (m : Int) < 4 := by omega
          obtain ⟨c, hcd⟩ : ∃ c, bAt blk.data.toList (q + m) = c := ⟨_, rfl⟩
          have cc : wr.cell? ⟨wo.heap.size, m, none⟩ = some (.int .u8 (c.toNat : Int)) := by
            have h1 := HC2.out m hm4
            rw [hcd] at h1
            rw [← h1]
            exact World.cell?_of_block (w := W2) (a := ⟨wo.heap.size, m, none⟩) (HTm.out.block _ hz2' (by simpa using HNE.out))
          obtain ⟨x, hx⟩ : ∃ x, partW (((List.range 4).map fun k => bAt blk.data.toList (q + k)).take m) = x := ⟨_, rfl⟩
          have HN : Hid (partW (((List.range 4).map fun k => bAt blk.data.toList (q + k)).take (m + 1)) = x <<< 8 ||| bW c) := by
            show _ = _
            rw [List.take_succ_eq_append_getElem (by simp; omega), partW_snoc, hx]
            simp [hcd]
          rw [hx] at HOm
          have hlw : (wordsTo blk.data.toList i).length = i := wordsTo_length _ _
          have c0 : wr.cell? ⟨w.heap.size, i, none⟩ = some (.int .u32 (wI x)) := by
            rw [HOm.out.cell, wordsA_at (by simp [hlw]; omega) (by omega)]
            simp [wAt, List.getD_eq_getElem?_getD, hlw]
          have f0 : wr.frozen? ⟨w.heap.size, i, none⟩ = false := HOm.out.frozen _
          have HS : Hid (∀ v, v = wI (x <<< 8 ||| bW c) → Owns (wr.setCell ⟨w.heap.size, i, none⟩ (.int .u32 v)) w.heap.size (wordsA (wordsTo blk.data.toList i ++ [x <<< 8 ||| bW c])) 76) := fun v hv => by
            subst hv
            have h1 := HOm.out.set i (.int .u32 (wI (x <<< 8 ||| bW c)))
            have h2 := wordsA_put (ws := wordsTo blk.data.toList i) (by omega) (x <<< 8 ||| bW c) x
            rw [hlw] at h2
            rw [h2] at h1
            exact h1
          have HT2 : Hid (∀ v, Turns [w.heap.size] W2 (wr.setCell ⟨w.heap.size, i, none⟩ v)) := fun v => HTm.out.setCell List.mem_cons_self v
          have hi64 : (i : Int) < 64 := by omega
          have hc8 : (c.toNat : Int) < 256 := by have := c.toNat_lt; omega
          have HV : Hid (bits .or .u32 (wI x * 256 % 4294967296) ((c.toNat : Nat) : Int) = wI (x <<< 8 ||| bW c)) := wI_or8 x c
          clear hx hcd HOm HTm hlw
          go_wp2_with fail
          refine ⟨⟨m + 1, by omega, by go_num, ?_, HT2.out _⟩, by simp [intOf]; omega⟩
          rw [HN.out]
          exact HS.out _ HV.out
        · obtain rfl : m = 4 := by omega
          have HD : Hid (Owns wr w.heap.size (wordsA (wordsTo blk.data.toList (i + 1))) 76) := by
            have h1 := HOm.out
            have h2 : partW (((List.range 4).map fun k => bAt blk.data.toList (q + k)).take 4) = w4 (bAt blk.data.toList (4 * i)) (bAt blk.data.toList (4 * i + 1)) (bAt blk.data.toList (4 * i + 2)) (bAt blk.data.toList (4 * i + 3)) := by
              rw [HQ.out, ← partW_four]; rfl
            rw [h2] at h1
            show Owns _ _ (wordsA (wordsTo blk.data.toList i ++ [if i < 16 then _ else _])) _
            rw [if_pos hlt]
            exact h1
          have HB3 : Hid (Below w.heap.size w wr) := HTm.out.below HB2.out (by simp) (by have := HB2.out.size; omega)
          clear HOm HTm HQ hq hq1
          go_wp2_with fail
          exact ⟨⟨i + 1, by omega, by go_num, HD, HB3⟩, by simp [intOf]; omega⟩
    · have hi16 : i = 16 := by omega
      have e16 : ((i : Nat) : Int) = 16 := by omega
      rw [e16]
      rw [hi16] at HOw
      clear e16 hi16 hi hlt
      go_wp2_with fail
      go_loopw [8] (fun iv wr => ∃ n : Nat, 16 ≤ n ∧ n ≤ 64 ∧ iv = .int .i64 n ∧ Hid (Owns wr w.heap.size (wordsA (wordsTo blk.data.toList n)) 76) ∧ Hid (Below w.heap.size w wr)) (fun iv _ => 64 - (intOf iv).toNat)
      case atStart => exact ⟨16, by omega, by omega, rfl, HOw, HB⟩
      case round =>
        rename World => wx
        clear HOw HB
        obtain ⟨n, hn16, hn64, rfl, HOn, HBn⟩ := hrel
        by_cases hlt2 : n < 64
        · have hlti : (n : Int) < 64 := by omega
          obtain ⟨far, hfar⟩ : ∃ x, wAt (wordsTo blk.data.toList n) (n - 15) = x := ⟨_, rfl⟩
          obtain ⟨near, hnear⟩ : ∃ x, wAt (wordsTo blk.data.toList n) (n - 2) = x := ⟨_, rfl⟩
          obtain ⟨x16, hx16⟩ : ∃ x, wAt (wordsTo blk.data.toList n) (n - 16) = x := ⟨_, rfl⟩
          obtain ⟨x7, hx7⟩ : ∃ x, wAt (wordsTo blk.data.toList n) (n - 7) = x := ⟨_, rfl⟩
          have hlw : (wordsTo blk.data.toList n).length = n := wordsTo_length _ _
          have hcl : ∀ (j : Nat), j < 64 → wx.cell? ⟨w.heap.size, j, none⟩ = some (.int .u32 (wI (wAt (wordsTo blk.data.toList n) j))) := fun j hj => by
            rw [HOn.out.cell, wordsA_at (by omega) hj]
          obtain ⟨p15, hp15⟩ : ∃ p : Nat, p = n - 15 := ⟨_, rfl⟩
          obtain ⟨p2, hp2⟩ : ∃ p : Nat, p = n - 2 := ⟨_, rfl⟩
          obtain ⟨p16, hp16⟩ : ∃ p : Nat, p = n - 16 := ⟨_, rfl⟩
          obtain ⟨p7, hp7⟩ : ∃ p : Nat, p = n - 7 := ⟨_, rfl⟩
          have c15 := hcl p15 (by omega)
          have c2 := hcl p2 (by omega)
          have c16 := hcl p16 (by omega)
          have c7 := hcl p7 (by omega)
          rw [hp15, hfar, ← hp15] at c15
          rw [hp2, hnear, ← hp2] at c2
          rw [hp16, hx16, ← hp16] at c16
          rw [hp7, hx7, ← hp7] at c7
          have i15 : (n : Int) - 15 = (p15 : Int) := by omega
          have i2 : (n : Int) - 2 = (p2 : Int) := by omega
          have i16 : (n : Int) - 16 = (p16 : Int) := by omega
          have i7 : (n : Int) - 7 = (p7 : Int) := by omega
          have b15 : (p15 : Int) < 64 := by omega
          have b2 : (p2 : Int) < 64 := by omega
          have b16 : (p16 : Int) < 64 := by omega
          have b7 : (p7 : Int) < 64 := by omega
          have HX : Hid (wordsTo blk.data.toList (n + 1) = wordsTo blk.data.toList n ++ [x16 + sig0 far + x7 + sig1 near]) := by
            show wordsTo blk.data.toList n ++ [if n < 16 then _ else _] = _
            rw [if_neg (by omega), hfar, hnear, hx16, hx7]
          clear hcl hfar hnear hx16 hx7 hp15 hp2 hp16 hp7
          go_wp2_with fail
          go_quiet (fail)
          go_wp2_with fail
          obtain ⟨Wd, hWd⟩ : ∃ W, W = wx.drewN nq := ⟨_, rfl⟩
          have d16 : Wd.cell? ⟨w.heap.size, p16, none⟩ = some (.int .u32 (wI x16)) := by rw [hWd]; exact c16
          have d7 : Wd.cell? ⟨w.heap.size, p7, none⟩ = some (.int .u32 (wI x7)) := by rw [hWd]; exact c7
          have dn : Wd.cell? ⟨w.heap.size, n, none⟩ = some (.int .u32 (wI (wAt (wordsTo blk.data.toList n) n))) := by rw [hWd]; show wx.cell? _ = _; rw [HOn.out.cell, wordsA_at (by omega) (by omega)]
          have df : Wd.frozen? ⟨w.heap.size, n, none⟩ = false := by rw [hWd]; exact HOn.out.frozen _
          have HOd : Hid (Owns Wd w.heap.size (wordsA (wordsTo blk.data.toList n)) 76) := by rw [hWd]; exact HOn.out
          have HBd : Hid (Below w.heap.size w Wd) := by rw [hWd]; exact HBn.out.trans ⟨rfl, rfl, rfl, Nat.le_refl _, fun _ _ => rfl⟩
          have hzd : w.heap.size < Wd.heap.size := HOd.out.lt
          have w16 : IntKind.i64.wrap (p16 : Int) = (p16 : Int) := wrap64 _ (by omega)
          have w7 : IntKind.i64.wrap (p7 : Int) = (p7 : Int) := wrap64 _ (by omega)
          have wn : IntKind.i64.wrap (n : Int) = (n : Int) := wrap64 _ (by omega)
          rw [← hWd]
          clear hWd c15 c2 c16 c7 HOn HBn hlw b15 b2 i15 i2 nq
          have HPUT : Hid (∀ W, Below Wd.heap.size Wd W → ∀ v, v = wI (x16 + sig0 far + x7 + sig1 near) → Owns (W.setCell ⟨w.heap.size, n, none⟩ (.int .u32 v)) w.heap.size (wordsA (wordsTo blk.data.toList (n + 1))) 76 ∧ Below w.heap.size w (W.setCell ⟨w.heap.size, n, none⟩ (.int .u32 v))) := fun W hW v hv => by
            subst hv
            have hlw : (wordsTo blk.data.toList n).length = n := wordsTo_length _ _
            have h1 := (HOd.out.below hW hzd).set n (.int .u32 (wI (x16 + sig0 far + x7 + sig1 near)))
            have h2 := wordsA_put (ws := wordsTo blk.data.toList n) (by omega) (x16 + sig0 far + x7 + sig1 near) 0#32
            rw [wordsA_nought (by omega), hlw] at h2
            rw [h2, ← HX.out] at h1
            exact ⟨h1, (HBd.out.trans (hW.mono HBd.out.size)).setCell (Nat.le_refl _) _⟩
          obtain ⟨TA, hTA⟩ : ∃ t, rotR far 7 ^^^ rotR far 18 = t := ⟨_, rfl⟩
          obtain ⟨TB, hTB⟩ : ∃ t, rotR near 17 ^^^ rotR near 19 = t := ⟨_, rfl⟩
          have HCA : Hid (∀ (W : World) (g cap : Nat), W.cell? ⟨g, 0, none⟩ = some (.int .i64 7) → W.cell? ⟨g, 1, none⟩ = some (.int .i64 18) → Calls Tryd.prog 49 #[.int .u32 (wI far), .slice (some ⟨g, 0, none⟩) 2 cap] W fun e w' => e = .returned (.int .u32 (wI TA)) ∧ Below W.heap.size W w') := fun W g cap h0 h1 => by
            rw [← hTA, ← turnsW_two]
            exact turns_any far [7, 18] g cap W (by simp) (by simp) (two_cells h0 h1)
          have HCB : Hid (∀ (W : World) (g cap : Nat), W.cell? ⟨g, 0, none⟩ = some (.int .i64 17) → W.cell? ⟨g, 1, none⟩ = some (.int .i64 19) → Calls Tryd.prog 49 #[.int .u32 (wI near), .slice (some ⟨g, 0, none⟩) 2 cap] W fun e w' => e = .returned (.int .u32 (wI TB)) ∧ Below W.heap.size W w') := fun W g cap h0 h1 => by
            rw [← hTB, ← turnsW_two]
            exact turns_any near [17, 19] g cap W (by simp) (by simp) (two_cells h0 h1)
          have HV : Hid (∀ v : Int, v = wI (x16 + (TA ^^^ far >>> 3) + x7 + (TB ^^^ near >>> 10)) → v = wI (x16 + sig0 far + x7 + sig1 near)) := fun v hv => by rw [hv, ← hTA, ← hTB]; rfl
          clear hTA hTB
          obtain ⟨xn, hxn⟩ : ∃ x, wAt (wordsTo blk.data.toList n) n = x := ⟨_, rfl⟩
          rw [hxn] at dn
          clear hxn
          have DN : Wd.cell? ⟨w.heap.size, n, none⟩ = some (.int .u32 (wI xn)) ∧ Wd.frozen? ⟨w.heap.size, n, none⟩ = false := ⟨dn, df⟩
          clear dn df
          have HDN := DN
          have HDN2 : Hid (Wd.cell? ⟨w.heap.size, n, none⟩ = some (.int .u32 (wI xn)) ∧ Wd.frozen? ⟨w.heap.size, n, none⟩ = false) := DN
          clear DN HDN
          go_region_held3 (fun w' => w'.cell? ⟨w.heap.size, p16, none⟩ = some (.int .u32 (wI x16)) ∧ w'.cell? ⟨w.heap.size, p7, none⟩ = some (.int .u32 (wI x7))) (refine ⟨?_, ?_⟩ <;> (repeat (first | assumption | refine cell_dr ?_ | refine cell_al ?_ _ | refine cell_st (by omega) ?_ _))) (first
            | (go_at_call_of 49 (wI far); refine (HCA.out _ _ _ (by simp) (by simp)).mono ?_; rintro e wA ⟨rfl, hbA⟩; have a16 : wA.cell? ⟨w.heap.size, p16, none⟩ = some (.int .u32 (wI x16)) := (by refine cell_on hbA ?_; repeat (first | exact d16 | refine cell_dr ?_ | refine cell_al ?_ _)); have a7 : wA.cell? ⟨w.heap.size, p7, none⟩ = some (.int .u32 (wI x7)) := (by refine cell_on hbA ?_; repeat (first | exact d7 | refine cell_dr ?_ | refine cell_al ?_ _)); have AN : Hid (wA.cell? ⟨w.heap.size, n, none⟩ = some (.int .u32 (wI xn)) ∧ wA.frozen? ⟨w.heap.size, n, none⟩ = false) := (by refine fr_on hbA ?_; repeat (first | exact HDN2.out | refine fr_dr ?_ | refine fr_al ?_ _)); have HBA : Hid _ := hbA; clear hbA)
            | (go_at_call_of 49 (wI near); refine (HCB.out _ _ _ (by first | (simp; done) | (refine cell_on HBA.out ?_; simp; done) | (refine cell_dr (cell_on HBA.out ?_); simp; done)) (by first | (simp; done) | (refine cell_on HBA.out ?_; simp; done) | (refine cell_dr (cell_on HBA.out ?_); simp; done))).mono ?_; rintro e wB ⟨rfl, hbB⟩; have b16' : wB.cell? ⟨w.heap.size, p16, none⟩ = some (.int .u32 (wI x16)) := (by refine cell_on hbB ?_; repeat (first | exact a16 | refine cell_dr ?_ | refine cell_al ?_ _)); have b7' : wB.cell? ⟨w.heap.size, p7, none⟩ = some (.int .u32 (wI x7)) := (by refine cell_on hbB ?_; repeat (first | exact a7 | refine cell_dr ?_ | refine cell_al ?_ _)); have BN : Hid (wB.cell? ⟨w.heap.size, n, none⟩ = some (.int .u32 (wI xn)) ∧ wB.frozen? ⟨w.heap.size, n, none⟩ = false) := (by refine fr_on hbB ?_; repeat (first | exact AN.out | refine fr_dr ?_ | refine fr_al ?_ _)); have HBB : Hid _ := hbB; have bN := BN.out.1; have bF := BN.out.2; clear hbB))
          all_goals
            simp only [wI_sh3, wI_sh10, wI_xor, wI_add]
            have HW : Hid _ := HPUT.out wB (by refine bl_tr ?_ HBB.out; repeat (first | exact Below.refl _ _ | exact bl_tr (bl_dr (bl_al (Below.refl _ _) _)) HBA.out | refine bl_tr ?_ HBA.out | refine bl_dr ?_ | refine bl_al ?_ _)) _ (HV.out _ rfl)
            clear HPUT HV HBA HBB HCA HCB a16 a7 b16' b7' bN bF AN BN d16 d7 HX HDN2
            go_wp2_with fail
            exact ⟨⟨n + 1, by omega, by omega, by go_num, HW.out.1, HW.out.2⟩, by simp [intOf]; omega⟩
        · have hn : n = 64 := by omega
          have e64 : ((n : Nat) : Int) = 64 := by omega
          rw [e64]
          rw [hn] at HOn
          clear e64 hn hn16 hn64 hlt2
          have hOb : Owns wx b (s.cs ++ [r, z]).toArray 61 := HO.out.below HBn.out hbl
          have c0 : wx.cell? ⟨b, 0, none⟩ = some (.int .u32 (wI s.a)) := (hOb.cell 0).trans rfl
          have c1 : wx.cell? ⟨b, 1, none⟩ = some (.int .u32 (wI s.b)) := (hOb.cell 1).trans rfl
          have c2 : wx.cell? ⟨b, 2, none⟩ = some (.int .u32 (wI s.c)) := (hOb.cell 2).trans rfl
          have c3 : wx.cell? ⟨b, 3, none⟩ = some (.int .u32 (wI s.d)) := (hOb.cell 3).trans rfl
          have c4 : wx.cell? ⟨b, 4, none⟩ = some (.int .u32 (wI s.e)) := (hOb.cell 4).trans rfl
          have c5 : wx.cell? ⟨b, 5, none⟩ = some (.int .u32 (wI s.f)) := (hOb.cell 5).trans rfl
          have c6 : wx.cell? ⟨b, 6, none⟩ = some (.int .u32 (wI s.g)) := (hOb.cell 6).trans rfl
          have c7 : wx.cell? ⟨b, 7, none⟩ = some (.int .u32 (wI s.h)) := (hOb.cell 7).trans rfl
          clear hOb
          have hlt0 : w.heap.size < wx.heap.size := HOn.out.lt
          obtain ⟨A, hA⟩ : ∃ A, (wordsA (wordsTo blk.data.toList 64)).toList = A := ⟨_, rfl⟩
          have HRG : Hid (∀ W, Below wx.heap.size wx W → W.rangeAt w.heap.size 0 A) := fun W hW => by rw [← hA]; exact words_range (HOn.out.below hW hlt0)
          have HA : Hid (∀ (j : Nat), j < 64 → A[j]? = some (.int .u32 (wI (wAt (wordsTo blk.data.toList 64) j)))) := fun j hj => by
            rw [← hA, Array.getElem?_toList]; exact wordsA_at (by rw [wordsTo_length]; exact Nat.le_refl _) hj
          have hAs : A.length = 64 := by rw [← hA, Array.length_toList]; exact wordsA_size (by rw [wordsTo_length]; exact Nat.le_refl _)
          have HIN : Hid ((Tryd.prog.info? 76).map (·.size) = some A.length) := by show _ = _; rw [hAs]; exact info_words
          clear hA
          go_wp2_with (refine wpList_load_mid rfl 76 (.tmp 4) rfl w.heap.size 0 rfl A _ (HRG.out _ ((Below.refl _ _).alloc (Nat.le_refl _) _)) Tryd.underlying76 rfl HIN.out ?_)
          clear c0 c1 c2 c3 c4 c5 c6 c7
          generalize hW5 : wx.alloc _ = W5
          have HN5 : Hid (Owns W5 wx.heap.size (rounds s blk.data.toList 0).cs.toArray 59) := by rw [← hW5]; exact Owns.made wx _ _
          have HB5 : Hid (Below wx.heap.size wx W5) := by rw [← hW5]; exact (Below.refl _ _).alloc (Nat.le_refl _) _
          clear hW5
          go_loopw [83] (fun iv wr => ∃ n : Nat, n ≤ 64 ∧ iv = .int .i64 n ∧ Hid (Owns wr wx.heap.size (rounds s blk.data.toList n).cs.toArray 59) ∧ Hid (Turns [wx.heap.size] W5 wr)) (fun iv _ => 64 - (intOf iv).toNat)
          case atStart => exact ⟨0, Nat.zero_le _, rfl, HN5, Turns.refl _ _⟩
          case round =>
            rename World => wy
            obtain ⟨n, hn64, rfl, HOn2, HTn⟩ := hrel
            clear HN5
            by_cases hlt3 : n < 64
            · have hlti3 : (n : Int) < 64 := by omega
              have ha := HA.out n hlt3
              obtain ⟨x, hx⟩ : ∃ x, wAt (wordsTo blk.data.toList 64) n = x := ⟨_, rfl⟩
              obtain ⟨k, hk⟩ : ∃ k, wAt kTab n = k := ⟨_, rfl⟩
              rw [hx] at ha
              have hky : KTab wy := ((HK.out.on HBn.out).on HB5.out).turns HTn.out (by omega)
              have hkc := hky n hlt3
              rw [hk] at hkc
              have HST : Hid ((rounds s blk.data.toList n).step (x + k) = rounds s blk.data.toList (n + 1)) := by show _ = rounds s blk.data.toList (n + 1); rw [← hx, ← hk]; rfl
              clear hx hk hky
              have hidx := index_words A.toArray n _ wy hlt3 (by rw [List.getElem?_toArray]; exact ha)
              have wn3 : IntKind.i64.wrap (n : Int) = (n : Int) := wrap64 _ (by omega)
              clear ha
              go_wp2_with fail
              rw [wI_mod]
              refine (step_any (rounds s blk.data.toList n) (x + k) wx.heap.size wy HOn2.out).mono ?_
              rintro e wz ⟨rfl, hOz, hTz⟩
              have HOz : Hid (Owns wz wx.heap.size (rounds s blk.data.toList (n + 1)).cs.toArray 59) := by
                show Owns _ _ _ _
                rw [← HST.out]; exact hOz
              have HTz : Hid (Turns [wx.heap.size] W5 wz) := HTn.out.trans hTz
              clear hOz hTz HST hidx hkc
              go_wp2_with fail
              exact ⟨⟨n + 1, by omega, by go_num, HOz, HTz⟩, by simp [intOf]; omega⟩
            · have hn : n = 64 := by omega
              have e64 : ((n : Nat) : Int) = 64 := by omega
              rw [e64]
              rw [hn] at HOn2
              clear e64 hn hn64 hlt3 HRG HA HIN hAs
              obtain ⟨t, ht⟩ : ∃ t, rounds s blk.data.toList 64 = t := ⟨_, rfl⟩
              have HMX : Hid (s.mix blk.data.toList = s.plus t) := by show s.plus (rounds s blk.data.toList 64) = _; rw [ht]
              rw [ht] at HOn2
              clear ht
              have HBy : Hid (Below w.heap.size w wy) := (HBn.out.trans (HB5.out.mono (by omega))).trans ⟨HTn.out.os, HTn.out.tape, HTn.out.output, HTn.out.size, fun q hq => HTn.out.block q (by have := HB5.out.size; omega) (by simp; omega)⟩
              have HPb : Hid (Owns wy b (plusL s t 0 ++ [r, z]).toArray 61) := HO.out.below HBy.out hbl
              go_wp2_with fail
              go_loopw [94] (fun iv wr => ∃ j : Nat, j ≤ 8 ∧ iv = .int .i64 j ∧ Hid (Owns wr b (plusL s t j ++ [r, z]).toArray 61) ∧ Hid (Owns wr wx.heap.size t.cs.toArray 59) ∧ Hid (Turns [b] w wr)) (fun iv _ => 8 - (intOf iv).toNat)
              case atStart => exact ⟨0, Nat.zero_le _, rfl, HPb, HOn2, Turns.of_below HBy.out (Nat.le_refl _)⟩
              case round =>
                rename World => wv
                clear HPb HOn2
                obtain ⟨j, hj8, rfl, HPj, HNj, HTj⟩ := hrel
                by_cases hlt4 : j < 8
                · have hlti4 : (j : Int) < 8 := by omega
                  have cb : wv.cell? ⟨b, j, none⟩ = some (.int .u32 (wI (wAt s.l j))) := by
                    rw [HPj.out.cell, List.getElem?_toArray, List.getElem?_append_left (by rw [plusL_len]; omega), plusL_at _ _ _ _ hlt4, if_neg (by omega)]
                  have cn : wv.cell? ⟨wx.heap.size, j, none⟩ = some (.int .u32 (wI (wAt t.l j))) := by rw [HNj.out.cell, List.getElem?_toArray, cs_at _ _ hlt4]
                  have cf : wv.frozen? ⟨b, j, none⟩ = false := HPj.out.frozen _
                  have wj : IntKind.i64.wrap (j : Int) = (j : Int) := wrap64 _ (by omega)
                  obtain ⟨xs, hxs⟩ : ∃ x, wAt s.l j = x := ⟨_, rfl⟩
                  obtain ⟨xt, hxt⟩ : ∃ x, wAt t.l j = x := ⟨_, rfl⟩
                  have HPUT : Hid (∀ v, v = wI (xs + xt) → Owns (wv.setCell ⟨b, j, none⟩ (.int .u32 v)).drew b (plusL s t (j + 1) ++ [r, z]).toArray 61 ∧ Owns (wv.setCell ⟨b, j, none⟩ (.int .u32 v)).drew wx.heap.size t.cs.toArray 59 ∧ Turns [b] w (wv.setCell ⟨b, j, none⟩ (.int .u32 v)).drew) := fun v hv => by
                    subst hv
                    have h1 := HPj.out.set j (.int .u32 (wI (xs + xt)))
                    rw [← hxs, ← hxt, plusL_put s t j hlt4 r z] at h1
                    have h2 := HNj.out.other (b' := b) (by omega) j (.int .u32 (wI (xs + xt)))
                    have h3 := HTj.out.setCell (b := b) (o := j) List.mem_cons_self (.int .u32 (wI (xs + xt)))
                    rw [← hxs, ← hxt] at h2 h3 ⊢
                    exact ⟨h1, h2, ⟨h3.os, h3.tape, h3.output, h3.size, h3.block⟩⟩
                  rw [hxs] at cb
                  rw [hxt] at cn
                  clear hxs hxt HPj HNj HTj
                  go_wp2_with fail
                  go_region
                  all_goals
                    rw [wI_mod]
                    have HW : Hid _ := HPUT.out _ rfl
                    clear HPUT cb cn cf
                    go_wp2_with fail
                    exact ⟨⟨j + 1, by omega, by go_num, HW.out.1, HW.out.2.1, HW.out.2.2⟩, by simp [intOf]; omega⟩
                · have hj : j = 8 := by omega
                  rw [hj, plusL_end] at HPj
                  clear hj
                  go_wp2_with fail
                  go_end0
                  refine ⟨rfl, ?_, HTj.out⟩
                  rw [HMX.out]
                  exact HPj.out

end Go.Proofs.YtkogdlncjciboaaDoor
