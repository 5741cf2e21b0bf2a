
/-
  DERIVED. HOW A TEXT IS WRITTEN, and the walk of impl.writeText.
-/
import Derived.Test.YtegnalfkdponhaaDoorJpG
import Derived.Test.YtegnalfkdponhaaDoorNames
namespace Go.Proofs.YtegnalfkdponhaaDoor
open Go.RowKit
set_option linter.unusedVariables false
set_option linter.unusedSimpArgs false

/-- How a byte is written within a text. -/
def qByte (c : UInt8) : List UInt8 :=
  if c.toNat = 34 ∨ c.toNat = 92 then [92, c] else if c.toNat = 10 then [92, 110] else if c.toNat < 32 ∨ 126 < c.toNat then [92, 117, 48, 48, hexU (c.toNat / 16), hexU (c.toNat % 16)] else [c]
def qAll (l : List UInt8) : List UInt8 := l.flatMap qByte
def qTxt (l : List UInt8) : List UInt8 := 34 :: qAll l ++ [34]
theorem qByte_len (c : UInt8) : (qByte c).length ≤ 6 := by
  unfold qByte
  split
  · simp
  · split
    · simp
    · split <;> simp
theorem qAll_len (l : List UInt8) : (qAll l).length ≤ 6 * l.length := by
  induction l with
  | nil => simp [qAll]
  | cons c l ih =>
    have := qByte_len c
    simp only [qAll, List.flatMap_cons, List.length_append, List.length_cons] at ih ⊢
    omega
theorem qAll_snoc (l : List UInt8) (c : UInt8) : qAll (l ++ [c]) = qAll l ++ qByte c := by simp [qAll]

set_option maxHeartbeats 4000000 in
set_option maxRecDepth 100000 in
theorem writeText_any (B b : Nat) (l : List UInt8) (s : ByteArray) (w : World) (h : Bld B b l w) (hlen : l.length + 6 * s.size + 20 ≤ 140737488351232) :
    Calls Tryd.prog 47 #[.pointer (some ⟨b, 0, none⟩), .string s] w fun e w' => e = .returned (.tuple #[]) ∧ Bld B b (l ++ qTxt s.data.toList) w' ∧ Fra B b w w' := by
  have H : Hid (Bld B b l w) := h
  have hsz : (s.size : Int) ≤ 140737488351232 := by omega
  clear h
  go_enter Tryd.func47, Tryd.ntmps47
  go_wp2_with fail
  refine (bld_byte B b l 34 34 rfl w H.out (by omega)).mono ?_
  rintro e w1 ⟨rfl, h1, hf1⟩
  have HB1 : Hid (Bld B b (l ++ [34]) w1) := h1
  have HF1 : Hid (Fra B b w w1) := hf1
  clear h1 hf1
  go_wp2_with fail
  go_loopw [10] (fun i wr => ∃ j : Nat, j ≤ s.size ∧ i = .int .i64 j ∧ Hid (Bld B b (l ++ [34] ++ qAll (s.data.toList.take j)) wr) ∧ Hid (Fra B b w wr)) (fun i _ => s.size - (intOf i).toNat)
  case atStart => exact ⟨0, Nat.zero_le _, rfl, (by show Bld B b _ w1; simpa [qAll] using HB1.out), HF1⟩
  case round =>
    obtain ⟨j, hj, rfl, HB, HF⟩ := hrel
    by_cases hlt : j < s.size
    · have hlti : (j : Int) < (s.size : Int) := by omega
      obtain ⟨c, hc⟩ : ∃ c, s[j] = c := ⟨_, rfl⟩
      have HN : Hid (qAll (s.data.toList.take (j + 1)) = qAll (s.data.toList.take j) ++ qByte c) := by
        show _ = _
        rw [take_snoc s j hlt, qAll_snoc, hc]
      have hql : (qAll (s.data.toList.take j)).length ≤ 6 * j := by
        have := qAll_len (s.data.toList.take j)
        simp at this
        omega
      have hc8 : (c.toNat : Int) < 256 := by have := c.toNat_lt; omega
      have hll : ∀ (x : List UInt8), x.length ≤ 6 → (l ++ [34] ++ qAll (s.data.toList.take j) ++ x).length + 6 ≤ 140737488351232 := fun x hx => by simp only [List.length_append, List.length_cons, List.length_nil]; omega
      have HLL : Hid _ := hll
      have hl0 := hll [] (by simp)
      rw [List.append_nil] at hl0
      have HL0 : Hid ((l ++ [34] ++ qAll (s.data.toList.take j)).length + 6 ≤ 140737488351232) := hl0
      clear hll hl0 hql
      by_cases hq : c.toNat = 34 ∨ c.toNat = 92
      · have HQ : Hid (qByte c = [92, c]) := by show qByte c = _; unfold qByte; rw [if_pos hq]
        have hor : ((c.toNat : Int) == 34) = true ∨ (((c.toNat : Int) == 34) = false ∧ ((c.toNat : Int) == 92) = true) := by
          by_cases h : c.toNat = 34
          · left; simp; omega
          · right; constructor
            · simp; omega
            · simp; omega
        clear hq
        rcases hor with e34 | ⟨e34, e92⟩
        all_goals
          go_wp2_with fail
          refine (bld_byte B b _ 92 92 rfl wr HB.out (by have := HL0.out; omega)).mono ?_
          rintro e w2 ⟨rfl, h2, hf2⟩
          have HB2 : Hid (Bld B b (l ++ [34] ++ qAll (s.data.toList.take j) ++ [92]) w2) := h2
          have HF2 : Hid (Fra B b w w2) := HF.out.trans hf2
          clear h2 hf2
          go_wp2_with fail
          refine (bld_byte B b _ c _ rfl w2 HB2.out (by have := HLL.out [92] (by simp); omega)).mono ?_
          rintro e w3 ⟨rfl, h3, hf3⟩
          have HB3 : Hid (Bld B b (l ++ [34] ++ qAll (s.data.toList.take (j + 1))) w3) := by
            show Bld _ _ _ _
            rw [HN.out, HQ.out]
            simpa using h3
          have HF3 : Hid (Fra B b w w3) := HF2.out.trans hf3
          clear h3 hf3
          go_wp2_with fail
          exact ⟨⟨j + 1, by omega, by go_num, HB3, HF3⟩, by simp [intOf]; omega⟩
      have e34 : ((c.toNat : Int) == 34) = false := by simp; omega
      have e92 : ((c.toNat : Int) == 92) = false := by simp; omega
      by_cases h10 : c.toNat = 10
      · have HQ : Hid (qByte c = [92, 110]) := by show qByte c = _; unfold qByte; rw [if_neg hq, if_pos h10]
        have e10 : ((c.toNat : Int) == 10) = true := by simp; omega
        clear hq h10
        go_wp2_with fail
        refine (bld_string B b _ _ wr HB.out (by have := HL0.out; show _ + 2 ≤ _; omega)).mono ?_
        rintro e w2 ⟨rfl, h2, hf2⟩
        have HB3 : Hid (Bld B b (l ++ [34] ++ qAll (s.data.toList.take (j + 1))) w2) := by
          show Bld _ _ _ _
          rw [HN.out, HQ.out]
          simpa using h2
        have HF3 : Hid (Fra B b w w2) := HF.out.trans hf2
        clear h2 hf2
        go_wp2_with fail
        exact ⟨⟨j + 1, by omega, by go_num, HB3, HF3⟩, by simp [intOf]; omega⟩
      have e10 : ((c.toNat : Int) == 10) = false := by simp; omega
      by_cases hx : c.toNat < 32 ∨ 126 < c.toNat
      · have HQ : Hid (qByte c = [92, 117, 48, 48, hexU (c.toNat / 16), hexU (c.toNat % 16)]) := by show qByte c = _; unfold qByte; rw [if_neg hq, if_neg h10, if_pos hx]
        have hor : decide ((c.toNat : Int) < 32) = true ∨ (decide ((c.toNat : Int) < 32) = false ∧ decide ((126 : Int) < (c.toNat : Int)) = true) := by
          by_cases h : c.toNat < 32
          · left; simp; omega
          · right; constructor
            · simp; omega
            · simp; omega
        clear hq h10 hx
        rcases hor with e32 | ⟨e32, e126⟩
        all_goals
          go_wp2_with fail
          refine (bld_string B b _ _ wr HB.out (by have := HL0.out; show _ + 4 ≤ _; omega)).mono ?_
          rintro e w2 ⟨rfl, h2, hf2⟩
          have HB2 : Hid (Bld B b (l ++ [34] ++ qAll (s.data.toList.take j) ++ [92, 117, 48, 48]) w2) := h2
          have HF2 : Hid (Fra B b w w2) := HF.out.trans hf2
          clear h2 hf2
          go_wp2_with fail
          refine (writeFigures_any B b _ c w2 HB2.out (by have := HLL.out [92, 117, 48, 48] (by simp); omega)).mono ?_
          rintro e w4 ⟨rfl, h4, hf4⟩
          have HB4 : Hid (Bld B b (l ++ [34] ++ qAll (s.data.toList.take (j + 1))) w4) := by
            show Bld _ _ _ _
            rw [HN.out, HQ.out]
            simpa using h4
          have HF4 : Hid (Fra B b w w4) := HF2.out.trans hf4
          clear h4 hf4
          go_wp2_with fail
          exact ⟨⟨j + 1, by omega, by go_num, HB4, HF4⟩, by simp [intOf]; omega⟩
      have HQ : Hid (qByte c = [c]) := by show qByte c = _; unfold qByte; rw [if_neg hq, if_neg h10, if_neg hx]
      have e32 : decide ((c.toNat : Int) < 32) = false := by simp; omega
      have e126 : decide ((126 : Int) < (c.toNat : Int)) = false := by simp; omega
      clear hq h10 hx
      go_wp2_with fail
      refine (bld_byte B b _ c _ rfl wr HB.out (by have := HL0.out; omega)).mono ?_
      rintro e w3 ⟨rfl, h3, hf3⟩
      have HB3 : Hid (Bld B b (l ++ [34] ++ qAll (s.data.toList.take (j + 1))) w3) := by
        show Bld _ _ _ _
        rw [HN.out, HQ.out]
        simpa using h3
      have HF3 : Hid (Fra B b w w3) := HF.out.trans hf3
      clear h3 hf3
      go_wp2_with fail
      exact ⟨⟨j + 1, by omega, by go_num, HB3, HF3⟩, by simp [intOf]; omega⟩
    · have hlti : decide ((j : Int) < (s.size : Int)) = false := decide_eq_false (by omega)
      obtain rfl : j = s.size := by omega
      have hql := qAll_len (s.data.toList.take s.size)
      have hl5 : (l ++ [34] ++ qAll (s.data.toList.take s.size)).length + 1 ≤ 140737488351232 := by
        simp only [List.length_append, List.length_cons, List.length_nil, List.length_take, len_toList] at hql ⊢
        omega
      have HL5 : Hid _ := hl5
      clear hql hl5
      go_wp2_with fail
      refine (bld_byte B b _ 34 34 rfl wr HB.out (by have := HL5.out; omega)).mono ?_
      rintro e w3 ⟨rfl, h3, hf3⟩
      have HB3 : Hid (Bld B b (l ++ qTxt s.data.toList) w3) := by
        show Bld _ _ _ _
        rw [List.take_of_length_le (by rw [len_toList]; exact Nat.le_refl _)] at h3
        simpa [qTxt] using h3
      have HF3 : Hid (Fra B b w w3) := HF.out.trans hf3
      clear h3 hf3
      go_wp2_with fail
      go_end0
      exact ⟨rfl, HB3.out, HF3.out⟩

end Go.Proofs.YtegnalfkdponhaaDoor
