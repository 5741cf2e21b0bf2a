
/-
  DERIVED. THE WALKS OF spec.PointerText, impl.PointerText.
-/
import Derived.Test.YtedeeckbgjalcaaDoorPtP
import Derived.Test.YtedeeckbgjalcaaDoorStrW
import Derived.Test.YtedeeckbgjalcaaDoorJpA
import Derived.Test.YtedeeckbgjalcaaDoorShelf
namespace Go.Proofs.YtedeeckbgjalcaaDoor
open Go.RowKit
set_option linter.unusedVariables false
set_option linter.unusedSimpArgs false

def mkP (l : List UInt8) : ByteArray := ⟨l.toArray⟩
theorem mkP_size (l : List UInt8) : (mkP l).size = l.length := by show l.toArray.size = _; simp
theorem mkP_append (l m : List UInt8) : mkP l ++ mkP m = mkP (l ++ m) := by
  apply ByteArray.ext
  simp [mkP]
theorem ret_stringP {a b : ByteArray} (h : a = b) : Ending.returned (.string a) = .returned (.string b) := by rw [h]
theorem take_snocP (s : ByteArray) (k : Nat) (h : k < s.size) : s.data.toList.take (k + 1) = s.data.toList.take k ++ [s[k]] := by
  rw [List.take_succ_eq_append_getElem (by simpa using h)]; rfl
theorem extract_one (s : ByteArray) (k : Nat) (h : k < s.size) : s.extract k (k + 1) = mkP [s[k]] := by
  apply ByteArray.ext
  show (s.extract k (k + 1)).data = #[s[k]]
  rw [ByteArray.data_extract]
  apply Array.ext
  · simp; have : k < s.data.size := h; omega
  · intro i h1 h2
    have hi : i = 0 := by simp at h2; exact h2
    subst hi
    simp
    rfl

set_option maxHeartbeats 2000000 in
theorem specPointerText_any (l : List ByteArray) (v : Value) (w : World) (hrow : StrRow w 0 l v) (hz : szT l ≤ 3000000) :
    Calls Tryd.prog 10 #[v] w fun e w' => e = .returned (.string (mkP (ptL l))) ∧ Below w.heap.size w w' := by
  obtain ⟨a, cap, rfl, hw, hrest⟩ := hrow.len
  have hlen : (l.length : Int) ≤ 140737488351232 := by omega
  have HR : Hid _ := hrest
  have HZ : Hid (szT l ≤ 3000000) := hz
  clear hrow hrest hz
  go_enter Tryd.func10, Tryd.ntmps10
  go_wp2_with fail
  go_loop [3, 4] (fun o i => ∃ (j : Nat) (x : ByteArray), j ≤ l.length ∧ i = .int .i64 j ∧ o = .string x ∧ x.size ≤ 6000000 ∧ Hid (x = mkP (ptL (l.take j)))) (fun _ i => l.length - (intOf i).toNat)
  case atStart => exact ⟨0, ⟨#[]⟩, Nat.zero_le _, rfl, rfl, by decide, by show _ = _; simp [ptL, mkP]⟩
  case round =>
    obtain ⟨j, x, hj, rfl, rfl, hx, HX⟩ := hrel
    by_cases hlt : j < l.length
    · have hlti : (j : Int) < (l.length : Int) := by omega
      obtain ⟨b, off, rfl, _, hcs⟩ := HR.out (List.ne_nil_of_length_pos (by omega))
      obtain ⟨c0, hs⟩ := hcs j hlt
      have HSN : Hid (ptL (l.take (j + 1)) = ptL (l.take j) ++ 47 :: escL l[j].data.toList) := ptL_snoc hlt
      have hzj : szT (l.take j) + l[j].size + 1 ≤ 3000000 := by
        have h1 := szT_take l (j + 1)
        rw [szT_snoc hlt] at h1
        have h2 := HZ.out
        omega
      have hxx : x.size ≤ 2 * szT (l.take j) := by rw [HX.out, mkP_size]; exact ptL_length _
      clear hcs
      generalize l[j] = s at *
      have hsi : (s.size : Int) ≤ 3000000 := by omega
      have HXS : Hid (x.size + 2 * s.size + 2 ≤ 6000000) := by show _ ≤ _; omega
      have HL : Hid (szT (l.take j) + s.size + 1 ≤ 3000000) := hzj
      clear hxx hzj
      go_wp2_with fail
      go_loop [3, 5] (fun o i => ∃ (k : Nat) (y : ByteArray), k ≤ s.size ∧ i = .int .i64 k ∧ o = .string y ∧ y.size ≤ 6000000 ∧ Hid (y = x ++ mkP (47 :: escL (s.data.toList.take k)))) (fun _ i => s.size - (intOf i).toNat)
      case atStart => exact ⟨0, x ++ mkP [47], Nat.zero_le _, rfl, rfl, by rw [ByteArray.size_append, mkP_size]; have := HXS.out; simp; omega, by show _ = _; simp [escL]⟩
      case round =>
        obtain ⟨k, y, hk, rfl, rfl, hy, HY⟩ := hrel
        by_cases hlk : k < s.size
        · have hlki : (k : Int) < (s.size : Int) := by omega
          obtain ⟨c, hc⟩ : ∃ c, s[k] = c := ⟨_, rfl⟩
          have HN : Hid (x ++ mkP (47 :: escL (s.data.toList.take (k + 1))) = y ++ mkP (escC c)) := by
            show _ = _
            rw [take_snocP s k hlk, escL_snoc, hc, HY.out, ByteArray.append_assoc, mkP_append]
            rfl
          have HSZ : Hid ((y ++ mkP (escC c)).size ≤ 6000000) := by
            show _ ≤ _
            rw [← HN.out, ByteArray.size_append, mkP_size]
            have h1 := escL_length (s.data.toList.take (k + 1))
            have h2 := HXS.out
            simp only [List.length_cons, List.length_take, ByteArray.size_data, Array.length_toList] at h1 ⊢
            omega
          have HE : Hid (s.extract k (k + 1) = mkP [c]) := by show _ = _; rw [extract_one s k hlk, hc]
          have hc8 : (c.toNat : Int) < 256 := by have := c.toNat_lt; omega
          by_cases h126 : c = 126
          · have HQ : Hid (escC c = [126, 48]) := by show _ = _; rw [h126]; rfl
            have e126 : ((c.toNat : Int) == 126) = true := by rw [h126]; rfl
            clear h126
            go_wp2_with fail
            refine ⟨⟨k + 1, y ++ mkP (escC c), by omega, by go_num, ?_, HSZ.out, HN.out.symm⟩, by simp [intOf]; omega⟩
            rw [HQ.out]
            rfl
          have e126 : ((c.toNat : Int) == 126) = false := by
            rw [beq_eq_false_iff_ne]
            intro h
            exact h126 (UInt8.toNat_inj.1 (by show c.toNat = 126; omega))
          by_cases h47 : c = 47
          · have HQ : Hid (escC c = [126, 49]) := by show _ = _; rw [h47]; rfl
            have e47 : ((c.toNat : Int) == 47) = true := by rw [h47]; rfl
            clear h126 h47
            go_wp2_with fail
            refine ⟨⟨k + 1, y ++ mkP (escC c), by omega, by go_num, ?_, HSZ.out, HN.out.symm⟩, by simp [intOf]; omega⟩
            rw [HQ.out]
            rfl
          have e47 : ((c.toNat : Int) == 47) = false := by
            rw [beq_eq_false_iff_ne]
            intro h
            exact h47 (UInt8.toNat_inj.1 (by show c.toNat = 47; omega))
          have HQ : Hid (escC c = [c]) := by show _ = _; simp [escC, h126, h47]
          clear h126 h47
          go_wp2_with fail
          refine ⟨⟨k + 1, y ++ mkP (escC c), by omega, by go_num, ?_, HSZ.out, HN.out.symm⟩, by simp [intOf]; omega⟩
          rw [HQ.out, ← HE.out]
        · obtain rfl : k = s.size := by omega
          go_wp2_with fail
          refine ⟨⟨j + 1, y, by omega, by go_num, rfl, hy, ?_⟩, by simp [intOf]; omega⟩
          show y = _
          have ht : s.data.toList.take s.size = s.data.toList := List.take_of_length_le (by rw [Array.length_toList]; exact Nat.le_refl _)
          rw [HSN.out, HY.out, HX.out, mkP_append, ht]
    · obtain rfl : j = l.length := by omega
      go_wp2_with fail
      go_ret
      exact ⟨ret_stringP (by rw [HX.out, List.take_length]), Below.refl _ _⟩

/-- A builder outlasts what turns nothing that was there. -/
theorem bldAt_below {T e : TypeId} {B b : Nat} {p : Value} {bs : List Value} {w w' : World} (h : Lib.BuilderAt T e B b p bs w) (hb : Below w.heap.size w w') : Lib.BuilderAt T e B b p bs w' := by
  have hlt := h.lt
  obtain ⟨h1, v, h2, h3, h4⟩ := h
  refine ⟨h1, v, by rw [hb.block b hlt]; exact h2, ⟨h3.1, ?_⟩, h4⟩
  rcases h3.2 with q | ⟨g, cap, cur, q1, q2, q3, q4⟩
  · exact Or.inl q
  · have hg : g < w.heap.size := by
      by_cases hx : g < w.heap.size
      · exact hx
      · rw [Array.getElem?_eq_none (by omega)] at q3; simp at q3
    exact Or.inr ⟨g, cap, cur, q1, q2, by rw [hb.block g hg]; exact q3, q4⟩
theorem bld_below {B b : Nat} {l : List UInt8} {w w' : World} (h : Bld B b l w) (hb : Below w.heap.size w w') : Bld B b l w' := by
  rcases h with h | h
  · exact Or.inl (bldAt_below h hb)
  · exact Or.inr (bldAt_below h hb)

/-- The one variable of bytealg that its searches read: whatever it holds. -/
def ML (w : World) : Prop := ∃ m : Int, w.cell? ⟨0, 0, none⟩ = some (.int .i64 m)
theorem ML.on {w w' : World} (h : ML w) (hb : Below w.heap.size w w') : ML w' := by
  obtain ⟨m, hm⟩ := h
  exact ⟨m, cell_on hb hm⟩
theorem repl_any (s : ByteArray) (c a b : UInt8) (w : World) (hm : ML w) (hs : s.size ≤ 6000000) (hne : [a, b] ≠ [c]) :
    Calls Tryd.prog 27 #[.string s, .string (mkP [c]), .string (mkP [a, b])] w fun e w' => e = .returned (.string (mkP (rep1 c [a, b] s.data.toList))) ∧ Below w.heap.size w w' := by
  obtain ⟨m, hm⟩ := hm
  have h1 : Lib.countB s (mkP [c]) * (mkP [c]).size ≤ s.size := Lib.countB_mul_le (mkP [c]) (by rw [mkP_size]; simp) s.size s (Nat.le_refl _)
  rw [mkP_size] at h1
  have h := Tryd.strings_ReplaceAll s (mkP [c]) (mkP [a, b]) m w (by omega) hm (by rw [mkP_size]; simp) (by rw [mkP_size]; simp at h1 ⊢; omega)
  refine h.mono ?_
  rintro e w' ⟨rfl, hb⟩
  refine ⟨ret_stringP ?_, hb⟩
  show mkP (Lib.replaceAll s.data.toList [c] [a, b]) = _
  rw [replaceAll_one c [a, b] s.data.toList hne]

set_option maxHeartbeats 2000000 in
theorem implPointerText_any (l : List ByteArray) (v : Value) (w : World) (hrow : StrRow w 0 l v) (hz : szT l ≤ 3000000) (hm : ML w) :
    Calls Tryd.prog 8 #[v] w fun e w' => e = .returned (.string (mkP (ptL l))) ∧ Below w.heap.size w w' := by
  obtain ⟨a, cap, rfl, hw, hrest⟩ := hrow.len
  have hlen : (l.length : Int) ≤ 140737488351232 := by omega
  have HR : Hid _ := hrest
  have HZ : Hid (szT l ≤ 3000000) := hz
  have HM : Hid (ML w) := hm
  clear hrow hrest hz hm
  go_enter Tryd.func8, Tryd.ntmps8
  go_wp2_with fail
  have HB0 : Hid (Bld w.heap.size w.heap.size [] (w.alloc (Obj.cells #[.pointer none, .slice none 0 0] 50))) := Lib.fresh_isBuilder _ _ w
  go_loopw [8] (fun i wr => ∃ (j : Nat), j ≤ l.length ∧ i = .int .i64 j ∧ Hid (Bld w.heap.size w.heap.size (ptL (l.take j)) wr) ∧ Hid (Below w.heap.size w wr)) (fun i _ => l.length - (intOf i).toNat)
  case atStart => exact ⟨0, Nat.zero_le _, rfl, HB0.out, (Below.refl _ _).alloc (Nat.le_refl _) _⟩
  case round =>
    obtain ⟨j, hj, rfl, HBL, HB⟩ := hrel
    by_cases hlt : j < l.length
    · have hlti : (j : Int) < (l.length : Int) := by omega
      obtain ⟨b, off, rfl, _, hcs⟩ := HR.out (List.ne_nil_of_length_pos (by omega))
      obtain ⟨c0, hs⟩ := hcs j hlt
      have HSN : Hid (ptL (l.take (j + 1)) = ptL (l.take j) ++ 47 :: escL l[j].data.toList) := ptL_snoc hlt
      have hzj : szT (l.take j) + l[j].size + 1 ≤ 3000000 := by
        have h1 := szT_take l (j + 1)
        rw [szT_snoc hlt] at h1
        have h2 := HZ.out
        omega
      have hpl := ptL_length (l.take j)
      clear hcs
      generalize l[j] = s at *
      replace c0 := cell_on HB.out c0
      obtain ⟨P, hP⟩ : ∃ P, ptL (l.take j) = P := ⟨_, rfl⟩
      rw [hP] at HSN HBL hpl
      obtain ⟨r, hr⟩ : ∃ r, rep1 126 [126, 48] s.data.toList = r := ⟨_, rfl⟩
      have hrl : r.length ≤ 2 * s.size := by rw [← hr]; have := rep1_length 126 126 48 s.data.toList; simpa using this
      have HE : Hid (rep1 47 [126, 49] r = escL s.data.toList) := by
        show _ = _
        rw [← hr, ← esc_two, replaceAll_one _ _ _ (by decide), replaceAll_one _ _ _ (by decide)]
      have hel := escL_length s.data.toList
      obtain ⟨q, hq⟩ : ∃ q, escL s.data.toList = q := ⟨_, rfl⟩
      rw [hq] at HSN HE hel
      have hql : q.length ≤ 2 * s.size := by simpa using hel
      have HRS : Hid (rep1 126 [126, 48] s.data.toList = r) := hr
      have hP2 : P.length + q.length + 1 ≤ 100000000 := by omega
      have hsb : s.size ≤ 3000000 := by omega
      clear hr hq hel hP hpl
      go_wp2_with fail
      refine (repl_any s 126 126 48 wr (HM.out.on HB.out) (by omega) (by decide)).mono ?_
      rintro e w1 ⟨rfl, hb1⟩
      rw [HRS.out]
      have HB1 : Hid (Below w.heap.size w w1) := HB.out.trans (hb1.mono HB.out.size)
      have HBL1 : Hid (Bld w.heap.size w.heap.size P w1) := bld_below HBL.out hb1
      clear hb1 HB HBL c0
      go_wp2_with fail
      refine (repl_any (mkP r) 47 126 49 w1 (HM.out.on HB1.out) (by rw [mkP_size]; omega) (by decide)).mono ?_
      rintro e w2 ⟨rfl, hb2⟩
      rw [show (mkP r).data.toList = r by rfl, HE.out]
      have HB2 : Hid (Below w.heap.size w w2) := HB1.out.trans (hb2.mono HB1.out.size)
      have HBL2 : Hid (Bld w.heap.size w.heap.size P w2) := bld_below HBL1.out hb2
      have hqs : (mkP q).size ≤ 6000000 := by rw [mkP_size]; omega
      obtain ⟨Q, hQ⟩ : ∃ Q, mkP q = Q := ⟨_, rfl⟩
      rw [hQ] at hqs ⊢
      have HQ : Hid ((⟨#[47]⟩ ++ Q : ByteArray) = mkP (47 :: q)) := by
        show _ = _
        rw [← hQ]
        exact mkP_append [47] q
      clear hb2 HB1 HBL1 hQ
      go_wp2_with fail
      have hbs := bld_string w.heap.size w.heap.size P (⟨#[47]⟩ ++ Q) w2 HBL2.out (by rw [HQ.out, mkP_size]; simp; omega)
      refine hbs.mono ?_
      rintro e w3 ⟨rfl, h3, hf3⟩
      have HB3 : Hid (Below w.heap.size w w3) := HB2.out.trans hf3.below
      have HBL3 : Hid (Bld w.heap.size w.heap.size (ptL (l.take (j + 1))) w3) := by
        show Bld _ _ _ _
        rw [HSN.out]
        have h4 := h3
        rw [HQ.out] at h4
        exact h4
      clear h3 hf3 hbs HB2 HBL2
      go_wp2_with fail
      exact ⟨⟨j + 1, by omega, by go_num, HBL3, HB3⟩, by simp [intOf]; omega⟩
    · obtain rfl : j = l.length := by omega
      go_wp2_with fail
      refine (Tryd.Builder_String_any w.heap.size w.heap.size (ptL (l.take l.length)) wr HBL.out HB.out.size).mono ?_
      rintro e w1 ⟨rfl, hb1⟩
      have HB1 : Hid (Below w.heap.size w w1) := HB.out.trans hb1
      clear hb1
      go_wp2_with fail
      go_ret
      exact ⟨rfl, HB1.out⟩

end Go.Proofs.YtedeeckbgjalcaaDoor
