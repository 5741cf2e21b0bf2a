
/-
  DERIVED. THE WALKS OF impl.nameOfPointer, impl.PointerGet.
-/
import Derived.Test.YtedeeckbgjalcaaDoorPgP
import Derived.Test.YtedeeckbgjalcaaDoorPtW
import Derived.Test.YtedeeckbgjalcaaDoorVlOwn
namespace Go.Proofs.YtedeeckbgjalcaaDoor
open Go.RowKit
set_option linter.unusedVariables false
set_option linter.unusedSimpArgs false

/-! ### Plain -/
theorem unP_append : ∀ a b : List (List UInt8), unP (a ++ b) = match unP a, unP b with | some x, some y => some (x ++ y) | _, _ => none
  | [], b => by
    simp only [List.nil_append, unP]
    cases unP b <;> rfl
  | [] :: a, b => by simp [unP]
  | (x :: p) :: a, b => by
    simp only [List.cons_append, unP]
    rw [unP_append a b]
    by_cases h0 : x = 48
    · subst h0; cases unP a <;> cases unP b <;> simp
    · by_cases h1 : x = 49
      · subst h1; cases unP a <;> cases unP b <;> simp
      · cases unP a <;> cases unP b <;> simp [h0, h1]
theorem unP_bad {l : List (List UInt8)} {j : Nat} (hj : j < l.length) (h : unP [l[j]] = none) : unP l = none := by
  have h1 : l = l.take j ++ ([l[j]] ++ l.drop (j + 1)) := by
    rw [List.singleton_append, ← List.drop_eq_getElem_cons hj, List.take_append_drop]
  rw [h1, unP_append, unP_append, h]
  cases unP (l.take j) <;> cases unP (l.drop (j + 1)) <;> rfl
theorem unP_snoc {l : List (List UInt8)} {j : Nat} (hj : j < l.length) {D E : List UInt8} (h : unP (l.take j) = some D) (he : unP [l[j]] = some E) : unP (l.take (j + 1)) = some (D ++ E) := by
  rw [List.take_succ_eq_append_getElem hj, unP_append, h, he]
theorem flat_take : ∀ (l : List (List UInt8)) (j : Nat) (h : j < l.length), (l.take j).flatten.length + l[j].length ≤ l.flatten.length := by
  intro l j h
  have h1 : (l.take (j + 1)).flatten.length ≤ l.flatten.length := by
    conv => rhs; rw [← List.take_append_drop (j + 1) l]
    rw [List.flatten_append, List.length_append]
    omega
  rw [List.take_succ_eq_append_getElem h, List.flatten_append, List.length_append] at h1
  simpa using h1
theorem flat_snoc (l : List (List UInt8)) (j : Nat) (h : j < l.length) : (l.take (j + 1)).flatten.length = (l.take j).flatten.length + l[j].length := by
  rw [List.take_succ_eq_append_getElem h, List.flatten_append, List.length_append]
  simp
theorem spl_flat (c : UInt8) : ∀ s : List UInt8, (spl c s).flatten.length ≤ s.length
  | [] => by simp [spl]
  | x :: s => by
    have ih := spl_flat c s
    by_cases hx : x = c
    · subst hx; rw [spl_eq]; simp at ih ⊢; omega
    · obtain ⟨hd, tl, hs⟩ := spl_ne c s
      rw [spl_cons hx hs]
      rw [hs] at ih
      simp at ih ⊢
      omega

/-- What nameOfPointer answers. -/
def nmT (s : List UInt8) : ByteArray := match unE s with | some t => mkP t | none => ⟨#[]⟩
def nmB (s : List UInt8) : Bool := (unE s).isSome

/-- A text cut at a byte, as texts. -/
theorem parts_of (s : ByteArray) (c : UInt8) : ∃ P : List ByteArray, Lib.splitB (mkP [c]) 0 (Lib.countB s (mkP [c])) s = P ∧ P.length = Lib.countB s (mkP [c]) + 1 ∧ P.map (fun x => x.data.toList) = spl c s.data.toList := by
  refine ⟨_, rfl, Lib.splitB_all (mkP [c]) (by rw [mkP_size]; simp) 0 _ s rfl, ?_⟩
  rw [Lib.splitB_data]
  exact split_one c s.data.toList

theorem hasP_cons (x y : UInt8) (p : List UInt8) : Lib.hasPrefix (x :: p) [y] = (y == x) := by simp [Lib.hasPrefix, List.isPrefixOf]
theorem hasP_nil (y : UInt8) : Lib.hasPrefix [] [y] = false := rfl
theorem extract_tail (s : ByteArray) (x : UInt8) (p : List UInt8) (h : s.data.toList = x :: p) : s.extract 1 s.size = mkP p := by
  apply ByteArray.ext
  rw [ByteArray.data_extract]
  apply Array.toList_inj.1
  have hs : s.size = p.length + 1 := by
    show s.data.size = _
    rw [← Array.length_toList, h]; rfl
  rw [Array.toList_extract, h, hs]
  simp [mkP]

set_option maxHeartbeats 4000000 in
theorem nameOf_any (s : ByteArray) (w : World) (hm : ML w) (hs : s.size ≤ 1048576) :
    Calls Tryd.prog 32 #[.string s] w fun e w' => e = .returned (.tuple #[.string (nmT s.data.toList), .bool (nmB s.data.toList)]) ∧ Below w.heap.size w w' := by
  have HM : Hid (ML w) := hm
  obtain ⟨P, hP, hPl, hPd⟩ := parts_of s 126
  obtain ⟨hd, tl, hsp⟩ := spl_ne 126 s.data.toList
  have HFL : Hid (hd.length + tl.flatten.length ≤ 1048576) := by
    show _ ≤ _
    have h1 := spl_flat 126 s.data.toList
    rw [hsp] at h1
    have h2 : s.data.toList.length = s.size := by simp
    simp only [List.flatten_cons, List.length_append] at h1
    omega
  have HUN : Hid (unE s.data.toList = (unP tl).map (hd ++ ·)) := unE_spl _ _ _ hsp
  rw [hsp] at hPd
  have hPn : P.length = tl.length + 1 := by
    have := congrArg List.length hPd
    simpa using this
  have HP0 : Hid (∀ h : 0 < P.length, P[0].data.toList = hd) := fun h => by
    have h1 : (P.map (fun x => x.data.toList))[0]? = some hd := by rw [hPd]; rfl
    rw [List.getElem?_map, List.getElem?_eq_getElem h] at h1
    exact Option.some.inj h1
  have HPJ : Hid (∀ (j : Nat) (h : j + 1 < P.length) (h' : j < tl.length), P[j + 1].data.toList = tl[j]) := fun j h h' => by
    have h1 : (P.map (fun x => x.data.toList))[j + 1]? = some tl[j] := by rw [hPd, List.getElem?_cons_succ, List.getElem?_eq_getElem h']
    rw [List.getElem?_map, List.getElem?_eq_getElem h] at h1
    exact Option.some.inj h1
  have hcb : Lib.countB s (mkP [126]) + 1 = tl.length + 1 := by omega
  have htl : tl.length ≤ 1048576 := by
    have h1 := Lib.countB_mul_le (mkP [126]) (by rw [mkP_size]; simp) s.size s (Nat.le_refl _)
    rw [mkP_size] at h1
    simp at h1
    omega
  have HSP : Hid (∀ W : World, ML W → Calls Tryd.prog 31 #[.string s, .string ⟨#[126]⟩] W fun e w' => e = .returned (.slice (some ⟨W.heap.size, 0, none⟩) (tl.length + 1) (tl.length + 1)) ∧ w' = W.alloc (.cells (P.map Value.string).toArray 9)) := fun W hW => by
    obtain ⟨m, hW⟩ := hW
    have h := Tryd.strings_Split s (mkP [126]) m W (by omega) hW (by rw [mkP_size]; simp)
    rw [hP, hcb] at h
    exact h
  clear hm hP hPl hPd hsp hcb
  go_enter Tryd.func32, Tryd.ntmps32
  go_wp2_with fail
  refine (HSP.out _ (HM.out.on ((Below.refl _ _).alloc (Nat.le_refl _) _))).mono ?_
  rintro e w1 ⟨rfl, rfl⟩
  have hs1 : (w.alloc (Obj.cells #[.pointer none, .slice none 0 0] 50)).heap.size = w.heap.size + 1 := by simp
  rw [hs1]
  obtain ⟨W1, hW1⟩ : ∃ W1, W1 = (w.alloc (Obj.cells #[.pointer none, .slice none 0 0] 50)).alloc (.cells (P.map Value.string).toArray 9) := ⟨_, rfl⟩
  have hO1 : Owns W1 (w.heap.size + 1) (P.map Value.string).toArray 9 := by
    have := Owns.made (w.alloc (Obj.cells #[.pointer none, .slice none 0 0] 50)) (P.map Value.string).toArray 9
    rw [hs1] at this
    rw [hW1]; exact this
  have hB1 : Below w.heap.size w W1 := by rw [hW1]; exact ((Below.refl _ _).alloc (Nat.le_refl _) _).alloc (by rw [hs1]; omega) _
  have hL1 : Bld w.heap.size w.heap.size [] W1 := by
    rw [hW1]
    exact bld_below (Lib.fresh_isBuilder _ _ w) ((Below.refl _ _).alloc (Nat.le_refl _) _)
  have HCELL : Hid (∀ (W : World), Owns W (w.heap.size + 1) (P.map Value.string).toArray 9 → ∀ (j : Nat) (h : j < P.length), W.cell? ⟨w.heap.size + 1, j, none⟩ = some (.string P[j])) := fun W hW j h => by
    rw [hW.cell]
    simp [h]
  have HO1 : Hid (Owns W1 (w.heap.size + 1) (P.map Value.string).toArray 9) := hO1
  have HB1 : Hid (Below w.heap.size w W1) := hB1
  have HL1 : Hid (Bld w.heap.size w.heap.size [] W1) := hL1
  have hp0 : 0 < P.length := by omega
  have c0 := HCELL.out W1 hO1 0 hp0
  have h00 := HP0.out hp0
  rw [← hW1]
  clear hW1 hO1 hB1 hL1 hs1 HP0 HSP
  generalize P[0] = p0 at *
  have hp0s : p0.size = hd.length := by
    show p0.data.size = _
    rw [← Array.length_toList, h00]
  have HP00 : Hid (p0.data.toList = hd) := h00
  clear h00
  have htli : (tl.length : Int) ≤ 1048576 := by omega
  go_wp2_with fail
  refine (bld_string w.heap.size w.heap.size [] p0 W1 HL1.out (by have := HFL.out; simp; omega)).mono ?_
  rintro e w2 ⟨rfl, h2, hf2⟩
  have HL2 : Hid (Bld w.heap.size w.heap.size (hd ++ []) w2) := by
    show Bld _ _ _ _
    rw [HP00.out] at h2
    simpa using h2
  have HB2 : Hid (Below w.heap.size w w2) := HB1.out.trans hf2.below
  have HO2 : Hid (Owns w2 (w.heap.size + 1) (P.map Value.string).toArray 9) := hf2.owns HO1.out (by omega) (by decide)
  clear h2 hf2 HL1 HB1 HO1 c0
  rcases Nat.eq_zero_or_pos tl.length with h0 | hpos
  · obtain rfl : tl = [] := List.eq_nil_of_length_eq_zero h0
    have HG : Hid (unE s.data.toList = some hd) := by
      show _ = _
      rw [HUN.out]
      simp [unP]
    clear h0 HPJ HCELL
    simp only [List.length_nil, Nat.zero_add]
    go_wp2_with fail
    go_loopw [17] (fun i wr => i = .int .i64 0 ∧ Hid (wr = w2)) (fun i _ => 0)
    case atStart => exact ⟨rfl, rfl⟩
    case round =>
      obtain ⟨rfl, HWR⟩ := hrel
      obtain rfl := HWR.out
      clear HWR
      go_wp2_with fail
      refine (Tryd.Builder_String_any w.heap.size w.heap.size (hd ++ []) wr HL2.out HB2.out.size).mono ?_
      rintro e w1 ⟨rfl, hb1⟩
      have HB1 : Hid (Below w.heap.size w w1) := HB2.out.trans hb1
      clear hb1
      go_wp2_with fail
      go_ret2
      refine ⟨?_, HB1.out⟩
      unfold nmT nmB
      rw [HG.out]
      rfl
  · have hne : tl.length ≠ 0 := by omega
    go_wp2_with fail
    go_loopw [17] (fun i wr => ∃ (j : Nat) (D : List UInt8), j ≤ tl.length ∧ i = .int .i64 j ∧ Hid (unP (tl.take j) = some D ∧ D.length = (tl.take j).flatten.length) ∧ Hid (Bld w.heap.size w.heap.size (hd ++ D) wr) ∧ Hid (Below w.heap.size w wr) ∧ Hid (Owns wr (w.heap.size + 1) (P.map Value.string).toArray 9)) (fun i _ => tl.length - (intOf i).toNat)
    case atStart => exact ⟨0, [], Nat.zero_le _, rfl, ⟨rfl, rfl⟩, HL2.out, HB2.out, HO2.out⟩
    case round =>
      obtain ⟨j, D, hj, rfl, HD, HL, HB, HO⟩ := hrel
      by_cases hlt : j < tl.length
      · have hlti : (j : Int) < (tl.length : Int) := by omega
        have hjp : j + 1 < P.length := by omega
        have c0 := HCELL.out wr HO.out (j + 1) hjp
        have hpd := HPJ.out j hjp hlt
        have hfl := flat_take tl j hlt
        have hfs := flat_snoc tl j hlt
        generalize P[j + 1] = q at *
        rw [Nat.add_comm j 1] at c0
        have HQ : Hid (q.data.toList = tl[j]) := hpd
        have HFJ : Hid ((tl.take j).flatten.length + tl[j].length ≤ tl.flatten.length ∧ (tl.take (j + 1)).flatten.length = (tl.take j).flatten.length + tl[j].length) := ⟨hfl, hfs⟩
        clear hpd hfl hfs
        cases htj : tl[j] with
        | nil =>
          have HBAD : Hid (unP tl = none) := unP_bad hlt (by rw [htj]; rfl)
          have H0 : Hid (Lib.hasPrefix q.data.toList [48] = false ∧ Lib.hasPrefix q.data.toList [49] = false) := by
            show _ ∧ _
            rw [HQ.out, htj]; exact ⟨rfl, rfl⟩
          have HC0 : Hid (∀ W, Calls Tryd.prog 45 #[.string q, .string ⟨#[48]⟩] W fun e w' => e = .returned (.bool false) ∧ w' = W) := fun W => by
            have h := Tryd.strings_HasPrefix q ⟨#[48]⟩ W
            rw [show ((⟨#[48]⟩ : ByteArray)).data.toList = [48] by rfl, H0.out.1] at h
            exact h
          have HC1 : Hid (∀ W, Calls Tryd.prog 45 #[.string q, .string ⟨#[49]⟩] W fun e w' => e = .returned (.bool false) ∧ w' = W) := fun W => by
            have h := Tryd.strings_HasPrefix q ⟨#[49]⟩ W
            rw [show ((⟨#[49]⟩ : ByteArray)).data.toList = [49] by rfl, H0.out.2] at h
            exact h
          clear H0 htj HFJ HQ
          go_wp2_with fail
          refine (HC0.out _).mono ?_
          rintro e w3 ⟨rfl, rfl⟩
          go_wp2_with fail
          refine (HC1.out _).mono ?_
          rintro e w4 ⟨rfl, rfl⟩
          go_wp2_with fail
          go_ret2
          refine ⟨?_, HB.out⟩
          unfold nmT nmB
          rw [HUN.out, HBAD.out]
          rfl
        | cons x p =>
          have hqs : q.size = p.length + 1 := by
            show q.data.size = _
            rw [← Array.length_toList, HQ.out, htj]; rfl
          have HT : Hid (q.extract 1 (p.length + 1) = mkP p) := by rw [← hqs]; exact extract_tail q x p (by rw [HQ.out, htj])
          have hpl : p.length ≤ 1048576 := by
            have h1 := HFJ.out.1
            have h2 := HFL.out
            rw [htj] at h1
            simp only [List.length_cons] at h1
            omega
          have hqi : (q.size : Int) ≤ 1048577 := by omega
          have HPF : Hid (∀ (y : UInt8) W, Calls Tryd.prog 45 #[.string q, .string ⟨#[y]⟩] W fun e w' => e = .returned (.bool (y == x)) ∧ W = w') := fun y W => by
            have h := Tryd.strings_HasPrefix q ⟨#[y]⟩ W
            rw [show ((⟨#[y]⟩ : ByteArray)).data.toList = [y] by rfl, HQ.out, htj, hasP_cons] at h
            exact h.mono fun _ _ ⟨a, b⟩ => ⟨a, b.symm⟩
          by_cases hx0 : x = 48
          · subst hx0
            have HSN : Hid (unP (tl.take (j + 1)) = some (D ++ 126 :: p) ∧ (D ++ 126 :: p).length = (tl.take (j + 1)).flatten.length) := by
              refine ⟨unP_snoc hlt HD.out.1 (by rw [htj]; simp [unP]), ?_⟩
              rw [HFJ.out.2, htj, List.length_append, HD.out.2]
              rfl
            have HBL : Hid ((hd ++ D).length + 1 + p.length ≤ 1048576) := by
              show _ ≤ _
              have h1 := HFJ.out.1
              have h2 := HFL.out
              have h3 := HD.out.2
              rw [htj] at h1
              simp only [List.length_cons, List.length_append] at h1 ⊢
              omega
            clear htj HFJ HQ
            go_wp2_with fail
            refine (HPF.out 48 _).mono ?_
            rintro e w3 ⟨rfl, rfl⟩
            go_wp2_with fail
            refine (bld_byte w.heap.size w.heap.size (hd ++ D) 126 _ rfl wr HL.out (by have := HBL.out; omega)).mono ?_
            rintro e w3 ⟨rfl, h3, hf3⟩
            have HL3 : Hid (Bld w.heap.size w.heap.size (hd ++ D ++ [126]) w3) := h3
            have HB3 : Hid (Below w.heap.size w w3) := HB.out.trans hf3.below
            have HO3 : Hid (Owns w3 (w.heap.size + 1) (P.map Value.string).toArray 9) := hf3.owns HO.out (by omega) (by decide)
            clear h3 hf3 HL HB HO c0
            go_wp2_with fail
            rw [HT.out]
            refine (bld_string w.heap.size w.heap.size (hd ++ D ++ [126]) (mkP p) w3 HL3.out (by have := HBL.out; rw [mkP_size]; simp at this ⊢; omega)).mono ?_
            rintro e w4 ⟨rfl, h4, hf4⟩
            have HL4 : Hid (Bld w.heap.size w.heap.size (hd ++ (D ++ 126 :: p)) w4) := by
              show Bld _ _ _ _
              rw [show hd ++ (D ++ 126 :: p) = hd ++ D ++ [126] ++ (mkP p).data.toList by simp [mkP]]
              exact h4
            have HB4 : Hid (Below w.heap.size w w4) := HB3.out.trans hf4.below
            have HO4 : Hid (Owns w4 (w.heap.size + 1) (P.map Value.string).toArray 9) := hf4.owns HO3.out (by omega) (by decide)
            clear h4 hf4 HL3 HB3 HO3
            go_wp2_with fail
            exact ⟨⟨j + 1, D ++ 126 :: p, by omega, by go_num, HSN, HL4, HB4, HO4⟩, by simp [intOf]; omega⟩
          · have hx0' : ((48 : UInt8) == x) = false := by rw [beq_eq_false_iff_ne]; exact fun e => hx0 e.symm
            by_cases hx1 : x = 49
            · subst hx1
              have HSN : Hid (unP (tl.take (j + 1)) = some (D ++ 47 :: p) ∧ (D ++ 47 :: p).length = (tl.take (j + 1)).flatten.length) := by
                refine ⟨unP_snoc hlt HD.out.1 (by rw [htj]; simp [unP]), ?_⟩
                rw [HFJ.out.2, htj, List.length_append, HD.out.2]
                rfl
              have HBL : Hid ((hd ++ D).length + 1 + p.length ≤ 1048576) := by
                show _ ≤ _
                have h1 := HFJ.out.1
                have h2 := HFL.out
                have h3 := HD.out.2
                rw [htj] at h1
                simp only [List.length_cons, List.length_append] at h1 ⊢
                omega
              clear htj HFJ HQ
              go_wp2_with fail
              refine (HPF.out 48 _).mono ?_
              rintro e w3 ⟨rfl, rfl⟩
              rw [hx0']
              go_wp2_with fail
              refine (HPF.out 49 _).mono ?_
              rintro e w3 ⟨rfl, rfl⟩
              go_wp2_with fail
              refine (bld_byte w.heap.size w.heap.size (hd ++ D) 47 _ rfl wr HL.out (by have := HBL.out; omega)).mono ?_
              rintro e w3 ⟨rfl, h3, hf3⟩
              have HL3 : Hid (Bld w.heap.size w.heap.size (hd ++ D ++ [47]) w3) := h3
              have HB3 : Hid (Below w.heap.size w w3) := HB.out.trans hf3.below
              have HO3 : Hid (Owns w3 (w.heap.size + 1) (P.map Value.string).toArray 9) := hf3.owns HO.out (by omega) (by decide)
              clear h3 hf3 HL HB HO c0
              go_wp2_with fail
              rw [HT.out]
              refine (bld_string w.heap.size w.heap.size (hd ++ D ++ [47]) (mkP p) w3 HL3.out (by have := HBL.out; rw [mkP_size]; simp at this ⊢; omega)).mono ?_
              rintro e w4 ⟨rfl, h4, hf4⟩
              have HL4 : Hid (Bld w.heap.size w.heap.size (hd ++ (D ++ 47 :: p)) w4) := by
                show Bld _ _ _ _
                rw [show hd ++ (D ++ 47 :: p) = hd ++ D ++ [47] ++ (mkP p).data.toList by simp [mkP]]
                exact h4
              have HB4 : Hid (Below w.heap.size w w4) := HB3.out.trans hf4.below
              have HO4 : Hid (Owns w4 (w.heap.size + 1) (P.map Value.string).toArray 9) := hf4.owns HO3.out (by omega) (by decide)
              clear h4 hf4 HL3 HB3 HO3
              go_wp2_with fail
              exact ⟨⟨j + 1, D ++ 47 :: p, by omega, by go_num, HSN, HL4, HB4, HO4⟩, by simp [intOf]; omega⟩
            · have hx1' : ((49 : UInt8) == x) = false := by rw [beq_eq_false_iff_ne]; exact fun e => hx1 e.symm
              have HBAD : Hid (unP tl = none) := unP_bad hlt (by rw [htj]; simp [unP, hx0, hx1])
              clear htj HFJ HQ hx0 hx1
              go_wp2_with fail
              refine (HPF.out 48 _).mono ?_
              rintro e w3 ⟨rfl, rfl⟩
              rw [hx0']
              go_wp2_with fail
              refine (HPF.out 49 _).mono ?_
              rintro e w3 ⟨rfl, rfl⟩
              rw [hx1']
              go_wp2_with fail
              go_ret2
              refine ⟨?_, HB.out⟩
              unfold nmT nmB
              rw [HUN.out, HBAD.out]
              rfl
      · obtain rfl : j = tl.length := by omega
        have HG : Hid (unE s.data.toList = some (hd ++ D)) := by
          show _ = _
          have h1 := HD.out.1
          rw [List.take_length] at h1
          rw [HUN.out, h1]
          rfl
        go_wp2_with fail
        refine (Tryd.Builder_String_any w.heap.size w.heap.size (hd ++ D) wr HL.out HB.out.size).mono ?_
        rintro e w1 ⟨rfl, hb1⟩
        have HB1 : Hid (Below w.heap.size w w1) := HB.out.trans hb1
        clear hb1
        go_wp2_with fail
        go_ret2
        refine ⟨?_, HB1.out⟩
        unfold nmT nmB
        rw [HG.out]
        rfl

end Go.Proofs.YtedeeckbgjalcaaDoor
