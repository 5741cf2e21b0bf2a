
/-
  DERIVED. THE WALK OF impl.PointerGet.
-/
import Derived.Test.YtedeeckbgjalcaaDoorPgW
namespace Go.Proofs.YtedeeckbgjalcaaDoor
open Go.RowKit
set_option linter.unusedVariables false
set_option linter.unusedSimpArgs false

theorem unE_len : ∀ (s t : List UInt8), unE s = some t → t.length ≤ s.length
  | [], t, h => by simp [unE] at h; subst h; simp
  | [x], t, h => by
    simp only [unE] at h
    split at h
    · exact absurd h (by simp)
    · simp at h; subst h; simp
  | x :: y :: r, t, h => by
    simp only [unE] at h
    split at h
    · split at h
      · simp only [Option.map_eq_some_iff] at h
        obtain ⟨u, hu, rfl⟩ := h
        have := unE_len r u hu
        simp only [List.length_cons]; omega
      · split at h
        · simp only [Option.map_eq_some_iff] at h
          obtain ⟨u, hu, rfl⟩ := h
          have := unE_len r u hu
          simp only [List.length_cons]; omega
        · exact absurd h (by simp)
    · simp only [Option.map_eq_some_iff] at h
      obtain ⟨u, hu, rfl⟩ := h
      have := unE_len (y :: r) u hu
      simp only [List.length_cons] at this ⊢; omega
theorem allE_bad : ∀ (ns : List (List UInt8)) (j : Nat) (h : j < ns.length), unE ns[j] = none → allE ns = none
  | n :: r, 0, _, h => by simp only [List.getElem_cons_zero] at h; simp [allE, h]
  | n :: r, j + 1, hj, h => by
    have h1 := allE_bad r j (by simpa using hj) (by simpa using h)
    simp only [allE, h1]
    cases unE n <;> rfl
def unD (s : List UInt8) : List UInt8 := (unE s).getD []
theorem allE_all : ∀ (ns : List (List UInt8)), (∀ (j : Nat) (h : j < ns.length), (unE ns[j]).isSome = true) → allE ns = some (ns.map unD)
  | [], _ => rfl
  | n :: r, h => by
    have h1 := allE_all r (fun j hj => by have := h (j + 1) (by simpa using hj); simpa using this)
    have h0 := h 0 (by simp)
    simp only [List.getElem_cons_zero] at h0
    obtain ⟨t, ht⟩ := Option.isSome_iff_exists.1 h0
    simp [allE, h1, ht, unD]
theorem nm_all {ns : List (List UInt8)} {j : Nat} (h : j < ns.length) (hs : (unE ns[j]).isSome = true) : nmT ns[j] = mkP (unD ns[j]) := by
  obtain ⟨t, ht⟩ := Option.isSome_iff_exists.1 hs
  unfold nmT unD
  rw [ht]
  rfl
theorem nmT_size (s : List UInt8) : (nmT s).size ≤ s.length := by
  unfold nmT
  cases h : unE s with
  | none => exact Nat.zero_le _
  | some t => simp only; rw [mkP_size]; exact unE_len s t h

/-- The names, decoded up to place j. -/
def mixP (P : List ByteArray) (j : Nat) : List ByteArray := (P.take j).map (fun s => nmT s.data.toList) ++ P.drop j
theorem mix_len (P : List ByteArray) (j : Nat) : (mixP P j).length = P.length := by
  simp only [mixP, List.length_append, List.length_map, List.length_take, List.length_drop]; omega
theorem mix_at {P : List ByteArray} {j : Nat} (h : j < P.length) : (mixP P j)[j]? = some P[j] := by
  have h1 : ((P.take j).map (fun s => nmT s.data.toList)).length = j := by simp; omega
  rw [mixP, List.getElem?_append_right (by omega), h1, Nat.sub_self, List.getElem?_drop, Nat.add_zero, List.getElem?_eq_getElem h]
theorem mix_set {P : List ByteArray} {j : Nat} (h : j < P.length) : ((mixP P j).map Value.string).toArray.setIfInBounds j (.string (nmT P[j].data.toList)) = ((mixP P (j + 1)).map Value.string).toArray := by
  apply Array.ext'
  simp only [Array.toList_setIfInBounds, List.toList_toArray]
  have h1 : ((P.take j).map (fun s => nmT s.data.toList)).length = j := by simp; omega
  have h2 : mixP P (j + 1) = (P.take j).map (fun s => nmT s.data.toList) ++ nmT P[j].data.toList :: P.drop (j + 1) := by
    rw [mixP, List.take_succ_eq_append_getElem h, List.map_append, List.append_assoc]
    rfl
  have h3 : mixP P j = (P.take j).map (fun s => nmT s.data.toList) ++ P[j] :: P.drop (j + 1) := by
    rw [mixP, List.drop_eq_getElem_cons h]
  rw [h2, h3]
  simp only [List.map_append, List.map_cons]
  rw [List.set_append_right _ _ (by simp only [List.length_map] at h1 ⊢; omega)]
  have h4 : j - ((P.take j).map (fun s => nmT s.data.toList) |>.map Value.string).length = 0 := by simp only [List.length_map] at h1 ⊢; omega
  rw [h4]
  rfl

/-- What PointerGet answers, in w'. -/
def PgC (L : List UInt8) (w : World) (e : Ending) (w' : World) : Prop :=
  Below w.heap.size w w' ∧ ((pgO L = none ∧ e = .returned (.tuple #[.slice none 0 0, .bool false])) ∨
    ∃ ns v, pgO L = some ns ∧ e = .returned (.tuple #[v, .bool true]) ∧ OwnRow w' 9 1 16 StrO 0 0 (ns.map mkP) v ∧ (∀ g, v.ownBlock = some g → w.heap.size ≤ g))

theorem cut_nil : Lib.cut [] [47] = ([], [], false) := by decide
theorem cut_slash (r : List UInt8) : Lib.cut (47 :: r) [47] = ([], r, true) := by
  unfold Lib.cut
  rw [index_one_eq]
  simp
theorem cut_else {x : UInt8} (h : x ≠ 47) (r : List UInt8) : (Lib.cut (x :: r) [47]).2.2 = false ∨ ∃ y t, (Lib.cut (x :: r) [47]).2.2 = true ∧ (Lib.cut (x :: r) [47]).1 = y :: t := by
  unfold Lib.cut
  have hg := Lib.index_ge r [47]
  rw [index_one_ne h]
  by_cases hm : Lib.index r [47] = -1
  · left; rw [hm]; rfl
  · obtain ⟨i, hi⟩ : ∃ i : Nat, Lib.index r [47] = i := ⟨(Lib.index r [47]).toNat, by omega⟩
    have h1 : ((i : Int) == -1) = false := by rw [beq_eq_false_iff_ne]; omega
    rw [hi, h1]
    right
    simp only [Bool.false_eq_true, if_false]
    rw [if_pos (by omega)]
    refine ⟨x, r.take i, rfl, ?_⟩
    have h2 : ((i : Int) + 1).toNat = i + 1 := by omega
    simp only [h2, List.take_succ_cons]

set_option maxHeartbeats 4000000 in
theorem implPointerGet_any (s : ByteArray) (w : World) (hm : ML w) (hs : s.size ≤ 1048576) :
    Calls Tryd.prog 9 #[.string s] w (PgC s.data.toList w) := by
  have HM : Hid (ML w) := hm
  have hsl : s.data.toList.length = s.size := by simp
  have HCUT : Hid (Calls Tryd.prog 30 #[.string s, .string ⟨#[47]⟩] w fun e w' => e = .returned (.tuple #[.string ⟨(Lib.cut s.data.toList [47]).1.toArray⟩, .string ⟨(Lib.cut s.data.toList [47]).2.1.toArray⟩, .bool (Lib.cut s.data.toList [47]).2.2]) ∧ ∃ n, w' = w.drewN n) := by
    obtain ⟨m, hm⟩ := hm
    exact Tryd.strings_Cut s ⟨#[47]⟩ m w (by omega) hm
  clear hm
  have hdrew : ∀ n, Below w.heap.size w (w.drewN n) := fun n => below_drewN (Below.refl _ _) n
  cases hL : s.data.toList with
  | nil =>
    have h0 : s = ⟨#[]⟩ := by
      apply ByteArray.ext
      apply Array.toList_inj.1
      exact hL
    rw [hL, cut_nil] at HCUT
    subst h0
    go_enter Tryd.func9, Tryd.ntmps9
    go_wp2_with fail
    refine (HCUT.out).mono ?_
    rintro e w1 ⟨rfl, n, rfl⟩
    have HB : Hid (Below w.heap.size w (w.drewN n)) := hdrew n
    clear hdrew
    go_wp2_with fail
    go_ret2
    exact ⟨HB.out, Or.inr ⟨[], .slice none 0 0, rfl, rfl, Or.inl ⟨rfl, rfl⟩, fun g hg => by simp [Value.ownBlock] at hg⟩⟩
  | cons x r =>
    by_cases hx : x = 47
    · subst hx
      rw [hL, cut_slash] at HCUT
      rw [hL] at hsl
      simp only [List.length_cons] at hsl
      obtain ⟨P, hP, hPl, hPd⟩ := parts_of (mkP r) 47
      rw [show (mkP r).data.toList = r by rfl] at hPd
      have hrs : (mkP r).size = r.length := mkP_size r
      have HPG : Hid (pgO (47 :: r) = allE (P.map fun x => x.data.toList)) := by show _ = _; rw [hPd]; rfl
      have HFL : Hid (∀ (j : Nat) (h : j < P.length), P[j].size ≤ 1048576) := fun j h => by
        have h1 := spl_flat 47 r
        have h2 := flat_take (spl 47 r) j (by rw [← hPd, List.length_map]; exact h)
        have h3 : (spl 47 r)[j]'(by rw [← hPd, List.length_map]; exact h) = P[j].data.toList := by simp [← hPd]
        rw [h3] at h2
        have h4 : P[j].data.toList.length = P[j].size := by simp
        omega
      have hcb : Lib.countB (mkP r) (mkP [47]) + 1 = P.length := by omega
      have hPs : P.length ≤ 1048577 := by
        have h1 := Lib.countB_mul_le (mkP [47]) (by rw [mkP_size]; simp) (mkP r).size (mkP r) (Nat.le_refl _)
        rw [mkP_size [47]] at h1
        simp at h1
        omega
      have HSP : Hid (∀ W : World, ML W → Calls Tryd.prog 31 #[.string ⟨r.toArray⟩, .string ⟨#[47]⟩] W fun e w' => e = .returned (.slice (some ⟨W.heap.size, 0, none⟩) P.length P.length) ∧ w' = W.alloc (.cells (P.map Value.string).toArray 9)) := fun W hW => by
        obtain ⟨m, hW⟩ := hW
        have h := Tryd.strings_Split (mkP r) (mkP [47]) m W (by omega) hW (by rw [mkP_size]; simp)
        rw [hP, hcb] at h
        exact h
      have hpos : 0 < P.length := by omega
      clear hP hPl hPd hcb
      go_enter Tryd.func9, Tryd.ntmps9
      go_wp2_with fail
      refine (HCUT.out).mono ?_
      rintro e w1 ⟨rfl, n, rfl⟩
      have HB : Hid (Below w.heap.size w (w.drewN n)) := hdrew n
      have hzn : (w.drewN n).heap.size = w.heap.size := rfl
      obtain ⟨W, hW⟩ : ∃ W, w.drewN n = W := ⟨_, rfl⟩
      rw [hW] at HB hzn ⊢
      clear hdrew hW HCUT
      have he0 : (([] : List UInt8).toArray.toList != []) = false := rfl
      go_wp2_with fail
      refine (HSP.out W (HM.out.on HB.out)).mono ?_
      rintro e w2 ⟨rfl, rfl⟩
      rw [hzn]
      obtain ⟨W2, hW2⟩ : ∃ W2, W2 = W.alloc (.cells (P.map Value.string).toArray 9) := ⟨_, rfl⟩
      have HO : Hid (Owns W2 w.heap.size ((mixP P 0).map Value.string).toArray 9) := by
        show Owns _ _ _ _
        have h := Owns.made W (P.map Value.string).toArray 9
        rw [hzn] at h
        rw [hW2, show mixP P 0 = P by simp [mixP]]
        exact h
      have HB2 : Hid (Below w.heap.size w W2) := by rw [hW2]; exact HB.out.alloc (by omega) _
      have hpi : (P.length : Int) ≤ 1048577 := by omega
      rw [← hW2]
      clear hW2 HB hzn HSP
      go_wp2_with fail
      go_loopw [28] (fun i wr => ∃ (j : Nat), j ≤ P.length ∧ i = .int .i64 j ∧ Hid (∀ (k : Nat) (h : k < P.length), k < j → (unE P[k].data.toList).isSome = true) ∧ Hid (Below w.heap.size w wr) ∧ Hid (Owns wr w.heap.size ((mixP P j).map Value.string).toArray 9)) (fun i _ => P.length - (intOf i).toNat)
      case atStart => exact ⟨0, Nat.zero_le _, rfl, fun k _ h => absurd h (Nat.not_lt_zero _), HB2.out, HO.out⟩
      case round =>
        obtain ⟨j, hj, rfl, HU, HBr, HOr⟩ := hrel
        by_cases hlt : j < P.length
        · have hlti : (j : Int) < (P.length : Int) := by omega
          have hat : ((mixP P j).map Value.string).toArray[j]? = some (.string P[j]) := by
            simp [mix_at hlt]
          have c0 : wr.cell? ⟨w.heap.size, j, none⟩ = some (.string P[j]) := by rw [HOr.out.cell]; exact hat
          have HST : Hid (((mixP P j).map Value.string).toArray.setIfInBounds j (.string (nmT P[j].data.toList)) = ((mixP P (j + 1)).map Value.string).toArray) := mix_set hlt
          have HPS : Hid (P[j].size ≤ 1048576) := HFL.out j hlt
          have HPJ : Hid (∀ h : j < P.length, (nmB P[j].data.toList) = (unE P[j].data.toList).isSome) := fun _ => rfl
          have HCL : Hid (∀ W, ML W → Calls Tryd.prog 32 #[.string P[j]] W fun e w' => e = .returned (.tuple #[.string (nmT P[j].data.toList), .bool (nmB P[j].data.toList)]) ∧ Below W.heap.size W w') := fun W hW => nameOf_any P[j] W hW HPS.out
          have HBAD : Hid (nmB P[j].data.toList = false → pgO (47 :: r) = none) := fun h => by
            rw [HPG.out]
            refine allE_bad _ j (by simpa using hlt) ?_
            have h1 : unE P[j].data.toList = none := by
              unfold nmB at h
              cases hu : unE P[j].data.toList with
              | none => rfl
              | some t => rw [hu] at h; simp at h
            simpa using h1
          have HUS : Hid (nmB P[j].data.toList = true → ∀ (k : Nat) (h : k < P.length), k < j + 1 → (unE P[k].data.toList).isSome = true) := fun h k hk hkj => by
            rcases Nat.lt_succ_iff_lt_or_eq.1 hkj with h1 | h1
            · exact HU.out k hk h1
            · subst h1; exact h
          clear hat HPS HPJ
          generalize hq : P[j] = q at *
          generalize hnt : nmT q.data.toList = nt at *
          generalize hnb : nmB q.data.toList = nb at *
          clear hq hnt hnb
          go_wp2_with fail
          refine (HCL.out wr (HM.out.on HBr.out)).mono ?_
          rintro e w3 ⟨rfl, hb3⟩
          have HB3 : Hid (Below w.heap.size w w3) := HBr.out.trans (hb3.mono HBr.out.size)
          have hO3 : Owns w3 w.heap.size ((mixP P j).map Value.string).toArray 9 := HOr.out.below hb3 HOr.out.lt
          have c3 : w3.cell? ⟨w.heap.size, j, none⟩ = some (.string q) := cell_on hb3 c0
          have f3 : w3.frozen? ⟨w.heap.size, j, none⟩ = false := hO3.frozen _
          have HO3 : Hid (Owns (w3.setCell ⟨w.heap.size, j, none⟩ (.string nt)) w.heap.size ((mixP P (j + 1)).map Value.string).toArray 9) := by
            show Owns _ _ _ _
            rw [← HST.out]
            exact hO3.set j (.string nt)
          have HB4 : Hid (Below w.heap.size w (w3.setCell ⟨w.heap.size, j, none⟩ (.string nt))) := HB3.out.setCell (p := ⟨w.heap.size, j, none⟩) (Nat.le_refl _) _
          clear hb3 hO3 HOr c0 HST HBr HCL
          cases nb
          · go_wp2_with fail
            go_ret2
            exact ⟨HB4.out, Or.inl ⟨HBAD.out (by first | rfl | trivial), rfl⟩⟩
          · go_wp2_with fail
            exact ⟨⟨j + 1, by omega, by go_num, HUS.out (by first | rfl | trivial), HB4, HO3⟩, by simp [intOf]; omega⟩
        · obtain rfl : j = P.length := by omega
          have HY : Hid (pgO (47 :: r) = some ((P.map fun x => x.data.toList).map unD)) := by
            show _ = _
            rw [HPG.out]
            refine allE_all _ (fun k hk => ?_)
            have := HU.out k (by simpa using hk) (by simpa using hk)
            simpa using this
          have HE : Hid (mixP P P.length = ((P.map fun x => x.data.toList).map unD).map mkP) := by
            show _ = _
            apply List.ext_getElem
            · simp [mixP]
            · intro k h1 h2
              have hk : k < P.length := by simpa [mixP] using h1
              have h3 := nm_all (ns := P.map fun x => x.data.toList) (j := k) (by simpa using hk) (by simpa using HU.out k hk hk)
              simp [mixP]
              simpa using h3
          have HOW : Hid (OwnRow wr 9 1 16 StrO 0 0 (mixP P P.length) (.slice (some ⟨w.heap.size, 0, none⟩) P.length P.length)) := by
            refine Or.inr ⟨w.heap.size, _, fun _ => 0, by rw [mix_len], by rw [mix_len]; omega, HOr.out, by simp [mix_len], Or.inr (Nat.zero_le _), Nat.le_refl _, Nat.le_refl _, fun _ _ => Nat.le_refl _, fun m hmm => ?_⟩
            have hk : m < P.length := by rw [mix_len] at hmm; exact hmm
            refine ⟨[.string (mixP P P.length)[m]], rfl, fun q hq => ?_, rfl, ?_⟩
            · obtain rfl : q = 0 := by omega
              simp [hmm]
            · have h1 := nmT_size P[m].data.toList
              have h2 := HFL.out m hk
              have h3 : (mixP P P.length)[m] = nmT P[m].data.toList := by simp [mixP, hk]
              have h4 : P[m].data.toList.length = P[m].size := by simp
              rw [h3]
              omega
          have HWL : Hid (w.heap.size ≤ w.heap.size) := Nat.le_refl _
          go_wp2_with fail
          go_ret2
          refine ⟨HBr.out, Or.inr ⟨_, _, HY.out, rfl, ?_, ?_⟩⟩
          · rw [← HE.out]; exact HOW.out
          · intro g hg
            have : g = w.heap.size := by simpa [Value.ownBlock] using hg.symm
            omega
    · have hpn : pgO (x :: r) = none := by simp [pgO, hx]
      have hne : (s.toList == []) = false := by
        rw [beq_eq_false_iff_ne]
        intro h
        have h1 : s.data.toList = [] := by rw [← ByteArray.toList_eq]; exact h
        rw [hL] at h1
        exact absurd h1 (by simp)
      have HPN : Hid (pgO (x :: r) = none) := hpn
      rw [hL] at HCUT
      rcases cut_else hx r with h | ⟨y, t, h1, h2⟩
      · rw [h] at HCUT
        clear hpn hL hsl
        go_enter Tryd.func9, Tryd.ntmps9
        go_wp2_with fail
        refine (HCUT.out).mono ?_
        rintro e w1 ⟨rfl, n, rfl⟩
        have HB : Hid (Below w.heap.size w (w.drewN n)) := hdrew n
        clear hdrew
        go_wp2_with fail
        go_ret2
        exact ⟨HB.out, Or.inl ⟨HPN.out, rfl⟩⟩
      · rw [h1, h2] at HCUT
        have hne2 : ((⟨(y :: t).toArray⟩ : ByteArray).toList != []) = true := by
          rw [bne_iff_ne]
          intro h
          rw [ByteArray.toList_eq] at h
          exact absurd h (by simp)
        clear hpn hL hsl
        go_enter Tryd.func9, Tryd.ntmps9
        go_wp2_with fail
        refine (HCUT.out).mono ?_
        rintro e w1 ⟨rfl, n, rfl⟩
        have HB : Hid (Below w.heap.size w (w.drewN n)) := hdrew n
        clear hdrew
        go_wp2_with fail
        go_ret2
        exact ⟨HB.out, Or.inl ⟨HPN.out, rfl⟩⟩

end Go.Proofs.YtedeeckbgjalcaaDoor
