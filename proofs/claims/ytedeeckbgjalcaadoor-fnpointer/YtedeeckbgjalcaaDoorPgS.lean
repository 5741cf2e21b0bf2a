
/-
  DERIVED. THE WALK OF spec.PointerGet.
-/
import Derived.Test.YtedeeckbgjalcaaDoorPgI
import Derived.Laws.IdiomStrings
import Derived.RegionTactic
import Derived.BigRegion
namespace Go.Proofs.YtedeeckbgjalcaaDoor
open Go.RowKit
set_option linter.unusedVariables false
set_option linter.unusedSimpArgs false

/-- Names that are one's own, being gathered. -/
def NR (B : Nat) (w : World) (g cp : Nat) (ns : List (List UInt8)) : Prop := w.ownsRow B 9 1 (.slice (some ⟨g, 0, none⟩) ns.length cp) ns.length (ns.map fun n => Value.string (mkP n))
theorem NR.lt {B g cp : Nat} {w : World} {ns : List (List UInt8)} (h : NR B w g cp ns) : B ≤ g ∧ g < w.heap.size := World.ownsRow.lt h g rfl
theorem NR.owns {B g cp : Nat} {w : World} {ns : List (List UInt8)} (h : NR B w g cp ns) : ∃ cur : Array Value, Owns w g cur 9 ∧ ns.length ≤ cp ∧ cp ≤ maxLen ∧ cur.size = cp ∧ cur.toList.take ns.length = ns.map fun n => Value.string (mkP n) := by
  obtain ⟨_, h2⟩ := h
  rcases h2 with ⟨e, _⟩ | ⟨g', cp', cur, e, _, h4, h5, h6, h7, h8⟩
  · exact absurd e (by simp)
  · simp only [Value.slice.injEq, Option.some.injEq, Addr.mk.injEq, and_true, true_and] at e
    obtain ⟨rfl, rfl⟩ := e
    exact ⟨cur, h4, h5, h6, by simpa using h7, by simpa using h8⟩
theorem NR.last {B g cp : Nat} {w : World} {init : List (List UInt8)} {l : List UInt8} (h : NR B w g cp (init ++ [l])) : w.cell? ⟨g, init.length, none⟩ = some (.string (mkP l)) ∧ w.frozen? ⟨g, init.length, none⟩ = false := by
  obtain ⟨cur, h1, h2, h3, h4, h5⟩ := h.owns
  refine ⟨?_, h1.frozen _⟩
  rw [h1.cell]
  have h6 := congrArg (fun x => x[init.length]?) h5
  simp only [List.getElem?_take, List.length_append, List.length_cons, List.length_nil, List.map_append, List.map_cons, List.map_nil] at h6
  rw [if_pos (by omega), List.getElem?_append_right (by simp)] at h6
  simpa using h6
theorem NR.put {B g cp : Nat} {w : World} {init : List (List UInt8)} {l l' : List UInt8} (h : NR B w g cp (init ++ [l])) : NR B (w.setCell ⟨g, init.length, none⟩ (.string (mkP l'))) g cp (init ++ [l']) := by
  obtain ⟨cur, h1, h2, h3, h4, h5⟩ := h.owns
  have hl := h.lt
  have hb : B ≤ g := hl.1
  simp only [List.length_append, List.length_cons, List.length_nil, Nat.zero_add] at h2 h5
  refine ⟨by simp, Or.inr ⟨g, cp, cur.setIfInBounds init.length (.string (mkP l')), rfl, hb, h1.set _ _, by simpa using h2, h3, by simp [h4], ?_⟩⟩
  simp only [List.length_append, List.length_cons, List.length_nil, Nat.zero_add, Nat.mul_one, Array.toList_setIfInBounds]
  rw [List.take_set, h5]
  simp
theorem NR.alloc {B g cp : Nat} {w : World} {ns : List (List UInt8)} (h : NR B w g cp ns) (o : Obj) : NR B (w.alloc o) g cp ns := World.ownsRow.alloc h o
theorem NR.row {B g cp : Nat} {w : World} {ns : List (List UInt8)} (h : NR B w g cp ns) (hn : ns.length ≤ 1048577) (hs : ∀ n ∈ ns, n.length ≤ 1048576) : StrRow w 0 (ns.map mkP) (.slice (some ⟨g, 0, none⟩) ns.length cp) := by
  obtain ⟨cur, h1, h2, h3, h4, h5⟩ := h.owns
  refine Or.inr ⟨⟨g, 0, none⟩, cp, by simp, by simpa using h2, h3, by simp; omega, fun i hi => ⟨Nat.zero_le _, rfl, [.string (ns.map mkP)[i]], rfl, fun q hq => ?_, rfl, ?_⟩⟩
  · have hq0 : q = 0 := by simpa using hq
    subst hq0
    simp only [List.length_map] at hi
    show w.cell? ⟨g, 0 + i * 1 + 0, none⟩ = _
    rw [h1.cell]
    have h6 := congrArg (fun x => x[i]?) h5
    simp only [List.getElem?_take, List.getElem?_map] at h6
    rw [if_pos hi] at h6
    simp [hi] at h6 ⊢
    exact h6
  · simp only [List.length_map] at hi
    simp only [List.getElem_map]
    rw [mkP_size]
    have := hs ns[i] (List.getElem_mem hi)
    omega

/-- How much names take. -/
def szN : List (List UInt8) → Nat
  | [] => 0
  | n :: r => n.length + 1 + szN r
theorem szN_append (a b : List (List UInt8)) : szN (a ++ b) = szN a + szN b := by
  induction a with
  | nil => simp [szN]
  | cons x r ih => simp only [List.cons_append, szN, ih]; omega
theorem szN_mem : ∀ (l : List (List UInt8)) (n : List UInt8), n ∈ l → n.length ≤ szN l
  | x :: r, n, h => by
    rcases List.mem_cons.1 h with rfl | h
    · simp only [szN]; omega
    · have := szN_mem r n h; simp only [szN]; omega
theorem szN_len : ∀ l : List (List UInt8), l.length ≤ szN l
  | [] => Nat.le_refl _
  | x :: r => by have := szN_len r; simp only [szN, List.length_cons]; omega
theorem szT_map : ∀ l : List (List UInt8), szT (l.map mkP) = szN l
  | [] => rfl
  | x :: r => by simp only [List.map_cons, szT, szN, mkP_size, szT_map r]
theorem ptL_map (l : List (List UInt8)) : ptL (l.map mkP) = ptLL l := by
  rw [ptL_eq, List.map_map]
  congr 1
  conv => rhs; rw [← List.map_id l]
  rfl

/-- What is read, and what is left. -/
def PgInv (L : List UInt8) (j : Nat) (ns : List (List UInt8)) : Prop :=
  (j = 0 ∧ ns = []) ∨ ∃ r init l, L = 47 :: r ∧ 1 ≤ j ∧ ns = init ++ [l] ∧ finP init l (L.drop j) = (spl 47 r).map leE ∧ szN ns ≤ j
def pgN (L : List UInt8) : List ByteArray := match pgO L with | some ns => ns.map mkP | none => []
/-- What the model's PointerGet answers. -/
def PgSC (L : List UInt8) (w : World) (e : Ending) (w' : World) : Prop :=
  Below w.heap.size w w' ∧ ∃ v, e = .returned (.tuple #[v, .bool (pgO L).isSome]) ∧ StrRow w' 0 (pgN L) v

theorem drop_at (s : ByteArray) (j : Nat) (h : j < s.size) : s.data.toList.drop j = s[j] :: s.data.toList.drop (j + 1) := by
  rw [List.drop_eq_getElem_cons (by simpa using h)]
  rfl
theorem fin_start (r : List UInt8) : finP [] [] r = (spl 47 r).map leE := by
  obtain ⟨hd, tl, hs⟩ := spl_ne 47 r
  simp [finP, hs]
theorem row_none (w : World) (g : Nat) : StrRow w 0 [] (.slice (some ⟨g, 0, none⟩) 0 0) :=
  Or.inr ⟨⟨g, 0, none⟩, 0, rfl, Nat.le_refl _, Nat.zero_le _, by simp, fun i hi => absurd hi (Nat.not_lt_zero _)⟩
theorem toList_mk (l : List UInt8) : (mkP l).toList = l := by rw [ByteArray.toList_eq]; rfl

set_option maxHeartbeats 4000000 in
set_option maxRecDepth 100000 in
theorem specPointerGet_any (s : ByteArray) (w : World) (hs : s.size ≤ 1048576) :
    Calls Tryd.prog 13 #[.string s] w (PgSC s.data.toList w) := by
  obtain ⟨i0, hi0, hz0, hz1, hz2⟩ := info_string
  have hsi : (s.size : Int) ≤ 1048576 := by omega
  go_enter Tryd.func13, Tryd.ntmps13
  go_wp2_with fail
  go_loopw [4, 5] (fun v i wr => ∃ (g cp j : Nat) (ns : List (List UInt8)), v = .slice (some ⟨g, 0, none⟩) ns.length cp ∧ i = .int .i64 j ∧ j ≤ s.size ∧ Hid (NR w.heap.size wr g cp ns) ∧ Hid (PgInv s.data.toList j ns) ∧ Hid (Below w.heap.size w wr)) (fun _ i _ => s.size - (intOf i).toNat)
  case atStart => exact ⟨w.heap.size, 0, 0, [], rfl, rfl, Nat.zero_le _, World.ownsRow_made w #[] 0 (Nat.le_refl _) (Nat.zero_le _) rfl, Or.inl ⟨rfl, rfl⟩, (Below.refl _ _).alloc (Nat.le_refl _) _⟩
  case round =>
    obtain ⟨g, cp, j, ns, rfl, rfl, hj, HN, HI, HB⟩ := hrel
    have hBw : w.heap.size ≤ wr.heap.size := HB.out.size
    have hji : (j : Int) ≤ 1048576 := by omega
    by_cases hlt : j < s.size
    case neg =>
      obtain rfl : j = s.size := by omega
      have hzn : szN ns ≤ 1048576 := by
        rcases HI.out with ⟨_, rfl⟩ | ⟨r, init, l, _, _, _, _, h⟩
        · simp [szN]
        · omega
      have hnl := szN_len ns
      have HROW : Hid (StrRow wr 0 (ns.map mkP) (.slice (some ⟨g, 0, none⟩) ns.length cp)) := HN.out.row (by omega) (fun n hn => by have := szN_mem ns n hn; omega)
      have HPT : Hid (ptL (ns.map mkP) = ptLL ns) := ptL_map ns
      have HZ : Hid (szT (ns.map mkP) ≤ 3000000) := by show _ ≤ _; rw [szT_map]; omega
      have HPO : Hid (pgO s.data.toList = if ptLL ns = s.data.toList then some ns else none) := by
        show _ = _
        rcases HI.out with ⟨h0, rfl⟩ | ⟨r, init, l, hL, _, hns, hf, _⟩
        · have h1 : s.data.toList = [] := by
            apply List.eq_nil_of_length_eq_zero
            simpa using h0
          rw [h1]; rfl
        · have h1 : s.data.toList.drop s.size = [] := List.drop_eq_nil_of_le (by simp)
          rw [h1, fin_end, ← hns] at hf
          rw [hL, pgO_slash, ← hf]
      have hni : (ns.length : Int) ≤ 1048576 := by omega
      clear hnl hzn HI
      go_wp2_with fail
      refine (specPointerText_any _ _ wr HROW.out HZ.out).mono ?_
      rintro e w1 ⟨rfl, hb1⟩
      rw [HPT.out]
      have HB1 : Hid (Below w.heap.size w w1) := HB.out.trans (hb1.mono HB.out.size)
      have HR1 : Hid (StrRow w1 0 (ns.map mkP) (.slice (some ⟨g, 0, none⟩) ns.length cp)) := HROW.out.keeps (Keeps.of_below hb1 (Nat.le_refl _) _)
      obtain ⟨T, hT⟩ : ∃ T, mkP (ptLL ns) = T := ⟨_, rfl⟩
      rw [hT]
      have HTL : Hid (T.toList = ptLL ns) := by show _ = _; rw [← hT, toList_mk]
      clear hb1 HPT HROW hT
      by_cases heq : ptLL ns = s.data.toList
      · have hne : (T.toList == s.toList) = true := by rw [HTL.out, ByteArray.toList_eq, heq]; simp
        have HY : Hid (pgO s.data.toList = some ns) := by show _ = _; rw [HPO.out, if_pos heq]
        clear heq HPO
        go_wp2_with fail
        go_ret2
        exact ⟨HB1.out, .slice (some ⟨g, 0, none⟩) ns.length cp, by rw [HY.out]; rfl, by unfold pgN; rw [HY.out]; exact HR1.out⟩
      · have hne : (T.toList == s.toList) = false := by rw [HTL.out, ByteArray.toList_eq, beq_eq_false_iff_ne]; exact heq
        have HY : Hid (pgO s.data.toList = none) := by show _ = _; rw [HPO.out, if_neg heq]
        have HB2 : ∀ o, Below w.heap.size w (w1.alloc o) := fun o => HB1.out.alloc HB1.out.size o
        clear heq HPO
        go_wp2_with fail
        go_ret2
        exact ⟨HB2 _, .slice (some ⟨w1.heap.size, 0, none⟩) 0 0, by rw [HY.out]; rfl, by unfold pgN; rw [HY.out]; exact row_none _ _⟩
    have hlti : (j : Int) < (s.size : Int) := by omega
    have HD : Hid (s.data.toList.drop j = s[j] :: s.data.toList.drop (j + 1)) := drop_at s j hlt
    obtain ⟨c, hc⟩ : ∃ c, s[j] = c := ⟨_, rfl⟩
    rw [hc] at HD
    have hc8 : (c.toNat : Int) < 256 := by have := c.toNat_lt; omega
    have HAPP : Hid (∀ (w2 : World) (v' : Value) (n : Nat), w2.ownsRow w.heap.size 9 1 v' n ((ns ++ [[]]).map fun x => Value.string (mkP x)) → n = ns.length + 1 → ∃ g' cp', v' = .slice (some ⟨g', 0, none⟩) (ns ++ [[]]).length cp' ∧ NR w.heap.size w2 g' cp' (ns ++ [[]])) := fun w2 v' n h hn => by
      subst hn
      obtain ⟨h1, h2⟩ := h
      rcases h2 with ⟨e, e0⟩ | ⟨g', cp', cur, rfl, h3⟩
      · omega
      · exact ⟨g', cp', by simp, by rw [NR, List.length_append]; exact ⟨by simp, Or.inr ⟨g', cp', cur, rfl, h3⟩⟩⟩
    by_cases h0 : j = 0
    · have hns : ns = [] := by
        rcases HI.out with ⟨_, h⟩ | ⟨r, init, l, _, h, _⟩
        · exact h
        · omega
      subst hns
      subst h0
      have hdr : s.data.toList = c :: s.data.toList.drop 1 := by have := HD.out; simpa using this
      have HDR : Hid (s.data.toList = c :: s.data.toList.drop 1) := hdr
      clear hdr HI HD
      by_cases h47 : c = 47
      · subst h47
        have e47 : (((47 : UInt8).toNat : Int) == 47) = true := rfl
        have n47 : (((47 : UInt8).toNat : Int) != 47) = false := rfl
        go_wp2_with (at_builtin; refine wpList_append_own _ rfl _ _ 23 rfl w.heap.size 9 i0 (.string ByteArray.empty) 1 16 Tryd.underlying23 hi0 hz0 hz1 hz2 rfl (by decide) _ _ _ rfl (World.ownsRow.alloc HN.out _) ⟨wr.heap.size, 0, none⟩ 1 1 [.string ⟨#[]⟩] rfl rfl (World.news_of_block (cs := #[.string ⟨#[]⟩]) (t := 9) (fr := (0, 0)) (heap_alloc_new wr _)) (by simp [Value.oneCell']) (by first | omega | (unfold maxLen; omega) | (simp [maxLen]; done)) (by first | omega | (simp; done)) (by first | omega | (simp; done) | (simp; omega)) ?_)
        intro v' w2 hown hgrow hnn
        obtain ⟨g', cp', rfl, HN'⟩ := HAPP.out w2 v' _ hown rfl
        have HB2 : Hid (Below w.heap.size w w2) := (HB.out.alloc hBw _).grown hgrow (by simp; omega) (fun k hk => (World.ownsRow.lt HN.out k hk).1)
        have HN2 : Hid (NR w.heap.size w2 g' cp' ([] ++ [[]])) := HN'
        have HI2 : Hid (PgInv s.data.toList 1 ([] ++ [[]])) := Or.inr ⟨s.data.toList.drop 1, [], [], HDR.out, Nat.le_refl _, rfl, fin_start _, by simp [szN]⟩
        clear hown hgrow hnn HN' HN HB HAPP
        go_wp2_with fail
        exact ⟨⟨g', cp', 1, [] ++ [[]], by simp, by go_num, by omega, HN2, HI2, HB2⟩, by simp [intOf]; omega⟩
      · have n47 : ((c.toNat : Int) != 47) = true := by
          rw [bne_iff_ne]
          intro h
          exact h47 (UInt8.toNat_inj.1 (by show c.toNat = 47; omega))
        have HY : Hid (pgO s.data.toList = none) := by show _ = _; rw [HDR.out]; simp [pgO, h47]
        have HB2 : ∀ o, Below w.heap.size w (wr.alloc o) := fun o => HB.out.alloc hBw o
        clear h47
        go_wp2_with fail
        go_ret2
        exact ⟨HB2 _, .slice (some ⟨wr.heap.size, 0, none⟩) 0 0, by rw [HY.out]; rfl, by unfold pgN; rw [HY.out]; exact row_none _ _⟩
    · have hj0 : ((j : Int) == 0) = false := by rw [beq_eq_false_iff_ne]; omega
      obtain ⟨r, init, l, hL, hj1, hns, hf, hz⟩ : ∃ r init l, s.data.toList = 47 :: r ∧ 1 ≤ j ∧ ns = init ++ [l] ∧ finP init l (s.data.toList.drop j) = (spl 47 r).map leE ∧ szN ns ≤ j := by
        rcases HI.out with ⟨h, _⟩ | h
        · exact absurd h h0
        · exact h
      subst hns
      have HL : Hid (s.data.toList = 47 :: r) := hL
      have hzi : szN init + (l.length + 1) ≤ j := by rw [szN_append] at hz; simpa [szN] using hz
      rw [HD.out] at hf
      obtain ⟨R, hR⟩ : ∃ R, s.data.toList.drop (j + 1) = R := ⟨_, rfl⟩
      rw [hR] at hf
      have hil : init.length ≤ 1048576 := by have := szN_len init; omega
      have hili : (init.length : Int) ≤ 1048576 := by omega
      have hll : l.length ≤ 1048576 := by omega
      have HR : Hid (s.data.toList.drop (j + 1) = R) := hR
      have HLA := HN.out.last
      have hlen : (init ++ [l]).length = init.length + 1 := by simp
      have HLEN : Hid ((init ++ [l]).length = init.length + 1) := hlen
      clear hL hR HI HD h0 hz
      by_cases h47 : c = 47
      · subst h47
        have e47 : (((47 : UInt8).toNat : Int) == 47) = true := rfl
        rw [fin_slash] at hf
        have HI2 : Hid (PgInv s.data.toList (j + 1) (init ++ [l] ++ [[]])) := Or.inr ⟨r, init ++ [l], [], HL.out, by omega, rfl, by rw [HR.out]; exact hf, by simp [szN_append, szN]; omega⟩
        have HMM : Hid (List.map (fun x => Value.string (mkP x)) (init ++ [l] ++ [[]]) = init.map (fun n => Value.string (mkP n)) ++ [Value.string (mkP l), Value.string ⟨#[]⟩]) := by show _ = _; simp [mkP]
        clear hf
        rw [hlen]
        clear hlen
        go_wp2_with (at_builtin; refine wpList_append_own _ rfl _ _ 23 rfl w.heap.size 9 i0 (.string ByteArray.empty) 1 16 Tryd.underlying23 hi0 hz0 hz1 hz2 rfl (by decide) _ _ _ (by rw [HLEN.out]; rfl) (World.ownsRow.alloc HN.out _) ⟨wr.heap.size, 0, none⟩ 1 1 [.string ⟨#[]⟩] rfl rfl (World.news_of_block (cs := #[.string ⟨#[]⟩]) (t := 9) (fr := (0, 0)) (heap_alloc_new wr _)) (by simp [Value.oneCell']) (by rw [HLEN.out]; unfold maxLen; omega) (by rw [HLEN.out]; omega) (by simp; omega) ?_)
        intro v' w2 hown hgrow hnn
        obtain ⟨g', cp', rfl, HN'⟩ := HAPP.out w2 v' (init.length + 1 + 1) (by rw [HMM.out]; exact hown) (by rw [HLEN.out])
        have HB2 : Hid (Below w.heap.size w w2) := (HB.out.alloc hBw _).grown hgrow (by simp; omega) (fun k hk => (World.ownsRow.lt HN.out k hk).1)
        have HN2 : Hid (NR w.heap.size w2 g' cp' (init ++ [l] ++ [[]])) := HN'
        clear hown hgrow hnn HN' HN HB HAPP HLA
        go_wp2_with fail
        exact ⟨⟨g', cp', j + 1, init ++ [l] ++ [[]], rfl, by go_num, by omega, HN2, HI2, HB2⟩, by simp [intOf]; omega⟩
      have e47 : ((c.toNat : Int) == 47) = false := by
        rw [beq_eq_false_iff_ne]
        intro h
        exact h47 (UInt8.toNat_inj.1 (by show c.toNat = 47; omega))
      have HB2 : Hid (∀ v, Below w.heap.size w (wr.setCell ⟨g, init.length, none⟩ v)) := fun v => HB.out.setCell (p := ⟨g, init.length, none⟩) HN.out.lt.1 v
      have HN2 : Hid (∀ l', NR w.heap.size (wr.setCell ⟨g, init.length, none⟩ (.string (mkP l'))) g cp (init ++ [l'])) := fun l' => HN.out.put
      obtain ⟨hla, hfz⟩ := HLA
      have hmk : (mkP l).size ≤ 1048576 := by rw [mkP_size]; exact hll
      have HMK : Hid (∀ z, mkP l ++ mkP [z] = mkP (l ++ [z])) := fun z => mkP_append l [z]
      rw [hlen]
      clear hlen
      by_cases htwo : ∃ d, c = 126 ∧ ∃ h : j + 1 < s.size, s[j + 1] = d ∧ (d = 48 ∨ d = 49)
      · obtain ⟨d, rfl, hn, hd, h4⟩ := htwo
        have hni : (j : Int) + 1 < (s.size : Int) := by omega
        have e126 : (((126 : UInt8).toNat : Int) == 126) = true := rfl
        have hR2 : R = d :: s.data.toList.drop (j + 1 + 1) := by rw [← HR.out, drop_at s (j + 1) hn, hd]
        rw [hR2] at hf
        rcases h4 with rfl | rfl
        · rw [fin_two init l _ 48 126 (Or.inl ⟨rfl, rfl⟩)] at hf
          have HI2 : Hid (PgInv s.data.toList (j + 1 + 1) (init ++ [l ++ [126]])) := Or.inr ⟨r, init, l ++ [126], HL.out, by omega, rfl, hf, by rw [szN_append]; simp [szN]; omega⟩
          clear hf hR2 HR HAPP
          go_wp2_with fail
          exact ⟨⟨g, cp, j + 1 + 1, init ++ [l ++ [126]], by simp, by go_num, by omega, (by show NR _ _ _ _ _; have := HN2.out (l ++ [126]); rw [← HMK.out] at this; exact this), HI2, HB2.out _⟩, by simp [intOf]; omega⟩
        · rw [fin_two init l _ 49 47 (Or.inr ⟨rfl, rfl⟩)] at hf
          have HI2 : Hid (PgInv s.data.toList (j + 1 + 1) (init ++ [l ++ [47]])) := Or.inr ⟨r, init, l ++ [47], HL.out, by omega, rfl, hf, by rw [szN_append]; simp [szN]; omega⟩
          clear hf hR2 HR HAPP
          go_wp2_with fail
          exact ⟨⟨g, cp, j + 1 + 1, init ++ [l ++ [47]], by simp, by go_num, by omega, (by show NR _ _ _ _ _; have := HN2.out (l ++ [47]); rw [← HMK.out] at this; exact this), HI2, HB2.out _⟩, by simp [intOf]; omega⟩
      · have hcond : c = 126 → ∀ y t, R = y :: t → y ≠ 48 ∧ y ≠ 49 := fun h126 y t hRt => by
          have hn : j + 1 < s.size := by
            by_cases hx : j + 1 < s.size
            · exact hx
            · have h1 : s.data.toList.drop (j + 1) = [] := List.drop_eq_nil_of_le (by simp; omega)
              rw [HR.out, hRt] at h1
              exact absurd h1 (by simp)
          have h1 := drop_at s (j + 1) hn
          rw [HR.out, hRt] at h1
          simp only [List.cons.injEq] at h1
          exact ⟨fun e => htwo ⟨y, h126, hn, h1.1.symm, Or.inl e⟩, fun e => htwo ⟨y, h126, hn, h1.1.symm, Or.inr e⟩⟩
        rw [fin_one init l R c h47 hcond] at hf
        have HI2 : Hid (PgInv s.data.toList (j + 1) (init ++ [l ++ [c]])) := Or.inr ⟨r, init, l ++ [c], HL.out, by omega, rfl, by rw [HR.out]; exact hf, by rw [szN_append]; simp [szN]; omega⟩
        have HE : Hid (s.extract j (j + 1) = mkP [c]) := by show _ = _; rw [extract_one s j hlt, hc]
        have HN3 : Hid (NR w.heap.size (wr.drew.setCell ⟨g, init.length, none⟩ (.string (mkP l ++ s.extract j (j + 1)))) g cp (init ++ [l ++ [c]])) := by
          show NR _ _ _ _ _
          have := HN2.out (l ++ [c])
          rw [← HMK.out, ← HE.out] at this
          exact this
        have HB3 : Hid (Below w.heap.size w (wr.drew.setCell ⟨g, init.length, none⟩ (.string (mkP l ++ s.extract j (j + 1))))) := Below.drew (HB2.out _)
        have hes : (s.extract j (j + 1)).size = 1 := by rw [HE.out, mkP_size]; rfl
        clear hf hcond HAPP
        by_cases h126 : c = 126
        · have e126 : ((c.toNat : Int) == 126) = true := by rw [h126]; rfl
          by_cases hn : j + 1 < s.size
          · have hni : (j : Int) + 1 < (s.size : Int) := by omega
            obtain ⟨d, hd⟩ : ∃ d, s[j + 1] = d := ⟨_, rfl⟩
            have e48 : ((d.toNat : Int) == 48) = false := by
              rw [beq_eq_false_iff_ne]
              intro h
              exact htwo ⟨d, h126, hn, hd, Or.inl (UInt8.toNat_inj.1 (by show d.toNat = 48; omega))⟩
            have e49 : ((d.toNat : Int) == 49) = false := by
              rw [beq_eq_false_iff_ne]
              intro h
              exact htwo ⟨d, h126, hn, hd, Or.inr (UInt8.toNat_inj.1 (by show d.toNat = 49; omega))⟩
            clear htwo h47 h126
            go_wp2_with fail
            go_region
            all_goals
              go_wp2_with fail
              exact ⟨⟨g, cp, j + 1, init ++ [l ++ [c]], by simp, by go_num, by omega, HN3.out, HI2, HB3.out⟩, by simp [intOf]; omega⟩
          · have hni : ¬ (j : Int) + 1 < (s.size : Int) := by omega
            have hnd : decide ((j : Int) + 1 < (s.size : Int)) = false := decide_eq_false hni
            clear htwo h47 h126
            go_wp2_with fail
            go_region
            all_goals
              go_wp2_with fail
              exact ⟨⟨g, cp, j + 1, init ++ [l ++ [c]], by simp, by go_num, by omega, HN3.out, HI2, HB3.out⟩, by simp [intOf]; omega⟩
        · have e126 : ((c.toNat : Int) == 126) = false := by
            rw [beq_eq_false_iff_ne]
            intro h
            exact h126 (UInt8.toNat_inj.1 (by show c.toNat = 126; omega))
          clear htwo h47 h126
          go_wp2_with fail
          go_region
          all_goals
            go_wp2_with fail
            exact ⟨⟨g, cp, j + 1, init ++ [l ++ [c]], by simp, by go_num, by omega, HN3.out, HI2, HB3.out⟩, by simp [intOf]; omega⟩

end Go.Proofs.YtedeeckbgjalcaaDoor
