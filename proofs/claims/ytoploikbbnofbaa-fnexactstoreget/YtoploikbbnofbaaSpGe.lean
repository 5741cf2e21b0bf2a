
/-
  DERIVED. THE WALKS OF spec.l5At, spec.l5Get, spec.StoreGet.
-/
import Derived.Test.YtoploikbbnofbaaStGe
import Derived.Test.YtoploikbbnofbaaStSp
namespace Go.Proofs.Ytoploikbbnofbaa
open Go.RowKit
set_option linter.unusedVariables false
set_option linter.unusedSimpArgs false

def AtI (l : List Nd) (id : Int) (w : World) (e : Ending) (w' : World) : Prop :=
  ((∃ (i : Nat) (h : i < l.length), (l[i]'h).id = id ∧ e = .returned (.int .i64 (i : Int))) ∨ ((∀ (j : Nat) (h : j < l.length), (l[j]'h).id ≠ id) ∧ e = .returned (.int .i64 (-1)))) ∧ w' = w

set_option maxHeartbeats 1000000 in
theorem l5At_any (k : Nat) (l : List Nd) (v : Value) (id : Int) (w : World) (hrow : NdRow w 0 k l v) :
    Calls Try.prog 31 #[v, .int .i64 id] w (AtI l id w) := by
  obtain ⟨a, cap, rfl, hw, hrest⟩ := Row.len hrow
  have hlen : (l.length : Int) ≤ 140737488351232 := by omega
  clear hrow
  go_enter Try.func31, Try.ntmps31
  go_wp2_with fail
  go_loop [5] (fun i => ∃ j : Nat, j ≤ l.length ∧ i = .int .i64 j ∧ Hid (∀ (m : Nat) (h : m < l.length), m < j → l[m].id ≠ id)) (fun i => l.length - (intOf i).toNat)
  case atStart => exact ⟨0, Nat.zero_le _, rfl, fun _ _ h => absurd h (Nat.not_lt_zero _)⟩
  case round =>
    obtain ⟨j, hj, rfl, HNO⟩ := hrel
    have hjl : (j : Int) ≤ 140737488351232 := by omega
    by_cases hlt : j < l.length
    · have hlti : (j : Int) < (l.length : Int) := by omega
      obtain ⟨b, off, rfl, _, hcs⟩ := hrest (List.ne_nil_of_length_pos (by omega))
      obtain ⟨cs, _, hc, hR⟩ := hcs j hlt
      obtain ⟨p, n, p', n', rfl⟩ := hR.cells
      obtain ⟨c0, _⟩ := hc.seven
      clear hc hR hcs hrest
      by_cases he : l[j].id = id
      · have heb : (l[j].id == id) = true := by simpa using he
        have HE : Hid (l[j].id = id) := he
        clear he
        go_wp2_with fail
        go_ret
        exact ⟨Or.inl ⟨j, hlt, HE.out, rfl⟩, rfl⟩
      · have heb : (l[j].id == id) = false := by simpa using he
        have HNO2 : Hid (∀ (m : Nat) (h : m < l.length), m < j + 1 → l[m].id ≠ id) := fun m h hm => by
          rcases Nat.lt_succ_iff_lt_or_eq.1 hm with h1 | rfl
          · exact HNO.out m h h1
          · exact he
        clear he
        go_wp2_with fail
        exact ⟨⟨j + 1, by omega, by go_num, HNO2⟩, by simp [intOf]; omega⟩
    · have hlti : decide ((j : Int) < (l.length : Int)) = false := decide_eq_false (by omega)
      go_wp2_with fail
      go_ret
      exact ⟨Or.inr ⟨fun m h => HNO.out m h (by omega), rfl⟩, rfl⟩

def SpecSG (k : Nat) (X : Vl) (w : World) (e : Ending) (w' : World) : Prop :=
  ∃ vl vn, e = .returned (.agg #[.int .i64 X.kind, .int .i64 X.num, .string X.text, vl, vn]) ∧ VlQ w' w.heap.size (k + 1) X [.int .i64 X.kind, .int .i64 X.num, .string X.text, vl, vn] ∧ Below w.heap.size w w'

set_option maxHeartbeats 2000000 in
theorem l5Get_any (k : Nat) (l : List Nd) (v : Value) (id : Int) (s : ByteArray) (w : World) (hs : s.size ≤ 140737488351232) (hst : storeB l = true) (hrow : NdRow w 0 (k + 2) l v) :
    Calls Try.prog 15 #[v, .int .i64 id, .string s] w (SpecSG k (vlOf (getO l id s)) w) := by
  obtain ⟨a, cap, rfl, _, _⟩ := Row.len hrow
  have HR : Hid (∀ W, Keeps 0 w W → NdRow W 0 (k + 2) l (.slice a l.length cap)) := fun W h => hrow.keeps h
  have HA : Hid (Asc l) := store_asc hst
  have HC : Hid (∀ (i : Nat) (hi : i < l.length), l[i].cells.kind = 5 ∧ okB false 4 l[i].cells = true) := fun i hi => store_cells hst i hi
  have hl12 : (l.length : Int) ≤ 12 := by have := store_len hst; omega
  clear hrow hst
  go_enter Try.func15, Try.ntmps15
  go_wp2_with fail
  refine (l5At_any (k + 2) l _ id _ (HR.out _ ((Keeps.refl _ _).alloc _))).mono ?_
  rintro e w1 ⟨hm, rfl⟩
  rcases hm with ⟨i, hi, hid, rfl⟩ | ⟨hno, rfl⟩
  · have HF : Hid (findN l id = some l[i]) := find_hit HA.out hi hid
    obtain ⟨h5, hok⟩ := HC.out i hi
    have hnl : l[i].cells.names.length ≤ l[i].cells.list.length := Nat.le_of_eq (ok_tree_names h5 hok)
    have HGO : Hid (getO l id s = treeO l[i].cells s) := by show getO l id s = _; unfold getO; rw [HF.out]
    have hi12 : (i : Int) < (l.length : Int) := by omega
    have hin : decide ((i : Int) < 0) = false := decide_eq_false (by omega)
    obtain ⟨a2, cap2, hv, _, hrest⟩ := Row.len (HR.out _ (((Keeps.refl _ w)).alloc (.cells #[.int .i64 0, .int .i64 0, .string ⟨#[]⟩, .slice none 0 0, .slice none 0 0] 27)))
    simp only [Value.slice.injEq, true_and] at hv
    obtain ⟨rfl, rfl⟩ := hv
    obtain ⟨b, off, rfl, _, hcs⟩ := hrest (List.ne_nil_of_length_pos (by omega))
    obtain ⟨cs, _, hc, hR⟩ := hcs i hi
    obtain ⟨p, n, p', n', rfl⟩ := hR.cells
    obtain ⟨W1, hW1⟩ : ∃ W, W = w.alloc (.cells #[.int .i64 0, .int .i64 0, .string ⟨#[]⟩, .slice none 0 0, .slice none 0 0] 27) := ⟨_, rfl⟩
    have HOR : Hid (Owns W1 w.heap.size #[.int .i64 0, .int .i64 0, .string ⟨#[]⟩, .slice none 0 0, .slice none 0 0] 27) := by rw [hW1]; exact Owns.made w _ _
    have HB1 : Hid (Below w.heap.size w W1) := by rw [hW1]; exact (Below.refl _ _).alloc (Nat.le_refl _) _
    rw [← hW1] at hc hR ⊢
    obtain ⟨c0, c1, c2, c3, c4, c5, c6⟩ := hc.seven
    obtain ⟨_, _, hv, _, _, hV⟩ := hR
    simp only [List.cons.injEq, true_and, and_true] at hv
    obtain ⟨rfl, rfl⟩ := hv
    have HV : Hid (VlR W1 0 (k + 2) l[i].cells [.int .i64 l[i].cells.kind, .int .i64 l[i].cells.num, .string l[i].cells.text, .slice p l[i].cells.list.length n, .slice p' l[i].cells.names.length n']) := hV
    have r0 : W1.cell? ⟨w.heap.size, 0, none⟩ = some (.int .i64 0) := by rw [HOR.out.cell]; rfl
    have r1 : W1.cell? ⟨w.heap.size, 1, none⟩ = some (.int .i64 0) := by rw [HOR.out.cell]; rfl
    have r2 : W1.cell? ⟨w.heap.size, 2, none⟩ = some (.string ⟨#[]⟩) := by rw [HOR.out.cell]; rfl
    have r3 : W1.cell? ⟨w.heap.size, 3, none⟩ = some (.slice none 0 0) := by rw [HOR.out.cell]; rfl
    have r4 : W1.cell? ⟨w.heap.size, 4, none⟩ = some (.slice none 0 0) := by rw [HOR.out.cell]; rfl
    have rf := fun o => HOR.out.frozen o
    have hz1 := HOR.out.lt
    have HW1 : Hid _ := hW1
    clear hc hV hcs hrest hid h5 hok hW1
    go_wp2_with fail
    refine (l1Tree_any (k + 1) l[i].cells _ _ s _ hnl hs HV.out).mono ?_
    rintro e w2 ⟨hm, hb2⟩
    replace r0 := cell_on hb2 r0
    replace r1 := cell_on hb2 r1
    replace r2 := cell_on hb2 r2
    replace r3 := cell_on hb2 r3
    replace r4 := cell_on hb2 r4
    replace rf : ∀ o, w2.frozen? ⟨w.heap.size, o, none⟩ = false := fun o => (hb2.frozen (p := ⟨w.heap.size, o, none⟩) hz1).trans (rf o)
    have HB2 : Hid (Below w.heap.size w w2) := HB1.out.trans (hb2.mono HB1.out.size)
    replace hz1 : w.heap.size < w2.heap.size := cell_lt r0
    have hx : ∃ (x : Vl) (a c a' c' : _), x = vlOf (treeO l[i].cells s) ∧ e = .returned (.tuple #[.agg #[.int .i64 x.kind, .int .i64 x.num, .string x.text, .slice a x.list.length c, .slice a' x.names.length c'], .bool (treeO l[i].cells s).isSome]) ∧ VlR w2 0 (k + 1) x [.int .i64 x.kind, .int .i64 x.num, .string x.text, .slice a x.list.length c, .slice a' x.names.length c'] := by
      cases ho : treeO l[i].cells s with
      | none =>
        rw [ho] at hm
        exact ⟨zeroV, none, 0, none, 0, rfl, hm, zero_read _ _ _⟩
      | some x =>
        rw [ho] at hm
        obtain ⟨vl2, vn2, he, hr⟩ := hm
        obtain ⟨a2, c2, a2', c2', hv2⟩ := hr.cells
        simp only [List.cons.injEq, true_and, and_true] at hv2
        obtain ⟨rfl, rfl⟩ := hv2
        exact ⟨x, a2, c2, a2', c2', rfl, he, hr⟩
    obtain ⟨x, xa, xc, xa', xc', hxe, rfl, hxr⟩ := hx
    have HXE : Hid (vlOf (getO l id s) = x) := by show _ = _; rw [hxe, HGO.out]
    have HXR : Hid (∀ W, Keeps 0 w2 W → VlR W 0 (k + 1) x [.int .i64 x.kind, .int .i64 x.num, .string x.text, .slice xa x.list.length xc, .slice xa' x.names.length xc']) := fun W h => VlR.keeps h _ _ _ hxr
    generalize hso : (treeO l[i].cells s).isSome = so at *
    clear hb2 hm hxe hxr hso c0 c1 c2 c3 c4 c5 c6
    go_wp2_with fail
    refine (copy_all (k + 1) x _ _ _ (HXR.out _ ((Keeps.refl _ _).alloc _))).mono ?_
    rintro e w3 ⟨vl3, vn3, rfl, hI, hb3⟩
    obtain ⟨p1, n1, p1', n1', rfl, rfl⟩ := hI.slices
    have HB23 : Hid (Below w2.heap.size w2 w3) := ((Below.refl _ _).alloc (Nat.le_refl _) _).trans (hb3.mono (by simp))
    replace r0 := cell_on HB23.out r0
    replace r1 := cell_on HB23.out r1
    replace r2 := cell_on HB23.out r2
    replace r3 := cell_on HB23.out r3
    replace r4 := cell_on HB23.out r4
    replace rf : ∀ o, w3.frozen? ⟨w.heap.size, o, none⟩ = false := fun o => (HB23.out.frozen (p := ⟨w.heap.size, o, none⟩) hz1).trans (rf o)
    have HB3 : Hid (Below w.heap.size w w3) := HB2.out.trans (HB23.out.mono HB2.out.size)
    have hz13 : w.heap.size < w3.heap.size := cell_lt r0
    have HI : Hid (VlI w3 (w2.heap.size + 1) w3.heap.size (k + 1) x [.int .i64 x.kind, .int .i64 x.num, .string x.text, .slice p1 x.list.length n1, .slice p1' x.names.length n1']) := size_alloc1 w2 _ ▸ hI
    clear hb3 hI
    go_wp2_with fail
    refine bodyPost_ret (v := .agg #[.int .i64 x.kind, .int .i64 x.num, .string x.text, .slice p1 x.list.length n1, .slice p1' x.names.length n1']) (by simp [results, Try.results15, go_sem, hz13, r0, r1, r2, r3, r4]; try rfl) rfl ?_
    rw [HXE.out]
    refine ⟨_, _, rfl, VlQ.base (base := w2.heap.size + 1) (by have := HB2.out.size; omega) _ _ _ (HI.out _ (fun b h1 h2 => ?_)), ((((HB3.out.setCell (by simp) _).setCell (by simp) _).setCell (by simp) _).setCell (by simp) _).setCell (by simp) _⟩
    simp only [World.setCell, Array.getElem?_modify]
    repeat rw [if_neg (by omega)]
  · have HV : Hid (vlOf (getO l id s) = zeroV) := by show _ = _; unfold getO; rw [find_none hno]; rfl
    clear hno
    go_wp2_with fail
    refine bodyPost_ret (v := .agg #[.int .i64 0, .int .i64 0, .string ByteArray.empty, .slice none 0 0, .slice none 0 0]) (by simp [results, Try.results15, go_sem]; try rfl) rfl ?_
    rw [HV.out]
    exact ⟨_, _, rfl, zero_readQ _ _ _, (Below.refl _ _).alloc (Nat.le_refl _) _⟩

set_option maxHeartbeats 2000000 in
theorem specStoreGet_any (k : Nat) (l : List Nd) (v : Value) (id : Int) (s : ByteArray) (w : World) (hs : s.size ≤ 140737488351232) (hrow : NdRow w 0 (k + 2) l v) :
    Calls Try.prog 5 #[v, .int .i64 id, .string s] w (SpecSG k (getV l id s) w) := by
  have HR : Hid (∀ W, Keeps 0 w W → NdRow W 0 (k + 2) l v) := fun W h => hrow.keeps h
  obtain ⟨a, m, cap, rfl⟩ := Row.slice hrow
  clear hrow
  go_enter Try.func5, Try.ntmps5
  go_wp2_with fail
  refine (specStoreOk_any (k + 2) l _ _ (HR.out _ ((Keeps.refl _ _).alloc _))).mono ?_
  rintro e w1 ⟨rfl, hb1⟩
  have HOR : Hid (Owns w1 w.heap.size #[.int .i64 0, .int .i64 0, .string ⟨#[]⟩, .slice none 0 0, .slice none 0 0] 27) := (Owns.made w _ _).below hb1 (by simp)
  have HB1 : Hid (Below w.heap.size w w1) := ((Below.refl _ _).alloc (Nat.le_refl _) _).trans (hb1.mono (by simp))
  have r0 : w1.cell? ⟨w.heap.size, 0, none⟩ = some (.int .i64 0) := by rw [HOR.out.cell]; rfl
  have r1 : w1.cell? ⟨w.heap.size, 1, none⟩ = some (.int .i64 0) := by rw [HOR.out.cell]; rfl
  have r2 : w1.cell? ⟨w.heap.size, 2, none⟩ = some (.string ⟨#[]⟩) := by rw [HOR.out.cell]; rfl
  have r3 : w1.cell? ⟨w.heap.size, 3, none⟩ = some (.slice none 0 0) := by rw [HOR.out.cell]; rfl
  have r4 : w1.cell? ⟨w.heap.size, 4, none⟩ = some (.slice none 0 0) := by rw [HOR.out.cell]; rfl
  have rf := fun o => HOR.out.frozen o
  have hz1 := HOR.out.lt
  clear hb1
  cases hst : storeB l
  · have HV : Hid (getV l id s = zeroV) := by show getV l id s = _; unfold getV; rw [hst]; rfl
    clear hst
    go_wp2_with fail
    refine bodyPost_ret (v := .agg #[.int .i64 0, .int .i64 0, .string ByteArray.empty, .slice none 0 0, .slice none 0 0]) (by simp [results, Try.results5, go_sem, hz1, r0, r1, r2, r3, r4]; try rfl) rfl ?_
    rw [HV.out]
    exact ⟨_, _, rfl, zero_readQ _ _ _, ((((HB1.out.setCell (by simp) _).setCell (by simp) _).setCell (by simp) _).setCell (by simp) _).setCell (by simp) _⟩
  · have HV : Hid (getV l id s = vlOf (getO l id s)) := by show getV l id s = _; unfold getV; rw [hst]; rfl
    have HST : Hid (storeB l = true) := hst
    clear hst
    go_wp2_with fail
    refine (l5Get_any k l _ id s w1 hs HST.out (HR.out _ (Keeps.of_below HB1.out (Nat.le_refl _) _))).mono ?_
    rintro e w2 ⟨vl2, vn2, rfl, hQ, hb2⟩
    obtain ⟨X, hX⟩ : ∃ X, vlOf (getO l id s) = X := ⟨_, rfl⟩
    rw [hX] at hQ HV ⊢
    obtain ⟨p1, n1, p1', n1', hv1⟩ := (VlQ.read _ _ _ hQ).cells
    simp only [List.cons.injEq, true_and, and_true] at hv1
    obtain ⟨rfl, rfl⟩ := hv1
    replace r0 := cell_on hb2 r0
    replace r1 := cell_on hb2 r1
    replace r2 := cell_on hb2 r2
    replace r3 := cell_on hb2 r3
    replace r4 := cell_on hb2 r4
    replace rf : ∀ o, w2.frozen? ⟨w.heap.size, o, none⟩ = false := fun o => (hb2.frozen (p := ⟨w.heap.size, o, none⟩) hz1).trans (rf o)
    have HB2 : Hid (Below w.heap.size w w2) := HB1.out.trans (hb2.mono HB1.out.size)
    have hz2 : w.heap.size < w2.heap.size := cell_lt r0
    have HQ : Hid (∀ W, Keeps (w.heap.size + 1) w2 W → VlQ W (w.heap.size + 1) (k + 1) X [.int .i64 X.kind, .int .i64 X.num, .string X.text, .slice p1 X.list.length n1, .slice p1' X.names.length n1']) := fun W h => VlQ.keeps h _ _ _ (VlQ.base (by omega) _ _ _ hQ)
    clear hb2 hQ hX
    go_wp2_with fail
    refine bodyPost_ret (v := .agg #[.int .i64 X.kind, .int .i64 X.num, .string X.text, .slice p1 X.list.length n1, .slice p1' X.names.length n1']) (by simp [results, Try.results5, go_sem, hz2, r0, r1, r2, r3, r4]; try rfl) rfl ?_
    rw [HV.out]
    refine ⟨_, _, rfl, VlQ.base (by omega) _ _ _ (HQ.out _ ⟨by simp [World.setCell], fun b h1 h2 => ?_⟩), ((((HB2.out.setCell (by simp) _).setCell (by simp) _).setCell (by simp) _).setCell (by simp) _).setCell (by simp) _⟩
    simp only [World.setCell, Array.getElem?_modify]
    repeat rw [if_neg (by omega)]

end Go.Proofs.Ytoploikbbnofbaa
