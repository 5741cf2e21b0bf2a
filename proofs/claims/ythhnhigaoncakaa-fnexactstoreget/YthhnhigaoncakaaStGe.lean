
/-
  DERIVED. THE WALKS OF (impl.store).cell, impl.StoreGet.
-/
import Derived.Test.YthhnhigaoncakaaBsF
import Derived.Test.YthhnhigaoncakaaStFa
import Derived.Test.YthhnhigaoncakaaStOf
import Derived.Test.YthhnhigaoncakaaTreeGetI
namespace Go.Proofs.Ythhnhigaoncakaa
open Go.RowKit
set_option linter.unusedVariables false
set_option linter.unusedSimpArgs false

/-- The node of a number. -/
def findN (l : List Nd) (id : Int) : Option Nd := l.find? (fun x => x.id == id)
/-- The cell of a node, by its number and name. -/
def getO (l : List Nd) (id : Int) (s : ByteArray) : Option Vl := match findN l id with | some x => treeO x.cells s | none => none
/-- What StoreGet answers. -/
def getV (l : List Nd) (id : Int) (s : ByteArray) : Vl := if storeB l then vlOf (getO l id s) else zeroV

theorem find_hit {l : List Nd} {id : Int} (ha : Asc l) {i : Nat} (hi : i < l.length) (he : l[i].id = id) : findN l id = some l[i] := by
  unfold findN
  rw [List.find?_eq_some_iff_getElem]
  refine ⟨by simp [he], i, hi, rfl, fun j hj => ?_⟩
  have := ha j i hi hj
  simp
  omega
theorem find_none {l : List Nd} {id : Int} (h : ∀ (j : Nat) (hj : j < l.length), l[j].id ≠ id) : findN l id = none := by
  unfold findN
  rw [List.find?_eq_none]
  intro x hx
  obtain ⟨j, hj, rfl⟩ := List.getElem_of_mem hx
  simpa using h j hj

def CelC (k : Nat) (l : List Nd) (id : Int) (s : ByteArray) (w : World) (e : Ending) (w' : World) : Prop :=
  ∃ T x, e = .returned (.iface T x) ∧ FmR w' 0 (k + 1) (vlOf (getO l id s)) (.iface T x) ∧ Below w.heap.size w w'
theorem CelC.no {k : Nat} {l : List Nd} {id : Int} {s : ByteArray} {w w' : World} {e : Ending} (he : e = .returned (.iface 81 (.agg #[]))) (hn : getO l id s = none) (hb : Below w.heap.size w w') : CelC k l id s w e w' := by
  subst he
  refine ⟨_, _, rfl, ?_, hb⟩
  rw [hn]
  exact Or.inl ⟨rfl, rfl⟩

set_option maxHeartbeats 1000000 in
theorem cell_any (k : Nat) (l : List Nd) (tv : Value) (id : Int) (s : ByteArray) (w : World) (hs : s.size ≤ 140737488351232) (hst : storeB l = true) (hrow : ThRow w (k + 1) l tv) :
    Calls Try.prog 18 #[.agg #[tv], .int .i64 id, .string s] w (CelC k l id s w) := by
  obtain ⟨ta, tm, tc, rfl⟩ := Row.slice hrow
  have HS : Hid (∀ W, Keeps 0 w W → ThRow W (k + 1) l (.slice ta tm tc)) := fun W h => hrow.keeps h
  have HA : Hid (Asc l ∧ l.length ≤ 12) := ⟨store_asc hst, store_len hst⟩
  have HC : Hid (∀ (i : Nat) (hi : i < l.length), l[i].cells.kind = 5 ∧ okB false 4 l[i].cells = true) := fun i hi => store_cells hst i hi
  clear hrow hst
  go_enter Try.func18, Try.ntmps18
  go_wp2_with fail
  refine (at_any (k + 1) l _ id _ HA.out.2 HA.out.1 (HS.out _ ((Keeps.refl _ _).alloc _))).mono ?_
  rintro e w1 ⟨hm, hb1⟩
  have HB : Hid (Below w.heap.size w w1) := ((Below.refl _ _).alloc (Nat.le_refl _) _).trans (hb1.mono (by simp))
  clear hb1
  rcases hm with ⟨i, hi, vt, hid, rfl, ⟨va, vm, vc, rfl⟩, hR⟩ | ⟨hno, rfl⟩
  · have HF : Hid (findN l id = some l[i]) := find_hit HA.out.1 hi hid
    obtain ⟨h5, hok⟩ := HC.out i hi
    have HFM : Hid (∀ W, Keeps 0 w1 W → FmR W 0 (k + 2) l[i].cells (.iface 71 (.slice va vm vc))) := fun W h =>
      Or.inr (Or.inr (Or.inr (Or.inr (Or.inr (Or.inl ⟨h5, ok_tree_names h5 hok, _, rfl, Row.keeps h (BrC.keeps h (k + 1)) hR⟩)))))
    have HGO : Hid (getO l id s = treeO l[i].cells s) := by show getO l id s = _; unfold getO; rw [HF.out]
    clear hid hR h5 hok
    go_wp2_with fail
    refine (formWithin_any (k + 1) l[i].cells _ s _ hs (HFM.out _ ((Keeps.refl _ _).alloc _))).mono ?_
    rintro e w2 ⟨hm, hb2⟩
    have HB2 : Hid (Below w.heap.size w w2) := (HB.out.alloc HB.out.size _).trans (hb2.mono (by have := HB.out.size; simp; omega))
    clear hb2
    match ho : treeO l[i].cells s with
    | none =>
      rw [ho] at hm
      have he : e = _ := hm
      subst he
      have HG2 : Hid (getO l id s = none) := HGO.out.trans ho
      clear hm ho
      go_wp2_with fail
      go_ret
      exact CelC.no rfl HG2.out HB2.out
    | some x =>
      rw [ho] at hm
      obtain ⟨f2, he, hfm2⟩ := hm
      subst he
      obtain ⟨T, y, rfl⟩ := FmR.iface hfm2
      have HG2 : Hid (getO l id s = some x) := HGO.out.trans ho
      have HX : Hid (FmR w2 0 (k + 1) x (.iface T y)) := hfm2
      clear ho hfm2
      go_wp2_with fail
      go_ret
      refine ⟨T, y, rfl, ?_, HB2.out⟩
      rw [HG2.out]
      exact HX.out
  · have HG2 : Hid (getO l id s = none) := by show getO l id s = none; unfold getO; rw [find_none hno]
    clear hno
    go_wp2_with fail
    go_ret
    exact CelC.no rfl HG2.out (HB.out.alloc HB.out.size _)

def ImplSG (k : Nat) (l : List Nd) (id : Int) (s : ByteArray) (w : World) (e : Ending) (w' : World) : Prop := ValP (k + 1) (getV l id s) w e w'

theorem get_ok {l : List Nd} {id : Int} {s : ByteArray} (hst : storeB l = true) : okB false 4 (vlOf (getO l id s)) = true := by
  cases ho : getO l id s with
  | none => decide +kernel
  | some x =>
    unfold getO at ho
    cases hf : findN l id with
    | none => rw [hf] at ho; simp at ho
    | some n =>
      rw [hf] at ho
      simp only at ho
      have hm := List.mem_of_find?_eq_some hf
      obtain ⟨i, hi, rfl⟩ := List.getElem_of_mem hm
      obtain ⟨h5, hok⟩ := store_cells hst i hi
      have h6 : treeO l[i].cells s = some x := ho
      unfold treeO at h6
      rw [if_pos h5] at h6
      have hmem := findL_mem _ _ _ _ h6
      rw [okB_succ] at hok
      simp only [Bool.and_eq_true, List.all_eq_true] at hok
      exact okB_mono _ _ (hok.2 x hmem)

set_option maxHeartbeats 1000000 in
theorem implStoreGet_any (k : Nat) (hk : 3 ≤ k) (l : List Nd) (v : Value) (id : Int) (s : ByteArray) (w : World) (hs : s.size ≤ 140737488351232) (hrow : NdRow w 0 (k + 2) l v) :
    Calls Try.prog 7 #[v, .int .i64 id, .string s] w (ImplSG k l id s w) := by
  obtain ⟨na, nm, nc, rfl⟩ := Row.slice hrow
  have HR : Hid (∀ W, Keeps 0 w W → NdRow W 0 (k + 2) l (.slice na nm nc)) := fun W h => hrow.keeps h
  clear hrow
  go_enter Try.func7, Try.ntmps7
  go_wp2_with fail
  refine (storeOf_any (k + 1) l _ _ (HR.out _ ((Keeps.refl _ _).alloc _))).mono ?_
  rintro e w1 ⟨ta, tm, tc, rfl, hT, hb1⟩
  have HO : Hid (Owns w1 w.heap.size #[.int .i64 0, .int .i64 0, .string ⟨#[]⟩, .slice none 0 0, .slice none 0 0] 27) := (Owns.made w _ _).below hb1 (by simp)
  have HB : Hid (Below w.heap.size w w1) := ((Below.refl _ _).alloc (Nat.le_refl _) _).trans (hb1.mono (by simp))
  have r0 : w1.cell? ⟨w.heap.size, 0, none⟩ = some (.int .i64 0) := by rw [HO.out.cell]; rfl
  have r1 : w1.cell? ⟨w.heap.size, 1, none⟩ = some (.int .i64 0) := by rw [HO.out.cell]; rfl
  have r2 : w1.cell? ⟨w.heap.size, 2, none⟩ = some (.string ⟨#[]⟩) := by rw [HO.out.cell]; rfl
  have r3 : w1.cell? ⟨w.heap.size, 3, none⟩ = some (.slice none 0 0) := by rw [HO.out.cell]; rfl
  have r4 : w1.cell? ⟨w.heap.size, 4, none⟩ = some (.slice none 0 0) := by rw [HO.out.cell]; rfl
  have rf := fun o => HO.out.frozen o
  have hrl := HO.out.lt
  clear hb1
  cases hst : storeB l
  · have HV : Hid (getV l id s = zeroV) := by show getV l id s = _; unfold getV; rw [hst]; rfl
    clear hT hst
    go_wp2_with fail
    refine bodyPost_ret (v := .agg #[.int .i64 0, .int .i64 0, .string ByteArray.empty, .slice none 0 0, .slice none 0 0]) (by simp [results, Try.results7, go_sem, hrl, r0, r1, r2, r3, r4]; try rfl) rfl ?_
    unfold ImplSG
    rw [HV.out]
    refine ⟨_, _, rfl, zero_own _ _ _ _ ?_, ?_⟩
    · have := HB.out.size; simp [World.setCell]; omega
    · refine Below.alloc ?_ ?_ _
      · iterate 5 (refine Below.setCell ?_ (by simp) _)
        exact HB.out
      · have := HB.out.size; simp [World.setCell]; omega
  · have HV : Hid (getV l id s = vlOf (getO l id s)) := by show getV l id s = _; unfold getV; rw [hst]; rfl
    have HT : Hid (ThRow w1 (k + 1) l (.slice ta tm tc)) := hT hst
    have HOK : Hid (okB false (k + 1) (vlOf (getO l id s)) = true) := okB_le (by omega) (get_ok hst)
    have HST : Hid (storeB l = true) := hst
    clear hT hst
    go_wp2_with fail
    refine (cell_any k l _ id s _ hs HST.out (HT.out.keeps ((Keeps.refl _ _).alloc _))).mono ?_
    rintro e w2 ⟨T, y, rfl, hfm, hb2⟩
    obtain ⟨X, hX⟩ : ∃ X, vlOf (getO l id s) = X := ⟨_, rfl⟩
    rw [hX] at hfm HOK HV
    obtain ⟨hmt, hcf⟩ := mth_leads hfm
    have HVC : Hid (Calls Try.prog (mth T) #[y] w2 (ValP (k + 1) X w2)) := val_all (k + 1) X T y w2 hfm HOK.out
    have hbA : Below w1.heap.size w1 w2 := ((Below.refl _ w1).alloc (Nat.le_refl _) _).trans (hb2.mono (by simp))
    replace r0 := cell_on hbA r0
    replace r1 := cell_on hbA r1
    replace r2 := cell_on hbA r2
    replace r3 := cell_on hbA r3
    replace r4 := cell_on hbA r4
    replace rf : ∀ o, w2.frozen? ⟨w.heap.size, o, none⟩ = false := fun o => (hbA.frozen (p := ⟨w.heap.size, o, none⟩) hrl).trans (rf o)
    have HB2 : Hid (Below w.heap.size w w2) := HB.out.trans (hbA.mono HB.out.size)
    replace hrl : w.heap.size < w2.heap.size := cell_lt r0
    clear hfm hb2 hbA hX
    go_wp2_with fail
    refine (Hid.out HVC).mono ?_
    rintro e w3 ⟨vl3, vn3, rfl, hO3, hb3⟩
    obtain ⟨p1, n1, p1', n1', hv1⟩ := hO3.cells
    simp only [List.cons.injEq, true_and, and_true] at hv1
    obtain ⟨rfl, rfl⟩ := hv1
    replace r0 := cell_on hb3 r0
    replace r1 := cell_on hb3 r1
    replace r2 := cell_on hb3 r2
    replace r3 := cell_on hb3 r3
    replace r4 := cell_on hb3 r4
    replace rf : ∀ o, w3.frozen? ⟨w.heap.size, o, none⟩ = false := fun o => (hb3.frozen (p := ⟨w.heap.size, o, none⟩) hrl).trans (rf o)
    have HB3 : Hid (Below w.heap.size w w3) := HB2.out.trans (hb3.mono HB2.out.size)
    have hz3 : w.heap.size < w3.heap.size := cell_lt r0
    have HO3 : Hid (VlO w3 (k + 1) w2.heap.size w3.heap.size X [.int .i64 X.kind, .int .i64 X.num, .string X.text, .slice p1 X.list.length n1, .slice p1' X.names.length n1']) := hO3
    clear hb3 hO3
    go_wp2_with fail
    refine bodyPost_ret (v := .agg #[.int .i64 X.kind, .int .i64 X.num, .string X.text, .slice p1 X.list.length n1, .slice p1' X.names.length n1']) (by simp [results, Try.results7, go_sem, hz3, r0, r1, r2, r3, r4]; try rfl) rfl ?_
    unfold ImplSG
    rw [HV.out]
    refine ⟨_, _, rfl, VlO.wide (lo := w2.heap.size) (hi := w3.heap.size) (by have := HB2.out.size; omega) (by simp [World.setCell]) _ _ _ (VlO.same _ _ _ _ _ (fun b h1 h2 => ?_) HO3.out), ((((HB3.out.setCell (by simp) _).setCell (by simp) _).setCell (by simp) _).setCell (by simp) _).setCell (by simp) _⟩
    simp only [World.setCell, Array.getElem?_modify]
    repeat rw [if_neg (by omega)]

end Go.Proofs.Ythhnhigaoncakaa
