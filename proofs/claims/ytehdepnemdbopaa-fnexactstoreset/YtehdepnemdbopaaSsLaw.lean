
/-
  DERIVED. laws.FnExactStoreSet: its walk out of the contracts.
-/
import Derived.Test.YtehdepnemdbopaaStSs
import Derived.Test.YtehdepnemdbopaaStWc
import Derived.Test.YtehdepnemdbopaaNdMq
import Derived.Test.YtehdepnemdbopaaNdTo
import Derived.Test.YtehdepnemdbopaaNdEq
import Derived.Test.YtehdepnemdbopaaMkOne
namespace Go.Proofs.Ytehdepnemdbopaa
open Go.RowKit
set_option linter.unusedVariables false
set_option linter.unusedSimpArgs false

theorem SetP.det {l : List Nd} {id : Int} {s : ByteArray} {t : Vl} {p p' : List Nd × Bool} (h : SetP l id s t p) (h' : SetP l id s t p') : p = p' := by
  rcases h with ⟨hs, h⟩ | ⟨hs, rfl⟩
  · rcases h' with ⟨_, h'⟩ | ⟨hs', _⟩
    · have ha := store_asc hs
      rcases h with ⟨i, hi, e1, rfl⟩ | ⟨hno, rfl⟩
      · rcases h' with ⟨j, hj, e2, rfl⟩ | ⟨hno, rfl⟩
        · obtain rfl : i = j := by
            rcases Nat.lt_trichotomy i j with h | h | h
            · have := ha i j hj h; omega
            · exact h
            · have := ha j i hi h; omega
          rfl
        · exact absurd e1 (hno i hi)
      · rcases h' with ⟨j, hj, e2, rfl⟩ | ⟨_, rfl⟩
        · exact absurd e2 (hno j hj)
        · rfl
    · rw [hs] at hs'; simp at hs'
  · rcases h' with ⟨hs', _⟩ | ⟨_, rfl⟩
    · rw [hs] at hs'; simp at hs'
    · rfl

theorem cntS_set (c : Vl → Nat) : ∀ (l : List Vl) (p : Nat) (x : Vl), cntS c (l.set p x) ≤ cntS c l + c x
  | [], _, _ => by simp [cntS]
  | y :: l, 0, x => by simp only [List.set_cons_zero, cntS]; omega
  | y :: l, p + 1, x => by have := cntS_set c l p x; simp only [List.set_cons_succ, cntS]; omega
theorem cntNs_set (f : Nat) : ∀ (l : List Nd) (i : Nat) (h : i < l.length) (y : Nd), cntNs f (l.set i y) + cntN f l[i] = cntNs f l + cntN f y
  | [], _, h, _ => by simp at h
  | x :: l, 0, _, y => by simp only [List.set_cons_zero, cntNs, List.getElem_cons_zero]; omega
  | x :: l, i + 1, h, y => by have := cntNs_set f l i (by simpa using h) y; simp only [List.set_cons_succ, cntNs, List.getElem_cons_succ]; omega
theorem setV_cnt (f : Nat) {c c' t : Vl} {s : ByteArray} (h : setV c s t = some c') : cntS (cntE f) c'.list + c'.names.length ≤ cntS (cntE f) c.list + c.names.length + cntE f t + 1 := by
  unfold setV at h
  split at h
  · simp only [Option.some.injEq] at h
    subst h
    have := cntS_set (cntE f) c.list ‹_› t
    show cntS (cntE f) (c.list.set _ t) + c.names.length ≤ _
    omega
  · split at h
    · simp at h
    · simp only [Option.some.injEq] at h
      subst h
      show cntS (cntE f) (c.list ++ [t]) + (c.names ++ [s]).length ≤ _
      rw [cntS_append, List.length_append]
      simp only [cntS, List.length_cons, List.length_nil]
      omega
theorem set_cnt (f : Nat) {l : List Nd} {id : Int} {s : ByteArray} {t : Vl} {p : List Nd × Bool} (h : SetP l id s t p) : p.1.length ≤ l.length ∧ cntNs f p.1 ≤ cntNs f l + cntE f t + 1 := by
  rcases h with ⟨_, h⟩ | ⟨_, rfl⟩
  · rcases h with ⟨i, hi, _, rfl⟩ | ⟨_, rfl⟩
    · unfold setAt
      split
      · cases hv : setV l[i].cells s t with
        | none => exact ⟨Nat.le_refl _, by show cntNs f l ≤ _; omega⟩
        | some c =>
          have h1 := setV_cnt f hv
          have h2 := cntNs_set f l i hi { l[i] with cells := c }
          have h3 : cntN f { l[i] with cells := c } = cntS (cntE f) c.list + c.names.length := rfl
          have h4 : cntN f l[i] = cntS (cntE f) l[i].cells.list + l[i].cells.names.length := rfl
          refine ⟨by simp, ?_⟩
          show cntNs f (l.set i { l[i] with cells := c }) ≤ _
          omega
      · exact ⟨Nat.le_refl _, by show cntNs f l ≤ _; omega⟩
    · exact ⟨Nat.le_refl _, by show cntNs f l ≤ _; omega⟩
  · exact ⟨Nat.zero_le _, by simp [cntNs]⟩

set_option maxHeartbeats 4000000 in
set_option maxRecDepth 100000 in
theorem law_walk (k : Nat) (hk3 : 2 ≤ k) (l : List Nd) (t : Vl) (v vl vn : Value) (id : Int) (s : ByteArray) (w : World) (hs : s.size ≤ 140737488351232) (hrow : NdRow w 0 (k + 2) l v) (hv : VlR w 0 (k + 1) t [.int .i64 t.kind, .int .i64 t.num, .string t.text, vl, vn]) :
    Calls Try.prog 5 #[v, .int .i64 id, .string s, .agg #[.int .i64 t.kind, .int .i64 t.num, .string t.text, vl, vn]] w fun e w' => e = .returned (.bool true) ∧ Below w.heap.size w w' := by
  obtain ⟨a, cap, rfl, hw, _⟩ := Row.len hrow
  obtain ⟨va, vc, va', vc', hvv⟩ := hv.cells
  simp only [List.cons.injEq, true_and, and_true] at hvv
  obtain ⟨rfl, rfl⟩ := hvv
  have HR : Hid (∀ W, Keeps 0 w W → NdRow W 0 (k + 2) l (.slice a l.length cap)) := fun W h => NdRow.keeps h hrow
  have HV : Hid (∀ W, Keeps 0 w W → VlR W 0 (k + 1) t [.int .i64 t.kind, .int .i64 t.num, .string t.text, .slice va t.list.length vc, .slice va' t.names.length vc']) := fun W h => VlR.keeps h _ _ _ hv
  clear hrow hv hw
  by_cases hbig : 1048576 < s.size
  · have hbi : (1048576 : Int) < (s.size : Int) := by omega
    go_enter Try.func5, Try.ntmps5
    go_wp2_with fail
    go_ret
    exact ⟨rfl, (Below.refl _ _).alloc (Nat.le_refl _) _⟩
  have hbi : decide ((1048576 : Int) < (s.size : Int)) = false := decide_eq_false (by omega)
  go_enter Try.func5, Try.ntmps5
  go_wp2_with fail
  obtain ⟨wA, hwA⟩ : ∃ W, W = w.alloc (Obj.cells #[.int .i64 t.kind, .int .i64 t.num, .string t.text, .slice va t.list.length vc, .slice va' t.names.length vc'] 25) := ⟨_, rfl⟩
  rw [← hwA]
  have HOA : Hid (Owns wA w.heap.size #[.int .i64 t.kind, .int .i64 t.num, .string t.text, .slice va t.list.length vc, .slice va' t.names.length vc'] 25) := by rw [hwA]; exact Owns.made _ _ _
  have HBA : Hid (Below w.heap.size w wA) := by rw [hwA]; exact (Below.refl _ _).alloc (Nat.le_refl _) _
  clear hwA
  have HCV : Hid (∀ W, Below wA.heap.size wA W → (W.cell? ⟨w.heap.size, 0, none⟩ = some (.int .i64 t.kind) ∧ W.cell? ⟨w.heap.size, 1, none⟩ = some (.int .i64 t.num) ∧ W.cell? ⟨w.heap.size, 2, none⟩ = some (.string t.text) ∧ W.cell? ⟨w.heap.size, 3, none⟩ = some (.slice va t.list.length vc) ∧ W.cell? ⟨w.heap.size, 4, none⟩ = some (.slice va' t.names.length vc'))) := fun W h => (HOA.out.below h HOA.out.lt).five
  have HKW : Hid (∀ W, Below wA.heap.size wA W → Keeps 0 w W) := fun W h => Keeps.of_below (HBA.out.trans (h.mono HBA.out.size)) (Nat.le_refl _) 0
  refine (szNodeS_any (k + 1) l _ _ _ (HR.out _ (HKW.out _ (Below.refl _ _))) (by omega) (by omega)).mono ?_
  rintro e w1 ⟨r1, rfl, hr1, hr2, hr3, hb1⟩
  have HB1 : Hid (Below wA.heap.size wA w1) := hb1
  clear hb1
  by_cases hneg : r1 < 0
  · go_wp2_with fail
    go_ret
    exact ⟨rfl, HBA.out.trans (HB1.out.mono HBA.out.size)⟩
  obtain ⟨c0, c1, c2, c3, c4⟩ := HCV.out _ HB1.out
  have hneg' : decide (r1 < 0) = false := decide_eq_false hneg
  go_wp2_with fail
  refine ((szC_all k).1 t _ _ _ _ (HV.out _ (HKW.out _ HB1.out)) (by omega) (by omega)).mono ?_
  rintro e w2 ⟨r2, rfl, hs1, hs2, hs3, hb2⟩
  have HB2 : Hid (Below wA.heap.size wA w2) := HB1.out.trans (hb2.mono HB1.out.size)
  clear hb2 c0 c1 c2 c3 c4
  by_cases hneg2 : r2 < 0
  · go_wp2_with fail
    go_ret
    exact ⟨rfl, HBA.out.trans (HB2.out.mono HBA.out.size)⟩
  have hneg2' : decide (r2 < 0) = false := decide_eq_false hneg2
  have HCNT : Hid (cntNs (k + 1) l + 3 * l.length + cntS (cntE k) t.list + t.names.length ≤ 3145728) := by
    have h1 := hr3 (by omega)
    have h2 := hs3 (by omega)
    show _ ≤ _
    push_cast at h1 h2
    omega
  clear hr3 hs3
  obtain ⟨c0, c1, c2, c3, c4⟩ := HCV.out _ HB2.out
  have HT1 : Hid (Calls Try.prog 18 #[.slice a l.length cap] w2.drew (fun e w' => ∃ a1 n1 c1, e = .returned (.slice a1 n1 c1) ∧ (w'.cell? ⟨w.heap.size, 0, none⟩ = some (.int .i64 t.kind) ∧ w'.cell? ⟨w.heap.size, 1, none⟩ = some (.int .i64 t.num) ∧ w'.cell? ⟨w.heap.size, 2, none⟩ = some (.string t.text) ∧ w'.cell? ⟨w.heap.size, 3, none⟩ = some (.slice va t.list.length vc) ∧ w'.cell? ⟨w.heap.size, 4, none⟩ = some (.slice va' t.names.length vc')) ∧ Hid (NdRow w' 0 (k + 2) l (.slice a1 n1 c1)) ∧ Hid (Below wA.heap.size wA w'))) := by
    refine (toNodeS_any (k + 2) l _ _ (HR.out _ (HKW.out _ HB2.out.drew))).mono ?_
    rintro e w' ⟨v', rfl, hO, hA, hb⟩
    have hr := NdOwn.read hO (fun _ _ => Nat.zero_le _) (Nat.zero_le _)
    obtain ⟨a1, n1, c1, rfl⟩ := Row.slice hr
    have hb' : Below wA.heap.size wA w' := HB2.out.drew.trans (hb.mono HB2.out.size)
    exact ⟨a1, n1, c1, rfl, HCV.out _ hb', hr, hb'⟩
  have HT2 : Hid (∀ W, Below wA.heap.size wA W → Calls Try.prog 8 #[.agg #[.int .i64 t.kind, .int .i64 t.num, .string t.text, .slice va t.list.length vc, .slice va' t.names.length vc']] W (fun e w' => ∃ p1 n1 p1' n1', e = .returned (.agg #[.int .i64 t.kind, .int .i64 t.num, .string t.text, .slice p1 t.list.length n1, .slice p1' t.names.length n1']) ∧ (w'.cell? ⟨w.heap.size, 0, none⟩ = some (.int .i64 t.kind) ∧ w'.cell? ⟨w.heap.size, 1, none⟩ = some (.int .i64 t.num) ∧ w'.cell? ⟨w.heap.size, 2, none⟩ = some (.string t.text) ∧ w'.cell? ⟨w.heap.size, 3, none⟩ = some (.slice va t.list.length vc) ∧ w'.cell? ⟨w.heap.size, 4, none⟩ = some (.slice va' t.names.length vc')) ∧ Hid (VlR w' 0 (k + 1) t [.int .i64 t.kind, .int .i64 t.num, .string t.text, .slice p1 t.list.length n1, .slice p1' t.names.length n1']) ∧ Hid (Keeps 0 W w') ∧ Hid (Below wA.heap.size wA w'))) := fun W h => by
    refine ((toO_all (k + 1)).1 t _ _ _ (HV.out _ (HKW.out _ h))).mono ?_
    rintro e w' ⟨vl1, vn1, rfl, hO1, hb1⟩
    obtain ⟨p1, n1, p1', n1', hv1⟩ := hO1.cells
    simp only [List.cons.injEq, true_and, and_true] at hv1
    obtain ⟨rfl, rfl⟩ := hv1
    have hb' : Below wA.heap.size wA w' := h.trans (hb1.mono h.size)
    exact ⟨p1, n1, p1', n1', rfl, HCV.out _ hb', VlR.base (Nat.zero_le _) _ _ _ (VlO.read _ _ _ _ _ hO1), Keeps.of_below hb1 (Nat.le_refl _) 0, hb'⟩
  have HT3 : Hid (∀ (W : World) (av : Value) (p1 : Option Addr) (n1 : Nat) (p1' : Option Addr) (n1' : Nat), Below wA.heap.size wA W → NdRow W 0 (k + 2) l av → VlR W 0 (k + 1) t [.int .i64 t.kind, .int .i64 t.num, .string t.text, .slice p1 t.list.length n1, .slice p1' t.names.length n1'] → Calls Try.prog 17 #[av, .int .i64 id, .string s, .agg #[.int .i64 t.kind, .int .i64 t.num, .string t.text, .slice p1 t.list.length n1, .slice p1' t.names.length n1']] W (fun e w' => ∃ X pb ra rn rc, e = .returned (.tuple #[.slice ra rn rc, .bool pb]) ∧ (w'.cell? ⟨w.heap.size, 0, none⟩ = some (.int .i64 t.kind) ∧ w'.cell? ⟨w.heap.size, 1, none⟩ = some (.int .i64 t.num) ∧ w'.cell? ⟨w.heap.size, 2, none⟩ = some (.string t.text) ∧ w'.cell? ⟨w.heap.size, 3, none⟩ = some (.slice va t.list.length vc) ∧ w'.cell? ⟨w.heap.size, 4, none⟩ = some (.slice va' t.names.length vc')) ∧ Hid (SetP l id s t (X, pb)) ∧ Hid (NdRow w' 0 (k + 2) X (.slice ra rn rc)) ∧ Hid (Below wA.heap.size wA w'))) := fun W av p1 n1 p1' n1' h hr hv => by
    refine (specStoreSet_any (k + 1) l t av _ _ id s W hs hr hv).mono ?_
    rintro e w' ⟨p, rv, hset, rfl, hrow, hb⟩
    obtain ⟨ra, rn, rc, rfl⟩ := Row.slice hrow
    have hb' : Below wA.heap.size wA w' := h.trans (hb.mono h.size)
    exact ⟨p.1, p.2, ra, rn, rc, rfl, HCV.out _ hb', hset, NdRow.base (Nat.zero_le _) hrow, hb'⟩
  go_wp2_with fail
  go_region_held3 (fun w' => (w'.cell? ⟨w.heap.size, 0, none⟩ = some (.int .i64 t.kind) ∧ w'.cell? ⟨w.heap.size, 1, none⟩ = some (.int .i64 t.num) ∧ w'.cell? ⟨w.heap.size, 2, none⟩ = some (.string t.text) ∧ w'.cell? ⟨w.heap.size, 3, none⟩ = some (.slice va t.list.length vc) ∧ w'.cell? ⟨w.heap.size, 4, none⟩ = some (.slice va' t.names.length vc'))) (go_keep) (first | (go_at_call 18; refine (Hid.out HT1).mono ?_; rintro e w3 ⟨a1, n1, cp1, rfl, ⟨i0, i1, i2, i3, i4⟩, HN1, HB3⟩) | (go_at_call 8; refine (Hid.out HT2 _ (Hid.out HB3)).mono ?_; rintro e w4 ⟨p2, n2, p2', n2', rfl, ⟨j0, j1, j2, j3, j4⟩, HV2, HK34, HB4⟩) | (go_at_call 17; refine (Hid.out HT3 _ _ _ _ _ _ (Hid.out HB4) (NdRow.keeps (Hid.out HK34) (Hid.out HN1)) (Hid.out HV2)).mono ?_; rintro e wC ⟨X, pb, ra, rn, rc, rfl, ⟨k0, k1, k2, k3, k4⟩, HSET, HRC0, HBC⟩))
  clear c0 c1 c2 c3 c4 i0 i1 i2 i3 i4 j0 j1 j2 j3 j4 k0 k1 k2 k3 k4 HN1 HB3 HV2 HK34 HB4 HT1 HT3
  have HRC : Hid (∀ W, Below wC.heap.size wC W → NdRow W 0 (k + 2) X (.slice ra rn rc)) := fun W h => NdRow.keeps (Keeps.of_below h (Nat.le_refl _) 0) HRC0.out
  clear HRC0
  go_wp2_with fail
  refine (toNodeS_any (k + 2) l _ wC (HR.out _ (HKW.out _ HBC.out))).mono ?_
  rintro e wD ⟨vD, rfl, hOD, hAD, hbD⟩
  obtain ⟨aD, hvD, _⟩ := OwnRow.len hOD
  subst hvD
  have HOD : Hid (NdOwn wD (k + 2) (wC.heap.size + 1) wD.heap.size l (.slice aD l.length l.length)) := hOD
  have HAD : Hid (∀ b, At (.slice aD l.length l.length) b → b = wC.heap.size ∧ wC.heap.size < wD.heap.size) := hAD
  have HBD : Hid (Below wC.heap.size wC wD) := hbD
  have hCD : wC.heap.size ≤ wD.heap.size := hbD.size
  have HBAD : Hid (Below wA.heap.size wA wD) := HBC.out.trans (hbD.mono HBC.out.size)
  have hAC : wA.heap.size ≤ wC.heap.size := HBC.out.size
  clear hOD hAD hbD
  obtain ⟨c0, c1, c2, c3, c4⟩ := HCV.out _ HBAD.out
  go_wp2_with fail
  refine ((toO_all (k + 1)).1 t _ _ wD (HV.out _ (HKW.out _ HBAD.out))).mono ?_
  rintro e wE ⟨vlE, vnE, rfl, hOE, hbE⟩
  obtain ⟨xa, xc, xa', xc', hvE⟩ := hOE.cells
  simp only [List.cons.injEq, true_and, and_true] at hvE
  obtain ⟨rfl, rfl⟩ := hvE
  have hDE : wD.heap.size ≤ wE.heap.size := hbE.size
  obtain ⟨wF, hwF⟩ : ∃ W, W = wE.alloc (Obj.cells #[.int .i64 t.kind, .int .i64 t.num, .string t.text, .slice xa t.list.length xc, .slice xa' t.names.length xc'] 29) := ⟨_, rfl⟩
  have HSZF : Hid (wF.heap.size = wE.heap.size + 1) := by rw [hwF]; show (wE.alloc _).heap.size = _; simp
  have HOX : Hid (Owns wF wE.heap.size #[.int .i64 t.kind, .int .i64 t.num, .string t.text, .slice xa t.list.length xc, .slice xa' t.names.length xc'] 29) := by rw [hwF]; exact Owns.made _ _ _
  have HBDF : Hid (Below wD.heap.size wD wF) := by
    show Below _ _ _
    rw [hwF]
    exact hbE.alloc hbE.size _
  have HVX : Hid (VlO wF (k + 1) wD.heap.size wE.heap.size t [.int .i64 t.kind, .int .i64 t.num, .string t.text, .slice xa t.list.length xc, .slice xa' t.names.length xc']) := by
    show VlO _ _ _ _ _ _
    rw [hwF]
    exact VlO.same _ _ _ _ _ (fun b _ h2 => Below.heap_alloc _ _ _ h2) hOE
  clear hOE hbE c0 c1 c2 c3 c4
  go_wp2_with fail
  rw [← hwF]
  clear hwF
  have HBAF : Hid (Below wA.heap.size wA wF) := HBAD.out.trans (HBDF.out.mono HBAD.out.size)
  have HBCF : Hid (Below wC.heap.size wC wF) := HBD.out.trans (HBDF.out.mono HBD.out.size)
  have hEF : wE.heap.size < wF.heap.size := HOX.out.lt
  have HXW : Hid (∀ W, (∀ y, wC.heap.size ≤ y → y < wD.heap.size → W.heap[y]? = wF.heap[y]?) → NdOwn W (k + 2) (wC.heap.size + 1) wD.heap.size l (.slice aD l.length l.length)) := fun W h => by
    have h9 : ∀ y, wC.heap.size ≤ y → y < wD.heap.size → W.heap[y]? = wD.heap[y]? := fun y h1 h2 => (h y h1 h2).trans (HBDF.out.block y h2)
    exact OwnRow.same HOD.out (fun y hy => h9 y (by have := HAD.out y hy; omega) (by have := HAD.out y hy; omega)) (fun a b x cs ha hb hx => hx.same (fun y y1 y2 => h9 y (by omega) (by omega)))
  have HVW : Hid (∀ W, (∀ y, wD.heap.size ≤ y → y < wE.heap.size → W.heap[y]? = wF.heap[y]?) → VlO W (k + 1) wD.heap.size wE.heap.size t [.int .i64 t.kind, .int .i64 t.num, .string t.text, .slice xa t.list.length xc, .slice xa' t.names.length xc']) := fun W h => VlO.same _ _ _ _ _ h HVX.out
  clear HOD HVX
  refine (implStoreSet_any (k + 1) (by omega) l t _ _ _ id s wF hs (NdOwn.read (HXW.out _ (fun _ _ _ => rfl)) (fun _ _ => Nat.zero_le _) (Nat.zero_le _)) (VlR.base (Nat.zero_le _) _ _ _ (VlO.read _ _ _ _ _ (HVW.out _ (fun _ _ _ => rfl))))).mono ?_
  rintro e wG ⟨p, v', lo, hset, rfl, hlo, hown, hat, hbG⟩
  obtain rfl : p = (X, pb) := SetP.det hset HSET.out
  obtain ⟨aG, hvG, _⟩ := OwnRow.len hown
  subst hvG
  have HFG : Hid (Below wF.heap.size wF wG) := hbG
  have hFG : wF.heap.size ≤ wG.heap.size := hbG.size
  have HAT : Hid (∀ b, At (.slice aG X.length X.length) b → b = lo ∧ lo < wG.heap.size) := hat
  have HGW : Hid (∀ W, (∀ y, lo ≤ y → y < wG.heap.size → W.heap[y]? = wG.heap[y]?) → NdOwn W (k + 2) (lo + 1) wG.heap.size X (.slice aG X.length X.length)) := fun W h =>
    OwnRow.same hown (fun y hy => h y (by have := hat y hy; omega) (by have := hat y hy; omega)) (fun a b x cs ha hb hx => hx.same (fun y y1 y2 => h y (by omega) (by omega)))
  have HCX : Hid (1 + 5 * X.length + cntNs (k + 1) X ≤ 99999990 ∧ 1 + 5 * l.length + cntNs (k + 1) l + cntS (cntE k) t.list + t.names.length ≤ 99999990) := by
    have h1 := set_cnt (k + 1) HSET.out
    have h2 := HCNT.out
    have h3 : cntE (k + 1) t = 3 + cntS (cntE k) t.list + t.names.length := rfl
    show _ ∧ _
    simp only at h1
    omega
  clear hset hown hat hbG HCNT
  go_wp2_with fail
  refine (eqNodeS_any (k + 2) X _ _ wG (NdOwn.read (HGW.out _ (fun _ _ _ => rfl)) (fun _ _ => Nat.zero_le _) (Nat.zero_le _)) (HRC.out _ (HBCF.out.trans (HFG.out.mono HBCF.out.size)))).mono ?_
  rintro e wH ⟨rfl, hbH⟩
  have HGH : Hid (Below wG.heap.size wG wH) := hbH
  have HFH : Hid (Below wF.heap.size wF wH) := HFG.out.trans (hbH.mono HFG.out.size)
  clear hbH
  have hpb : (pb != pb) = false := by simp
  go_wp2_with fail
  have HAH : Hid (Below wA.heap.size wA wH) := HBAF.out.trans (HFH.out.mono HBAF.out.size)
  refine (toNodeS_any (k + 2) l _ wH (HR.out _ (HKW.out _ HAH.out))).mono ?_
  rintro e wI ⟨vI, rfl, hOI, _, hbI⟩
  have HRI : Hid (NdRow wI 0 (k + 2) l vI) := NdOwn.read hOI (fun _ _ => Nat.zero_le _) (Nat.zero_le _)
  have HFI : Hid (Below wF.heap.size wF wI) := HFH.out.trans (hbI.mono HFH.out.size)
  have HGI : Hid (Below wG.heap.size wG wI) := HGH.out.trans (hbI.mono HGH.out.size)
  clear hOI hbI HGH HFH HAH
  go_wp2_with fail
  refine (eqNodeS_any (k + 2) l _ vI wI (NdOwn.read (HXW.out _ (fun y _ h2 => HFI.out.block y (by omega))) (fun _ _ => Nat.zero_le _) (Nat.zero_le _)) HRI.out).mono ?_
  rintro e wJ ⟨rfl, hbJ⟩
  have HFJ : Hid (Below wF.heap.size wF wJ) := HFI.out.trans (hbJ.mono HFI.out.size)
  have HGJ : Hid (Below wG.heap.size wG wJ) := HGI.out.trans (hbJ.mono HGI.out.size)
  have HAJ : Hid (Below wA.heap.size wA wJ) := HBAF.out.trans (HFJ.out.mono HBAF.out.size)
  clear hbJ HGI HFI HRI
  have HCELLS : Hid (∀ W, Below wJ.heap.size wJ W → (W.cell? ⟨w.heap.size, 0, none⟩ = some (.int .i64 t.kind) ∧ W.cell? ⟨w.heap.size, 1, none⟩ = some (.int .i64 t.num) ∧ W.cell? ⟨w.heap.size, 2, none⟩ = some (.string t.text) ∧ W.cell? ⟨w.heap.size, 3, none⟩ = some (.slice va t.list.length vc) ∧ W.cell? ⟨w.heap.size, 4, none⟩ = some (.slice va' t.names.length vc')) ∧ (W.cell? ⟨wE.heap.size, 0, none⟩ = some (.int .i64 t.kind) ∧ W.cell? ⟨wE.heap.size, 1, none⟩ = some (.int .i64 t.num) ∧ W.cell? ⟨wE.heap.size, 2, none⟩ = some (.string t.text) ∧ W.cell? ⟨wE.heap.size, 3, none⟩ = some (.slice xa t.list.length xc) ∧ W.cell? ⟨wE.heap.size, 4, none⟩ = some (.slice xa' t.names.length xc'))) := fun W h =>
    ⟨HCV.out _ (HAJ.out.trans (h.mono HAJ.out.size)), (HOX.out.below (HFJ.out.trans (h.mono HFJ.out.size)) HOX.out.lt).five⟩
  have HE18 : Hid (∀ (w1 : World) (p1 : Option Addr) (n1 : Nat) (p1' : Option Addr) (n1' : Nat), Hid (VlR w1 0 (k + 1) t [.int .i64 t.kind, .int .i64 t.num, .string t.text, .slice p1 t.list.length n1, .slice p1' t.names.length n1']) → Hid (Below wJ.heap.size wJ w1) → Calls Try.prog 10 #[.agg #[.int .i64 t.kind, .int .i64 t.num, .string t.text, .slice xa t.list.length xc, .slice xa' t.names.length xc'], .agg #[.int .i64 t.kind, .int .i64 t.num, .string t.text, .slice p1 t.list.length n1, .slice p1' t.names.length n1']] w1 (fun e w2 => e = .returned (.bool true) ∧ ((w2.cell? ⟨w.heap.size, 0, none⟩ = some (.int .i64 t.kind) ∧ w2.cell? ⟨w.heap.size, 1, none⟩ = some (.int .i64 t.num) ∧ w2.cell? ⟨w.heap.size, 2, none⟩ = some (.string t.text) ∧ w2.cell? ⟨w.heap.size, 3, none⟩ = some (.slice va t.list.length vc) ∧ w2.cell? ⟨w.heap.size, 4, none⟩ = some (.slice va' t.names.length vc')) ∧ (w2.cell? ⟨wE.heap.size, 0, none⟩ = some (.int .i64 t.kind) ∧ w2.cell? ⟨wE.heap.size, 1, none⟩ = some (.int .i64 t.num) ∧ w2.cell? ⟨wE.heap.size, 2, none⟩ = some (.string t.text) ∧ w2.cell? ⟨wE.heap.size, 3, none⟩ = some (.slice xa t.list.length xc) ∧ w2.cell? ⟨wE.heap.size, 4, none⟩ = some (.slice xa' t.names.length xc'))) ∧ Hid (Below wJ.heap.size wJ w2))) := fun w1 p1 n1 p1' n1' hR hB => by
    have hfb := HFJ.out.trans (hB.out.mono HFJ.out.size)
    refine ((eqV_all (k + 1)).1 t _ _ _ _ _ (VlR.base (Nat.zero_le _) _ _ _ (VlO.read _ _ _ _ _ (HVW.out _ (fun y _ h2 => hfb.block y (by omega))))) hR.out).mono ?_
    rintro e w2 ⟨rfl, hb2⟩
    have hb2' : Below wJ.heap.size wJ w2 := hB.out.trans (hb2.mono hB.out.size)
    exact ⟨rfl, HCELLS.out _ hb2', hb2'⟩
  have HT18 : Hid (Calls Try.prog 8 #[.agg #[.int .i64 t.kind, .int .i64 t.num, .string t.text, .slice va t.list.length vc, .slice va' t.names.length vc']] wJ.drew (fun e w' => ∃ p1 n1 p1' n1', e = .returned (.agg #[.int .i64 t.kind, .int .i64 t.num, .string t.text, .slice p1 t.list.length n1, .slice p1' t.names.length n1']) ∧ ((w'.cell? ⟨w.heap.size, 0, none⟩ = some (.int .i64 t.kind) ∧ w'.cell? ⟨w.heap.size, 1, none⟩ = some (.int .i64 t.num) ∧ w'.cell? ⟨w.heap.size, 2, none⟩ = some (.string t.text) ∧ w'.cell? ⟨w.heap.size, 3, none⟩ = some (.slice va t.list.length vc) ∧ w'.cell? ⟨w.heap.size, 4, none⟩ = some (.slice va' t.names.length vc')) ∧ (w'.cell? ⟨wE.heap.size, 0, none⟩ = some (.int .i64 t.kind) ∧ w'.cell? ⟨wE.heap.size, 1, none⟩ = some (.int .i64 t.num) ∧ w'.cell? ⟨wE.heap.size, 2, none⟩ = some (.string t.text) ∧ w'.cell? ⟨wE.heap.size, 3, none⟩ = some (.slice xa t.list.length xc) ∧ w'.cell? ⟨wE.heap.size, 4, none⟩ = some (.slice xa' t.names.length xc'))) ∧ Hid (VlR w' 0 (k + 1) t [.int .i64 t.kind, .int .i64 t.num, .string t.text, .slice p1 t.list.length n1, .slice p1' t.names.length n1']) ∧ Hid (Below wJ.heap.size wJ w'))) := by
    refine ((toO_all (k + 1)).1 t _ _ _ (HV.out _ (HKW.out _ HAJ.out.drew))).mono ?_
    rintro e w' ⟨vl1, vn1, rfl, hO1, hb1⟩
    obtain ⟨p1, n1, p1', n1', hv1⟩ := hO1.cells
    simp only [List.cons.injEq, true_and, and_true] at hv1
    obtain ⟨rfl, rfl⟩ := hv1
    have hb' : Below wJ.heap.size wJ w' := ((Below.refl _ wJ).drew).trans hb1
    exact ⟨p1, n1, p1', n1', rfl, HCELLS.out _ hb', VlR.base (Nat.zero_le _) _ _ _ (VlO.read _ _ _ _ _ hO1), hb'⟩
  obtain ⟨⟨c0, c1, c2, c3, c4⟩, ⟨d0, d1, d2, d3, d4⟩⟩ := HCELLS.out _ (Below.refl _ _)
  go_wp2_with fail
  go_region_held3 (fun w' => (w'.cell? ⟨w.heap.size, 0, none⟩ = some (.int .i64 t.kind) ∧ w'.cell? ⟨w.heap.size, 1, none⟩ = some (.int .i64 t.num) ∧ w'.cell? ⟨w.heap.size, 2, none⟩ = some (.string t.text) ∧ w'.cell? ⟨w.heap.size, 3, none⟩ = some (.slice va t.list.length vc) ∧ w'.cell? ⟨w.heap.size, 4, none⟩ = some (.slice va' t.names.length vc')) ∧ (w'.cell? ⟨wE.heap.size, 0, none⟩ = some (.int .i64 t.kind) ∧ w'.cell? ⟨wE.heap.size, 1, none⟩ = some (.int .i64 t.num) ∧ w'.cell? ⟨wE.heap.size, 2, none⟩ = some (.string t.text) ∧ w'.cell? ⟨wE.heap.size, 3, none⟩ = some (.slice xa t.list.length xc) ∧ w'.cell? ⟨wE.heap.size, 4, none⟩ = some (.slice xa' t.names.length xc'))) (go_keep) (first | (go_at_call 8; refine (Hid.out HT18).mono ?_; rintro e w1 ⟨p1, n1, p1', n1', rfl, ⟨⟨i0, i1, i2, i3, i4⟩, ⟨j0, j1, j2, j3, j4⟩⟩, HR1, HB1⟩) | (go_at_call 10; refine (Hid.out HE18 _ _ _ _ _ HR1 HB1).mono ?_; rintro e wK ⟨rfl, ⟨⟨k0, k1, k2, k3, k4⟩, ⟨l0, l1, l2, l3, l4⟩⟩, HJK⟩))
  clear c0 c1 c2 c3 c4 d0 d1 d2 d3 d4 i0 i1 i2 i3 i4 j0 j1 j2 j3 j4 k0 k1 k2 k3 k4 l0 l1 l2 l3 l4 HR1 HB1 HT18 HE18 HCELLS
  have HFK : Hid (Below wF.heap.size wF wK) := HFJ.out.trans (HJK.out.mono HFJ.out.size)
  have HGK : Hid (Below wG.heap.size wG wK) := HGJ.out.trans (HJK.out.mono HGJ.out.size)
  have hGK : wG.heap.size ≤ wK.heap.size := HGK.out.size
  clear HJK HFJ HGJ HAJ
  go_wp2_with fail
  refine (markNodes_any (k + 1) l _ (wC.heap.size + 1) wD.heap.size wC.heap.size wD.heap.size wK (HXW.out _ (fun y _ h2 => HFK.out.block y (by omega))) (by omega) (by omega) (Nat.le_refl _) (fun b hb => by have := HAD.out b hb; omega) (by have := HCX.out; omega)).mono ?_
  rintro e wL ⟨rfl, _, hTL⟩
  obtain ⟨rk, hrk⟩ : ∃ rk : Nat, 1 + 5 * (l.length : Int) + (cntNs (k + 1) l : Int) = (rk : Int) := ⟨1 + 5 * l.length + cntNs (k + 1) l, by push_cast; rfl⟩
  rw [hrk]
  have HRK : Hid (1 ≤ rk ∧ rk + cntS (cntE k) t.list + t.names.length ≤ 99999990) := by have := HCX.out; show _ ∧ _; omega
  have hKL : wK.heap.size ≤ wL.heap.size := hTL.size
  have HTL : Hid (TurnsP (FootV wC.heap.size wD.heap.size) wK wL) := hTL
  have HOXL : Hid (Owns wL wE.heap.size #[.int .i64 t.kind, .int .i64 t.num, .string t.text, .slice xa t.list.length xc, .slice xa' t.names.length xc'] 29) := (HOX.out.below HFK.out HOX.out.lt).same (hTL.block _ (by omega) (fun hb => by have := hb.2; omega))
  have HVXL : Hid (VlO wL (k + 1) wD.heap.size wE.heap.size t [.int .i64 t.kind, .int .i64 t.num, .string t.text, .slice xa t.list.length xc, .slice xa' t.names.length xc']) := HVW.out _ (fun y h1 h2 => (hTL.block y (by omega) (fun hb => by have := hb.2; omega)).trans (HFK.out.block y (by omega)))
  clear hrk hTL
  obtain ⟨d0, d1, d2, d3, d4⟩ := HOXL.out.five
  go_wp2_with fail
  refine (markValue_any k wD.heap.size wE.heap.size rk t _ _ _ _ _ wL HVXL.out (by omega) HRK.out.1 HRK.out.2 (markL_all k)).mono ?_
  rintro e wM ⟨rfl, _, _, _, _, _, _, _, _, hTM⟩
  obtain ⟨rk2, hrk2⟩ : ∃ rk2 : Nat, rk + cntS (cntE k) t.list + t.names.length = rk2 := ⟨_, rfl⟩
  rw [hrk2]
  have hLM : wL.heap.size ≤ wM.heap.size := hTM.size
  have hSM : ∀ y, y < wK.heap.size → (y < wC.heap.size ∨ wE.heap.size ≤ y) → wM.heap[y]? = wK.heap[y]? := fun y h1 h2 => (hTM.block y (by omega) (fun hb => by have := hb.1; have := hb.2; omega)).trans (HTL.out.block y h1 (fun hb => by have := hb.1; have := hb.2; omega))
  have HCM : Hid (Below wC.heap.size wC wM) := hTM.below (HTL.out.below (HBCF.out.trans (HFK.out.mono HBCF.out.size)) (fun b hb => hb.1) (by omega)) (fun b hb => by have := hb.1; omega) (by omega)
  have HGM : Hid (∀ y, wF.heap.size ≤ y → y < wG.heap.size → wM.heap[y]? = wG.heap[y]?) := fun y h1 h2 => (hSM y (by omega) (by omega)).trans (HGK.out.block y h2)
  have hrkd : decide ((rk2 : Int) < 0) = false := decide_eq_false (by omega)
  have hMs : wG.heap.size ≤ wM.heap.size := by omega
  clear hrk2 hTM HTL HVXL HOXL HRK hSM d0 d1 d2 d3 d4
  go_wp2_with fail
  refine (eqNodeS_any (k + 2) X _ _ wM (NdOwn.read (HGW.out _ (fun y h1 h2 => HGM.out y (by omega) h2)) (fun _ _ => Nat.zero_le _) (Nat.zero_le _)) (HRC.out _ HCM.out)).mono ?_
  rintro e wN ⟨rfl, hbN⟩
  have HCN : Hid (Below wC.heap.size wC wN) := HCM.out.trans (hbN.mono HCM.out.size)
  have HGN : Hid (∀ y, wF.heap.size ≤ y → y < wG.heap.size → wN.heap[y]? = wG.heap[y]?) := fun y h1 h2 => (hbN.block y (by omega)).trans (HGM.out y h1 h2)
  have hNs : wG.heap.size ≤ wN.heap.size := by have := hbN.size; omega
  clear hbN HCM HGM
  go_wp2_with fail
  refine (markNodes_any (k + 1) X _ (lo + 1) wG.heap.size lo wG.heap.size wN (HGW.out _ (fun y h1 h2 => HGN.out y (by omega) h2)) (by omega) (by omega) (Nat.le_refl _) (fun b hb => by have := HAT.out b hb; omega) HCX.out.1).mono ?_
  rintro e wO ⟨rfl, ⟨m, hml, hmc, hmk, hmo⟩, hTO⟩
  obtain ⟨rm, hrm⟩ : ∃ rm : Nat, 1 + 5 * (X.length : Int) + (cntNs (k + 1) X : Int) = (rm : Int) := ⟨1 + 5 * X.length + cntNs (k + 1) X, by push_cast; rfl⟩
  have HCO : Hid (Below wC.heap.size wC wO) := hTO.below HCN.out (fun b hb => by have := hb.1; omega) (by omega)
  have HHELD : Hid (∀ W, Below wO.heap.size wO W → Calls Try.prog 22 #[.slice aG X.length X.length, .int .i64 1] W fun e w' => e = .returned (.int .i64 (rm : Int)) ∧ Below W.heap.size W w') := fun W h => by
    have h1 : NdRow wO 0 (k + 2) m (.slice aG X.length X.length) := NdOwn.read hmo (fun _ _ => Nat.zero_le _) (Nat.zero_le _)
    have h2 := heldNodes_any (k + 1) m _ W (NdRow.keeps (Keeps.of_below h (Nat.le_refl _) 0) h1) hmk (by rw [hml, hmc]; exact HCX.out.1)
    rw [hml, hmc, hrm] at h2
    exact h2
  rw [hrm]
  have hrmd : decide ((rm : Int) < 0) = false := decide_eq_false (by omega)
  clear hrm hml hmc hmk hmo hTO HCN HGN
  go_wp2_with fail
  refine (Hid.out HHELD _ (Below.refl _ _)).mono ?_
  rintro e wP ⟨rfl, hbP⟩
  have HOP : Hid (Below wO.heap.size wO wP) := hbP
  have HCP : Hid (Below wC.heap.size wC wP) := HCO.out.trans (hbP.mono HCO.out.size)
  have HAP : Hid (Below wA.heap.size wA wP) := HBC.out.trans (HCP.out.mono HBC.out.size)
  clear hbP
  have HT1 : Hid (Calls Try.prog 18 #[.slice a l.length cap] wP.drew (fun e w' => ∃ a1 n1 c1, e = .returned (.slice a1 n1 c1) ∧ (w'.cell? ⟨w.heap.size, 0, none⟩ = some (.int .i64 t.kind) ∧ w'.cell? ⟨w.heap.size, 1, none⟩ = some (.int .i64 t.num) ∧ w'.cell? ⟨w.heap.size, 2, none⟩ = some (.string t.text) ∧ w'.cell? ⟨w.heap.size, 3, none⟩ = some (.slice va t.list.length vc) ∧ w'.cell? ⟨w.heap.size, 4, none⟩ = some (.slice va' t.names.length vc')) ∧ Hid (NdRow w' 0 (k + 2) l (.slice a1 n1 c1)) ∧ Hid (Below wP.heap.size wP w'))) := by
    refine (toNodeS_any (k + 2) l _ _ (HR.out _ (HKW.out _ HAP.out.drew))).mono ?_
    rintro e w' ⟨v', rfl, hO, hA, hb⟩
    have hr := NdOwn.read hO (fun _ _ => Nat.zero_le _) (Nat.zero_le _)
    obtain ⟨a1, n1, c1, rfl⟩ := Row.slice hr
    have hb' : Below wP.heap.size wP w' := ((Below.refl _ wP).drew).trans hb
    exact ⟨a1, n1, c1, rfl, HCV.out _ (HAP.out.trans (hb'.mono HAP.out.size)), hr, hb'⟩
  have HT4 : Hid (∀ (W : World), Below wP.heap.size wP W → Calls Try.prog 8 #[.agg #[.int .i64 t.kind, .int .i64 t.num, .string t.text, .slice va t.list.length vc, .slice va' t.names.length vc']] W (fun e w' => ∃ p1 n1 p1' n1', e = .returned (.agg #[.int .i64 t.kind, .int .i64 t.num, .string t.text, .slice p1 t.list.length n1, .slice p1' t.names.length n1']) ∧ (w'.cell? ⟨w.heap.size, 0, none⟩ = some (.int .i64 t.kind) ∧ w'.cell? ⟨w.heap.size, 1, none⟩ = some (.int .i64 t.num) ∧ w'.cell? ⟨w.heap.size, 2, none⟩ = some (.string t.text) ∧ w'.cell? ⟨w.heap.size, 3, none⟩ = some (.slice va t.list.length vc) ∧ w'.cell? ⟨w.heap.size, 4, none⟩ = some (.slice va' t.names.length vc')) ∧ Hid (VlR w' 0 (k + 1) t [.int .i64 t.kind, .int .i64 t.num, .string t.text, .slice p1 t.list.length n1, .slice p1' t.names.length n1']) ∧ Hid (Keeps 0 W w') ∧ Hid (Below wP.heap.size wP w'))) := fun W h => by
    refine ((toO_all (k + 1)).1 t _ _ _ (HV.out _ (HKW.out _ (HAP.out.trans (h.mono HAP.out.size))))).mono ?_
    rintro e w' ⟨vl1, vn1, rfl, hO1, hb1⟩
    obtain ⟨p1, n1, p1', n1', hv1⟩ := hO1.cells
    simp only [List.cons.injEq, true_and, and_true] at hv1
    obtain ⟨rfl, rfl⟩ := hv1
    have hb' : Below wP.heap.size wP w' := h.trans (hb1.mono h.size)
    exact ⟨p1, n1, p1', n1', rfl, HCV.out _ (HAP.out.trans (hb'.mono HAP.out.size)), VlR.base (Nat.zero_le _) _ _ _ (VlO.read _ _ _ _ _ hO1), Keeps.of_below hb1 (Nat.le_refl _) 0, hb'⟩
  have HT3 : Hid (∀ (W : World) (av : Value) (p1 : Option Addr) (n1 : Nat) (p1' : Option Addr) (n1' : Nat), Below wP.heap.size wP W → NdRow W 0 (k + 2) l av → VlR W 0 (k + 1) t [.int .i64 t.kind, .int .i64 t.num, .string t.text, .slice p1 t.list.length n1, .slice p1' t.names.length n1'] → Calls Try.prog 19 #[av, .int .i64 id, .string s, .agg #[.int .i64 t.kind, .int .i64 t.num, .string t.text, .slice p1 t.list.length n1, .slice p1' t.names.length n1']] W (fun e w' => ∃ a1, e = .returned (.tuple #[.slice a1 X.length X.length, .bool pb]) ∧ (w'.cell? ⟨w.heap.size, 0, none⟩ = some (.int .i64 t.kind) ∧ w'.cell? ⟨w.heap.size, 1, none⟩ = some (.int .i64 t.num) ∧ w'.cell? ⟨w.heap.size, 2, none⟩ = some (.string t.text) ∧ w'.cell? ⟨w.heap.size, 3, none⟩ = some (.slice va t.list.length vc) ∧ w'.cell? ⟨w.heap.size, 4, none⟩ = some (.slice va' t.names.length vc')) ∧ Hid (NdRow w' 0 (k + 2) X (.slice a1 X.length X.length)) ∧ Hid (Below wP.heap.size wP w'))) := fun W av p1 n1 p1' n1' h hr hv => by
    refine (implStoreSet_any (k + 1) (by omega) l t av _ _ id s W hs hr hv).mono ?_
    rintro e w' ⟨p, v', lo', hset, rfl, _, hown, _, hb⟩
    obtain rfl : p = (X, pb) := SetP.det hset HSET.out
    obtain ⟨a1, hv1, _⟩ := OwnRow.len hown
    subst hv1
    have hb' : Below wP.heap.size wP w' := h.trans (hb.mono h.size)
    exact ⟨a1, rfl, HCV.out _ (HAP.out.trans (hb'.mono HAP.out.size)), NdOwn.read hown (fun _ _ => Nat.zero_le _) (Nat.zero_le _), hb'⟩
  obtain ⟨c0, c1, c2, c3, c4⟩ := HCV.out _ HAP.out
  go_wp2_with fail
  go_region_held3 (fun w' => (w'.cell? ⟨w.heap.size, 0, none⟩ = some (.int .i64 t.kind) ∧ w'.cell? ⟨w.heap.size, 1, none⟩ = some (.int .i64 t.num) ∧ w'.cell? ⟨w.heap.size, 2, none⟩ = some (.string t.text) ∧ w'.cell? ⟨w.heap.size, 3, none⟩ = some (.slice va t.list.length vc) ∧ w'.cell? ⟨w.heap.size, 4, none⟩ = some (.slice va' t.names.length vc'))) (go_keep) (first | (go_at_call 18; refine (Hid.out HT1).mono ?_; rintro e w3 ⟨a1, n1, cp1, rfl, ⟨i0, i1, i2, i3, i4⟩, HN1, HB3⟩) | (go_at_call 8; refine (Hid.out HT4 _ (Hid.out HB3)).mono ?_; rintro e w4 ⟨p2, n2, p2', n2', rfl, ⟨j0, j1, j2, j3, j4⟩, HV2, HK34, HB4⟩) | (go_at_call 19; refine (Hid.out HT3 _ _ _ _ _ _ (Hid.out HB4) (NdRow.keeps (Hid.out HK34) (Hid.out HN1)) (Hid.out HV2)).mono ?_; rintro e wQ ⟨aQ, rfl, ⟨k0, k1, k2, k3, k4⟩, HRQ, HPQ⟩))
  clear c0 c1 c2 c3 c4 i0 i1 i2 i3 i4 j0 j1 j2 j3 j4 k0 k1 k2 k3 k4 HN1 HB3 HV2 HK34 HB4 HT1 HT3 HT4
  have HCQ : Hid (Below wC.heap.size wC wQ) := HCP.out.trans (HPQ.out.mono HCP.out.size)
  have HOQ : Hid (Below wO.heap.size wO wQ) := HOP.out.trans (HPQ.out.mono HOP.out.size)
  clear HPQ
  go_wp2_with fail
  refine (eqNodeS_any (k + 2) X _ _ wQ HRQ.out (HRC.out _ HCQ.out)).mono ?_
  rintro e wR ⟨rfl, hbR⟩
  have HCR : Hid (Below wC.heap.size wC wR) := HCQ.out.trans (hbR.mono HCQ.out.size)
  have HOR : Hid (Below wO.heap.size wO wR) := HOQ.out.trans (hbR.mono HOQ.out.size)
  clear hbR HRQ
  go_wp2_with fail
  refine (Hid.out HHELD _ HOR.out).mono ?_
  rintro e wS ⟨rfl, hbS⟩
  have HF : Hid (Below w.heap.size w wS) := by
    have h1 : Below wA.heap.size wA wS := HBC.out.trans ((HCR.out.trans (hbS.mono HCR.out.size)).mono HBC.out.size)
    exact HBA.out.trans (h1.mono HBA.out.size)
  clear hbS
  go_wp2_with fail
  go_ret
  exact ⟨rfl, HF.out⟩

end Go.Proofs.Ytehdepnemdbopaa
