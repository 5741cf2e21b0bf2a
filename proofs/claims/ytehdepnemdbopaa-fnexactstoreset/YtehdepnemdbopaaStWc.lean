
/-
  DERIVED. THE WALKS OF (impl.store).withCell, impl.StoreSet.
-/
import Derived.Test.YtehdepnemdbopaaStWi
import Derived.Test.YtehdepnemdbopaaFmIx
import Derived.Test.YtehdepnemdbopaaStFa
import Derived.Test.YtehdepnemdbopaaStCr
import Derived.Test.YtehdepnemdbopaaStNo
namespace Go.Proofs.Ytehdepnemdbopaa
open Go.RowKit
set_option linter.unusedVariables false
set_option linter.unusedSimpArgs false

/-- The store with a cell set: good wherever what there was at w0 is as it was, and what came behind w. -/
def WcC (k : Nat) (l : List Nd) (id : Int) (s : ByteArray) (t : Vl) (w0 w : World) (e : Ending) (w' : World) : Prop :=
  ∃ p a n c, SetI l id s t p ∧ e = .returned (.tuple #[.agg #[.slice a n c], .bool p.2]) ∧ (∀ W, Keeps 0 w0 W → Keeps (w.heap.size + 3) w' W → ThRow W k p.1 (.slice a n c)) ∧ Below w.heap.size w w'

theorem three_at (w : World) (o0 o1 o2 : Obj) : Below w.heap.size w (((w.alloc o0).alloc o1).alloc o2) ∧ (((w.alloc o0).alloc o1).alloc o2).heap.size = w.heap.size + 3 ∧ (((w.alloc o0).alloc o1).alloc o2).heap[w.heap.size]? = some o0 ∧ (((w.alloc o0).alloc o1).alloc o2).heap[w.heap.size + 1]? = some o1 ∧ (((w.alloc o0).alloc o1).alloc o2).heap[w.heap.size + 1 + 1]? = some o2 :=
  ⟨(((Below.refl _ _).alloc (Nat.le_refl _) _).alloc (by simp) _).alloc (by simp; omega) _, by simp, at0' _ _ _ _, at1' _ _ _ _, at2' _ _ _ _⟩

/-- One of a row of branches has another form. -/
theorem brRow_put {w1 W : World} {B k g cap i : Nat} {L : List (ByteArray × Vl)} {xs : List Value} {t : Vl} {f : Value} (hown : w1.ownsRow B 112 2 (.slice (some ⟨g, 0, none⟩) L.length cap) L.length xs) (hw : L.length * 32 ≤ 140737488351232) (hi : i < L.length)
    (kids : ∀ (m : Nat) (h : m < L.length), ∃ cs, cs.length = 2 ∧ (∀ q, q < 2 → xs[m * 2 + q]? = cs[q]?) ∧ BrC W 0 k L[m] cs) (hf : FmR W 0 k t f) (hW : W.heap[g]? = (w1.setCell ⟨g, i * 2 + 1, none⟩ f).heap[g]?) : Row W 0 2 32 (BrC W 0 k) (L.set i (L[i].1, t)) (.slice (some ⟨g, 0, none⟩) L.length cap) := by
  rcases hown.2 with ⟨h1, _⟩ | ⟨g', cap', cur, h1, h2, h3, h4, h5, h6, h7⟩
  · simp at h1
  simp only [Value.slice.injEq, Option.some.injEq, Addr.mk.injEq, and_true, true_and] at h1
  obtain ⟨rfl, rfl⟩ := h1
  have hO : Owns w1 g cur 112 := h3
  have hOW : Owns W g (cur.setIfInBounds (i * 2 + 1) f) 112 := Owns.sameO (hO.set _ _) hW
  have hcl : L.length * 2 ≤ cap * 2 := Nat.mul_le_mul_right _ h4
  have hx : ∀ m, m < L.length * 2 → cur[m]? = xs[m]? := fun m hm => by rw [← h7, List.getElem?_take, if_pos hm, Array.getElem?_toList]
  refine Or.inr ⟨⟨g, 0, none⟩, cap, by rw [List.length_set], by rw [List.length_set]; exact h4, h5, by rw [List.length_set]; exact hw, fun m hm => ⟨Nat.zero_le _, rfl, ?_⟩⟩
  rw [List.length_set] at hm
  obtain ⟨cs, b1, b2, fm, rfl, b4⟩ := kids m hm
  by_cases hmi : m = i
  · subst hmi
    simp only [List.getElem_set_self]
    refine ⟨[.string L[m].1, f], rfl, fun q hq => ?_, f, rfl, hf⟩
    show W.cell? ⟨g, 0 + m * 2 + q, none⟩ = _
    simp only [List.length_cons, List.length_nil] at hq
    rw [hOW.cell, Nat.zero_add]
    rcases (show q = 0 ∨ q = 1 by omega) with rfl | rfl
    · rw [Array.getElem?_setIfInBounds_ne (by omega), hx _ (by omega), b2 0 (by omega)]; rfl
    · rw [Array.getElem?_setIfInBounds_self_of_lt (by omega)]; rfl
  · simp only [List.getElem_set_ne (fun h => hmi h.symm)]
    refine ⟨_, rfl, fun q hq => ?_, fm, rfl, b4⟩
    show W.cell? ⟨g, 0 + m * 2 + q, none⟩ = _
    simp only [List.length_cons, List.length_nil] at hq
    have hne : m * 2 + q ≠ i * 2 + 1 := by omega
    rw [hOW.cell, Nat.zero_add, Array.getElem?_setIfInBounds_ne (Ne.symm hne), hx _ (by omega), b2 q (by omega)]

theorem zip_set {α β : Type} : ∀ (l : List α) (r : List β) (i : Nat) (h : i < (l.zip r).length) (y : β), (l.zip r).set i ((l.zip r)[i].1, y) = l.zip (r.set i y)
  | [], _, _, h, _ => by simp at h
  | _ :: _, [], _, h, _ => by simp at h
  | a :: l, b :: r, 0, _, y => rfl
  | a :: l, b :: r, i + 1, h, y => by
    have := zip_set l r i (by simpa using h) y
    simp only [List.zip_cons_cons, List.set_cons_succ, List.getElem_cons_succ, this]

/-- The boxes of withCell. -/
structure Box3 (w : World) (sv : Value) (W : World) : Prop where
  below : Below w.heap.size w W
  bS : Owns W w.heap.size #[sv] 87
  bR : Owns W (w.heap.size + 1 + 1) #[.slice none 0 0] 87
theorem Box3.on {w W W' : World} {sv : Value} (h : Box3 w sv W) (hb : Below W.heap.size W W') : Box3 w sv W' :=
  ⟨h.below.trans (hb.mono h.below.size), h.bS.below hb h.bS.lt, h.bR.below hb h.bR.lt⟩
theorem Box3.grow {w W W' : World} {sv : Value} {o : Obj} {row : Option Nat} (h : Box3 w sv W) (hg : (W.alloc o).grownBy W' row) (hr : ∀ b, row = some b → w.heap.size + 3 ≤ b) : Box3 w sv W' := by
  have hlt := h.bR.lt
  have hs : ∀ b, b < w.heap.size + 3 → W'.heap[b]? = W.heap[b]? := fun b hb => by
    rw [hg.block b (by simp; omega) (fun he => by have := hr b he.symm; omega), Below.heap_alloc _ _ _ (by omega)]
  exact ⟨(h.below.alloc h.below.size _).grown hg (by have := h.below.size; simp; omega) (fun b hb => by have := hr b hb; omega), h.bS.same (hs _ (by omega)), h.bR.same (hs _ (by omega))⟩
theorem Box3.cells {w W : World} {sv : Value} (h : Box3 w sv W) : W.cell? ⟨w.heap.size, 0, none⟩ = some sv ∧ W.cell? ⟨w.heap.size + 1 + 1, 0, none⟩ = some (.slice none 0 0) ∧ (∀ o, W.frozen? ⟨w.heap.size + 1 + 1, o, none⟩ = false) ∧ w.heap.size + 1 + 1 < W.heap.size ∧ w.heap.size < W.heap.size :=
  ⟨by rw [h.bS.cell]; rfl, by rw [h.bR.cell]; rfl, fun o => h.bR.frozen o, h.bR.lt, h.bS.lt⟩

theorem Box3.set {w W : World} {sv : Value} (h : Box3 w sv W) (u : Value) : Below w.heap.size w (W.setCell ⟨w.heap.size + 1 + 1, 0, none⟩ u) :=
  h.below.setCell (p := ⟨w.heap.size + 1 + 1, 0, none⟩) (by show w.heap.size ≤ w.heap.size + 1 + 1; omega) _
theorem Box3.kept {w W : World} {sv : Value} (h : Box3 w sv W) (u : Value) : Keeps (w.heap.size + 3) W (W.setCell ⟨w.heap.size + 1 + 1, 0, none⟩ u) :=
  ⟨by simp [World.setCell], fun b h1 _ => Below.heap_setCell _ _ _ _ (by show b ≠ w.heap.size + 1 + 1; omega)⟩
theorem Box3.put {w W : World} {sv : Value} (h : Box3 w sv W) (u : Value) (o : Obj) : Below w.heap.size w ((W.setCell ⟨w.heap.size + 1 + 1, 0, none⟩ u).alloc o) :=
  (h.below.setCell (p := ⟨w.heap.size + 1 + 1, 0, none⟩) (by show w.heap.size ≤ w.heap.size + 1 + 1; omega) _).alloc (by have := h.below.size; simp [World.setCell]; omega) _

theorem WcC.no {k : Nat} {l : List Nd} {id : Int} {s : ByteArray} {t : Vl} {w0 w W : World} {ta : Option Addr} {tm tc : Nat} {e : Ending} (h : SetI l id s t (l, false)) (he : e = .returned (.tuple #[.agg #[.slice ta tm tc], .bool false])) (hS : ∀ W, Keeps 0 w0 W → ThRow W k l (.slice ta tm tc)) (hb : Below w.heap.size w W) : WcC k l id s t w0 w e W :=
  ⟨(l, false), ta, tm, tc, h, he, fun W h _ => hS W h, hb⟩

set_option maxHeartbeats 4000000 in
set_option maxRecDepth 100000 in
theorem withCell_any (k : Nat) (l : List Nd) (ta : Option Addr) (tm tc : Nat) (id : Int) (s : ByteArray) (t : Vl) (vl vn : Value) (w0 w : World) (hk0 : Keeps 0 w0 w) (hs : s.size ≤ 140737488351232) (hst : storeB l = true) (hrow : ThRow w0 k l (.slice ta tm tc)) (hv : VlR w 0 k t [.int .i64 t.kind, .int .i64 t.num, .string t.text, vl, vn]) :
    Calls Try.prog 48 #[.agg #[.slice ta tm tc], .int .i64 id, .string s, .agg #[.int .i64 t.kind, .int .i64 t.num, .string t.text, vl, vn]] w (WcC k l id s t w0 w) := by
  have HS : Hid (∀ W, Keeps 0 w0 W → ThRow W k l (.slice ta tm tc)) := fun W h => hrow.keeps h
  have HK0 : Hid (Keeps 0 w0 w) := hk0
  have HV : Hid (∀ W, Keeps 0 w W → VlR W 0 k t [.int .i64 t.kind, .int .i64 t.num, .string t.text, vl, vn]) := fun W h => VlR.keeps h _ _ _ hv
  have HA : Hid (Asc l ∧ l.length ≤ 12) := ⟨store_asc hst, store_len hst⟩
  have HC : Hid (∀ (i : Nat) (hi : i < l.length), l[i].cells.kind = 5 ∧ okB false 4 l[i].cells = true) := fun i hi => store_cells hst i hi
  obtain ⟨va, vc, va', vc', hvv⟩ := hv.cells
  simp only [List.cons.injEq, true_and, and_true] at hvv
  obtain ⟨rfl, rfl⟩ := hvv
  have hsm : s.size ≤ maxLen := by unfold maxLen; omega
  clear hrow hv hst hk0
  go_enter Try.func48, Try.ntmps48
  go_wp2_with fail
  obtain ⟨W0, hW0⟩ : ∃ W, W = ((w.alloc (Obj.cells #[.slice ta tm tc] 87)).alloc (Obj.cells #[.int .i64 t.kind, .int .i64 t.num, .string t.text, .slice va t.list.length vc, .slice va' t.names.length vc'] 29)).alloc (Obj.cells #[.slice none 0 0] 87) := ⟨_, rfl⟩
  rw [← hW0]
  obtain ⟨f1, f2, f3, f4, f6⟩ := three_at w (Obj.cells #[.slice ta tm tc] 87) (Obj.cells #[.int .i64 t.kind, .int .i64 t.num, .string t.text, .slice va t.list.length vc, .slice va' t.names.length vc'] 29) (Obj.cells #[.slice none 0 0] 87)
  rw [← hW0] at f1 f2 f3 f4 f6
  have HX0 : Hid (Box3 w (.slice ta tm tc) W0) := ⟨f1, f3, f6⟩
  have H04 : Hid (W0.heap.size = w.heap.size + 3) := f2
  clear hW0 f1 f2 f3 f4 f6
  refine (form_all false 3 (by omega) k t _ _ W0 (HV.out _ (Keeps.of_below HX0.out.below (Nat.le_refl _) 0))).mono ?_
  rintro e w1 ⟨f, rfl, hf, hb1⟩
  have HX1 : Hid (Box3 w (.slice ta tm tc) w1) := HX0.out.on hb1
  have hz0 : W0.heap.size = w.heap.size + 3 := H04.out
  have HF : Hid (okB false 3 t = true → FmR w1 (w.heap.size + 3) k t f) := fun h => hz0 ▸ hf h
  have H14 : Hid (w.heap.size + 3 ≤ w1.heap.size) := by have := hb1.size; show _ ≤ _; omega
  clear hb1 hf HX0 hz0
  obtain ⟨b0, r0, rf, hrl, hbl⟩ := HX1.out.cells
  go_wp2_with fail
  refine (at_any0 k l _ id w0 w1 (HK0.out.trans (Keeps.of_below HX1.out.below (Nat.le_refl _) 0)) HA.out.2 HA.out.1 (HS.out _ (Keeps.refl _ _))).mono ?_
  rintro e w2 ⟨hm, hb2⟩
  have HX2 : Hid (Box3 w (.slice ta tm tc) w2) := HX1.out.on hb2
  have HB12 : Hid (Below w1.heap.size w1 w2) := hb2
  clear hb2 b0 r0 rf hrl hbl
  obtain ⟨b0, r0, rf, hrl, hbl⟩ := HX2.out.cells
  rcases hm with ⟨i, hi, vt, hid, rfl, ⟨ca, cm, cc, rfl⟩, hR⟩ | ⟨hno, rfl⟩
  rotate_left
  · have HSET : Hid (SetI l id s t (l, false)) := Or.inr ⟨hno, rfl⟩
    clear hno
    cases hok : okB false 3 t
    · go_wp2_with fail
      refine bodyPost_ret (v := .tuple #[.agg #[.slice ta tm tc], .bool false]) (by simp [results, Try.results48, go_sem, r0, hrl]) rfl ?_
      exact WcC.no HSET.out rfl HS.out (HX2.out.put _ _)
    · go_wp2_with fail
      refine bodyPost_ret (v := .tuple #[.agg #[.slice ta tm tc], .bool false]) (by simp [results, Try.results48, go_sem, r0, hrl]) rfl ?_
      exact WcC.no HSET.out rfl HS.out (HX2.out.put _ _)
  have HR : Hid (∀ W, Keeps 0 w0 W → Row W 0 2 32 (BrC W 0 k) (l[i].cells.names.zip l[i].cells.list) (.slice ca cm cc)) := hR
  have HID : Hid (l[i].id = id) := hid
  clear hR hid
  cases hok : okB false 3 t
  · have HSET : Hid (SetI l id s t (l, false)) := Or.inl ⟨i, hi, HID.out, by unfold setAt; rw [hok, Bool.and_false]; rfl⟩
    go_wp2_with fail
    refine bodyPost_ret (v := .tuple #[.agg #[.slice ta tm tc], .bool false]) (by simp [results, Try.results48, go_sem, r0, hrl]) rfl ?_
    exact WcC.no HSET.out rfl HS.out (HX2.out.put _ _)
  obtain ⟨w2', hw2'⟩ : ∃ W, W = w2.alloc (Obj.cells #[.string l[i].type, .slice ca cm cc] 125) := ⟨_, rfl⟩
  go_wp2_with fail
  rw [← hw2']
  have hb3 : Below w2.heap.size w2 w2' := by rw [hw2']; exact (Below.refl _ _).alloc (Nat.le_refl _) _
  have HX3 : Hid (Box3 w (.slice ta tm tc) w2') := HX2.out.on hb3
  have HT3 : Hid (Owns w2' w2.heap.size #[.string l[i].type, .slice ca cm cc] 125) := by rw [hw2']; exact Owns.made _ _ _
  have HK3 : Hid (Keeps 0 w2 w2') := Keeps.of_below hb3 (Nat.le_refl _) 0
  have HB13 : Hid (Below w1.heap.size w1 w2') := HB12.out.trans (hb3.mono HB12.out.size)
  clear hw2' hb3 HX2 HB12 b0 r0 rf hrl hbl
  refine (isName_any s w2' hsm).mono ?_
  rintro e w3 ⟨rfl, rfl⟩
  obtain ⟨b0, r0, rf, hrl, hbl⟩ := HX3.out.cells
  have t0 : w3.cell? ⟨w2.heap.size, 0, none⟩ = some (.string l[i].type) := by rw [HT3.out.cell]; rfl
  have t1 : w3.cell? ⟨w2.heap.size, 1, none⟩ = some (.slice ca cm cc) := by rw [HT3.out.cell]; rfl
  cases hnm : nameB s.data.toList
  · have HSET : Hid (SetI l id s t (l, false)) := Or.inl ⟨i, hi, HID.out, by unfold setAt; rw [hnm]; rfl⟩
    go_wp2_with fail
    refine bodyPost_ret (v := .tuple #[.agg #[.slice ta tm tc], .bool false]) (by simp [results, Try.results48, go_sem, r0, hrl]) rfl ?_
    exact WcC.no HSET.out rfl HS.out (HX3.out.set _)
  obtain ⟨L, hL⟩ : ∃ L, l[i].cells.names.zip l[i].cells.list = L := ⟨_, rfl⟩
  obtain ⟨T, y, rfl⟩ := FmR.iface (HF.out hok)
  have HFM : Hid (FmR w1 (w.heap.size + 3) k t (.iface T y)) := HF.out hok
  obtain ⟨hc5, hcok⟩ := HC.out i hi
  have hcn : l[i].cells.names.length = l[i].cells.list.length := ok_tree_names hc5 hcok
  have hLn : L.length = l[i].cells.names.length := by rw [← hL]; simp; omega
  have hL12 : L.length ≤ 12 := by
    rw [okB_succ] at hcok
    simp only [Bool.and_eq_true] at hcok
    have h1 := hcok.1.1.1
    unfold plainB at h1
    rw [hc5] at h1
    simp at h1
    omega
  have HL1 : Hid (∀ (m : Nat) (h : m < L.length) (h' : m < l[i].cells.names.length), L[m].1 = l[i].cells.names[m]) := fun m hm hm' => by
    subst hL
    simp
  have HLZ : Hid (l[i].cells.names.zip l[i].cells.list = L) := hL
  have HLN : Hid (L.length = l[i].cells.names.length ∧ l[i].cells.names.length = l[i].cells.list.length) := ⟨hLn, hcn⟩
  have hLi : (L.length : Int) ≤ 12 := by omega
  rw [hL] at HR
  clear hc5 hcok HF hL hLn hcn
  go_wp2_with fail
  have HKW3 : Hid (Keeps 0 w0 w3) := HK0.out.trans (Keeps.of_below HX3.out.below (Nat.le_refl _) 0)
  refine (cloneB_any (BrC w0 0 k) br_one L _ w3 (Row.keeps HKW3.out (fun _ _ h => h) (HR.out w0 (Keeps.refl _ _)))).mono ?_
  rintro e w4 ⟨v', xs, rfl, hown, hkids, hb4⟩
  obtain ⟨oa, oc, rfl⟩ := own_slice hown
  have HX4 : Hid (Box3 w (.slice ta tm tc) w4) := HX3.out.on hb4
  have HROW4 : Hid (Row w4 0 2 32 (BrC w4 0 k) L (.slice oa L.length oc)) := Row.of_owns hown (Nat.zero_le _) (by omega) (fun m hm => by
    obtain ⟨cs, c1, c2, c3⟩ := hkids m hm
    exact ⟨cs, c1, c2, BrC.keeps (HKW3.out.trans (Keeps.of_below hb4 (Nat.le_refl _) 0)) k _ _ c3⟩)
  have HKIDS : Hid (∀ W, Keeps 0 w0 W → ∀ (m : Nat) (h : m < L.length), ∃ cs, cs.length = 2 ∧ (∀ q, q < 2 → xs[m * 2 + q]? = cs[q]?) ∧ BrC W 0 k L[m] cs) := fun W hW m hm => by
    obtain ⟨cs, c1, c2, c3⟩ := hkids m hm
    exact ⟨cs, c1, c2, BrC.keeps hW k _ _ c3⟩
  have HOWN4 : Hid (w4.ownsRow w3.heap.size 112 2 (.slice oa L.length oc) L.length xs) := hown
  have HB34 : Hid (Below w3.heap.size w3 w4) := hb4
  clear hown hkids hb4 b0 r0 rf hrl hbl
  go_wp2_with fail
  refine (indexOf_any k L _ s w4 HROW4.out).mono ?_
  rintro e w5 ⟨r, rfl, hidx, hb5⟩
  have HX5 : Hid (Box3 w (.slice ta tm tc) w5) := HX4.out.on hb5
  have HB35 : Hid (Below w3.heap.size w3 w5) := HB34.out.trans (hb5.mono HB34.out.size)
  have HT5 : Hid (Owns w5 w2.heap.size #[.string l[i].type, .slice ca cm cc] 125) := HT3.out.below HB35.out HT3.out.lt
  have HOWN5 : Hid (w5.ownsRow w3.heap.size 112 2 (.slice oa L.length oc) L.length xs) := ownsRow_in HOWN4.out (fun b hb _ => hb5.block b (HOWN4.out.lt b hb).2)
  have h23 : w2.heap.size < w3.heap.size := HT3.out.lt
  have H3R : Hid (w.heap.size + 1 + 1 < w3.heap.size) := HX3.out.bR.lt
  clear hb5 HX3 HX4 HROW4 HOWN4 HB34 HT3 t0 t1
  obtain ⟨b0, r0, rf, hrl, hbl⟩ := HX5.out.cells
  have t0 : w5.cell? ⟨w2.heap.size, 0, none⟩ = some (.string l[i].type) := by rw [HT5.out.cell]; rfl
  rcases hidx with ⟨j, hj, rfl, hje, hjno⟩ | ⟨rfl, hmiss⟩
  · have hj0 : (0 : Int) ≤ (j : Int) := by omega
    have hjl : (j : Int) < (L.length : Int) := by omega
    have hjn : j < l[i].cells.names.length := by have := HLN.out; omega
    have HSET : Hid (SetI l id s t (l.set i { l[i] with cells := { l[i].cells with list := l[i].cells.list.set j t } }, true)) := Or.inl ⟨i, hi, HID.out, by
      unfold setAt
      rw [hnm, hok, setV_hit hjn (by rw [← HL1.out j hj hjn]; exact hje) (fun m h hm => by have hLn := HLN.out; rw [← HL1.out m (by omega) h]; exact hjno m (by omega) hm)]
      rfl⟩
    rcases HOWN5.out.2 with ⟨he, h0⟩ | ⟨g, cap, cur, he, g2, g3, g4, g5, g6, g7⟩
    · omega
    simp only [Value.slice.injEq, true_and] at he
    obtain ⟨rfl, rfl⟩ := he
    have hOg : Owns w5 g cur 112 := g3
    have hcap : L.length * 2 ≤ oc * 2 := Nat.mul_le_mul_right _ g4
    have s1 : w5.cell? ⟨g, j * 2 + 1, none⟩ = some (cur[j * 2 + 1]'(by omega)) := by rw [hOg.cell]; exact Array.getElem?_eq_getElem _
    have sf := fun o => hOg.frozen o
    have hgl := hOg.lt
    obtain ⟨W6, hW6⟩ : ∃ W, W = w5.setCell ⟨g, j * 2 + 1, none⟩ (.iface T y) := ⟨_, rfl⟩
    have hz6 : W6.heap.size = w5.heap.size := by rw [hW6]; simp [World.setCell]
    have hs6 : ∀ b, b ≠ g → W6.heap[b]? = w5.heap[b]? := fun b hb => by rw [hW6]; exact Below.heap_setCell _ _ _ _ hb
    have hx := HX5.out
    have hbR : w.heap.size + 1 + 1 < w3.heap.size := H3R.out
    have hw35 := HB35.out.size
    have HX6 : Hid (Box3 w (.slice ta tm tc) W6) := ⟨by rw [hW6]; exact hx.below.setCell (p := ⟨g, j * 2 + 1, none⟩) (by show w.heap.size ≤ g; omega) _, hx.bS.same (hs6 _ (by omega)), hx.bR.same (hs6 _ (by omega))⟩
    have HROW6 : Hid (∀ W, Keeps 0 w0 W → Keeps (w.heap.size + 3) W6 W → Row W 0 2 32 (BrC W 0 k) (({ l[i].cells with list := l[i].cells.list.set j t } : Vl).names.zip ({ l[i].cells with list := l[i].cells.list.set j t } : Vl).list) (.slice (some ⟨g, 0, none⟩) L.length oc)) := fun W hk hk' => by
      have hf : FmR W 0 k t (.iface T y) := FmR.base (Nat.zero_le _) _ _ _ (FmR.keeps (w := w1) ⟨by have := hk'.size; have := HB13.out.size; omega, fun b h1 h2 => (hk'.block b h1 (by have := HB13.out.size; omega)).trans ((hs6 b (by have := HB13.out.size; omega)).trans ((HB35.out.block b (by have := HB13.out.size; omega)).trans (HB13.out.block b h2)))⟩ _ _ _ HFM.out)
      have h1 := brRow_put HOWN5.out (by omega) hj (HKIDS.out W hk) hf ((hk'.block g (by omega) (by omega)).trans (by rw [hW6]))
      have h2 := zip_set l[i].cells.names l[i].cells.list j (by rw [HLZ.out]; exact hj) t
      simp only [HLZ.out] at h2
      rw [h2] at h1
      exact h1
    have HW6 : Hid (W6 = w5.setCell ⟨g, j * 2 + 1, none⟩ (.iface T y)) := hW6
    have h2g : w2.heap.size ≠ g := by omega
    have hg2 : g ≠ w2.heap.size := by omega
    have hbg : w.heap.size ≠ g := by omega
    have hgb : g ≠ w.heap.size := by omega
    generalize cur[j * 2 + 1]'(by omega) = u1 at s1
    clear hOg g2 g3 g4 g5 g6 g7 hcap HOWN5 hje hjno HB13 hW6 hz6 hs6 hx hbR hw35
    go_wp2_with fail
    rw [← HW6.out]
    refine (with_any k l _ id l[i].type _ _ _ w0 W6 (HK0.out.trans (Keeps.of_below HX6.out.below (Nat.le_refl _) 0)) HA.out.2 HA.out.1 (HS.out _ (Keeps.refl _ _)) i hi HID.out).mono ?_
    rintro e w7 ⟨a7, n7, m7, rfl, hb7, hth⟩
    have HX7 : Hid (Box3 w (.slice ta tm tc) w7) := HX6.out.on hb7
    have HTH : Hid (∀ W, Keeps 0 w0 W → Keeps (w.heap.size + 3) w7 W → ThRow W k (l.set i { l[i] with cells := { l[i].cells with list := l[i].cells.list.set j t } }) (.slice a7 n7 m7)) := fun W h1 h2 =>
      hth W _ h1 ⟨h2.size, fun b c1 c2 => h2.block b (by have := HX6.out.bR.lt; omega) c2⟩ (HROW6.out W h1 ⟨by have := h2.size; have := hb7.size; omega, fun b c1 c2 => (h2.block b c1 (by have := hb7.size; omega)).trans (hb7.block b c2)⟩)
    clear hth hb7 b0 r0 rf hrl hbl t0
    obtain ⟨b0, r0, rf, hrl, hbl⟩ := HX7.out.cells
    go_wp2_with fail
    refine bodyPost_ret (v := .tuple #[.agg #[.slice a7 n7 m7], .bool true]) (by simp [results, Try.results48, go_sem, r0, hrl]) rfl ?_
    exact ⟨_, a7, n7, m7, HSET.out, rfl, fun W h1 h2 => HTH.out W h1 ((HX7.out.kept _).trans h2), HX7.out.set _⟩
  · have hmissN : ∀ (m : Nat) (h : m < l[i].cells.names.length), (l[i].cells.names[m].toList == s.toList) = false := fun m h => by
      have hLn := HLN.out
      rw [← HL1.out m (by omega) h]
      exact hmiss m (by omega)
    by_cases h12 : L.length < 12
    · have h12i : (L.length : Int) < 12 := by omega
      have HSET : Hid (SetI l id s t (l.set i { l[i] with cells := { l[i].cells with list := l[i].cells.list ++ [t], names := l[i].cells.names ++ [s] } }, true)) := Or.inl ⟨i, hi, HID.out, by
        have hLn := HLN.out
        unfold setAt
        rw [hnm, hok, setV_miss hmissN, if_neg (show ¬ 12 ≤ l[i].cells.names.length by omega)]
        rfl⟩
      obtain ⟨i0, hi0, hz0, hz1, hz2⟩ := info_branch
      have h3R := H3R.out
      have hw35 := HB35.out.size
      have h2n : w2.heap.size < w5.heap.size := HT5.out.lt
      have HNB : Hid (∀ b, (Value.slice oa L.length oc).ownBlock = some b → w3.heap.size ≤ b) := fun b hb => (HOWN5.out.lt b hb).1
      clear hmiss hmissN
      go_wp2_with (at_builtin; refine wpList_append_lies _ rfl _ _ _ rfl w3.heap.size 112 i0 _ 2 32 Try.underlying104 hi0 hz0 hz1 hz2 rfl (by omega) (.slice oa L.length oc) L.length xs rfl (HOWN5.out.alloc _) ⟨w5.heap.size, 0, none⟩ 1 1 [.string s, .iface T y] rfl rfl (World.news_of_block (cs := #[.string s, .iface T y]) (t := 112) (fr := (0, 0)) (heap_alloc_new w5 _)) (by simp [Value.oneCell']) (by omega) (by unfold maxLen; omega) (by omega) (by simp; omega) (w5.heap.size + 1) (by simp) ?_; intro g cap w6 hown6 hgrow6 hat6 hlt6; have HX6 : Hid (Box3 w (.slice ta tm tc) w6) := HX5.out.grow hgrow6 (fun b hb => by have := HNB.out b hb; omega); have t06 : w6.cell? ⟨w2.heap.size, 0, none⟩ = some (.string l[i].type) := hgrow6.cell (a := ⟨w2.heap.size, 0, none⟩) ((World.cell?_alloc_lt _ _ _ h2n).trans t0) (fun hb => by have := HNB.out w2.heap.size hb.symm; omega); have b06 : w6.cell? ⟨w.heap.size, 0, none⟩ = some (.slice ta tm tc) := HX6.out.cells.1; have HOWN6 : Hid _ := hown6; have HGR6 : Hid _ := hgrow6; clear hown6 hgrow6 hat6)
      have hz6 := HGR6.out.size
      simp at hz6
      have HROW6 : Hid (∀ W, Keeps 0 w0 W → Keeps (w.heap.size + 3) w6 W → Row W 0 2 32 (BrC W 0 k) (({ l[i].cells with list := l[i].cells.list ++ [t], names := l[i].cells.names ++ [s] } : Vl).names.zip ({ l[i].cells with list := l[i].cells.list ++ [t], names := l[i].cells.names ++ [s] } : Vl).list) (.slice (some ⟨g, 0, none⟩) (L.length + 1) cap)) := fun W hk hk' => by
        have hb1 := HB13.out.size
        have hf : FmR W 0 k t (.iface T y) := FmR.base (Nat.zero_le _) _ _ _ (FmR.keeps (w := w1) ⟨by have := hk'.size; omega, fun b h1 h2 => (hk'.block b h1 (by omega)).trans ((HGR6.out.block b (by simp; omega) (fun hb => by have := HNB.out _ hb.symm; omega)).trans ((Below.heap_alloc _ _ _ (by omega)).trans ((HB35.out.block b (by omega)).trans (HB13.out.block b h2))))⟩ _ _ _ HFM.out)
        have hZ : ({ l[i].cells with list := l[i].cells.list ++ [t], names := l[i].cells.names ++ [s] } : Vl).names.zip ({ l[i].cells with list := l[i].cells.list ++ [t], names := l[i].cells.names ++ [s] } : Vl).list = L ++ [(s, t)] := by
          show (l[i].cells.names ++ [s]).zip (l[i].cells.list ++ [t]) = _
          rw [List.zip_append HLN.out.2, HLZ.out]
          rfl
        rw [hZ]
        have hown6 : w6.ownsRow w3.heap.size 112 2 (.slice (some ⟨g, 0, none⟩) (L.length + 1) cap) (L.length + 1) (xs ++ [.string s, .iface T y]) := HOWN6.out
        have hg := hown6.lt g rfl
        have hxl := HOWN5.out.1
        have hown : W.ownsRow w3.heap.size 112 2 (.slice (some ⟨g, 0, none⟩) (L.length + 1) cap) (L ++ [(s, t)]).length (xs ++ [.string s, .iface T y]) := by
          rw [List.length_append, List.length_cons, List.length_nil]
          exact ownsRow_in hown6 (fun b hb _ => by
            simp [Value.ownBlock] at hb; subst hb
            exact hk'.block g (by omega) hg.2)
        refine Row.of_owns (l := L ++ [(s, t)]) hown (Nat.zero_le _) (by simp; omega) (fun m hm => ?_)
        simp only [List.length_append, List.length_cons, List.length_nil] at hm
        by_cases hlt : m < L.length
        · obtain ⟨cs, c1, c2, c3⟩ := HKIDS.out W hk m hlt
          refine ⟨cs, c1, fun q hq => by rw [List.getElem?_append_left (by omega)]; exact c2 q hq, ?_⟩
          simp only [List.getElem_append_left hlt]
          exact c3
        · obtain rfl : m = L.length := by omega
          refine ⟨[.string s, .iface T y], rfl, fun q hq => by rw [List.getElem?_append_right (by omega), hxl, Nat.add_sub_cancel_left], ?_⟩
          simp only [List.getElem_append_right (Nat.le_refl _), Nat.sub_self, List.getElem_cons_zero]
          exact ⟨_, rfl, hf⟩
      refine (with_any k l _ id l[i].type _ _ _ w0 w6 (HK0.out.trans (Keeps.of_below HX6.out.below (Nat.le_refl _) 0)) HA.out.2 HA.out.1 (HS.out _ (Keeps.refl _ _)) i hi HID.out).mono ?_
      rintro e w7 ⟨a7, n7, m7, rfl, hb7, hth⟩
      have HX7 : Hid (Box3 w (.slice ta tm tc) w7) := HX6.out.on hb7
      have HTH : Hid (∀ W, Keeps 0 w0 W → Keeps (w.heap.size + 3) w7 W → ThRow W k (l.set i { l[i] with cells := { l[i].cells with list := l[i].cells.list ++ [t], names := l[i].cells.names ++ [s] } }) (.slice a7 n7 m7)) := fun W h1 h2 =>
        hth W _ h1 ⟨h2.size, fun b c1 c2 => h2.block b (by have := HX6.out.bR.lt; omega) c2⟩ (HROW6.out W h1 ⟨by have := h2.size; have := hb7.size; omega, fun b c1 c2 => (h2.block b c1 (by have := hb7.size; omega)).trans (hb7.block b c2)⟩)
      clear hth hb7 b0 r0 rf hrl hbl t0 t06 b06
      obtain ⟨b0, r0, rf, hrl, hbl⟩ := HX7.out.cells
      go_wp2_with fail
      refine bodyPost_ret (v := .tuple #[.agg #[.slice a7 n7 m7], .bool true]) (by simp [results, Try.results48, go_sem, r0, hrl]) rfl ?_
      exact ⟨_, a7, n7, m7, HSET.out, rfl, fun W h1 h2 => HTH.out W h1 ((HX7.out.kept _).trans h2), HX7.out.set _⟩
    · have h12i : decide ((L.length : Int) < 12) = false := decide_eq_false (by omega)
      have HSET : Hid (SetI l id s t (l, false)) := Or.inl ⟨i, hi, HID.out, by
        have hLn := HLN.out
        unfold setAt
        rw [hnm, hok, setV_miss hmissN, if_pos (show 12 ≤ l[i].cells.names.length by omega)]
        rfl⟩
      clear hmiss hmissN
      go_wp2_with fail
      refine bodyPost_ret (v := .tuple #[.agg #[.slice ta tm tc], .bool false]) (by simp [results, Try.results48, go_sem, r0, hrl]) rfl ?_
      exact WcC.no HSET.out rfl HS.out (HX5.out.set _)

/-! ### What is set is fine -/
theorem once_snoc : ∀ (acc l : List ByteArray) (s : ByteArray), onceB acc (l ++ [s]) = (onceB acc l && (nameB s.data.toList && !hasB (acc ++ l) s))
  | acc, [], s => by simp [onceB]
  | acc, x :: l, s => by
    simp only [List.cons_append, onceB, once_snoc (acc ++ [x]) l s, List.append_assoc, List.nil_append, Bool.and_assoc]

theorem okB_upW (words : Bool) : ∀ (d : Nat) (t : Vl), okB words d t = true → okB words (d + 1) t = true
  | 0, _, h => by simp [okB] at h
  | d + 1, t, h => by
    rw [okB_succ] at h ⊢
    simp only [Bool.and_eq_true, List.all_eq_true] at h ⊢
    exact ⟨h.1, fun x hx => okB_upW words d x (h.2 x hx)⟩
theorem okB_leW {words : Bool} {d d' : Nat} (h : d ≤ d') {t : Vl} (ho : okB words d t = true) : okB words d' t = true := by
  induction h with
  | refl => exact ho
  | step _ ih => exact okB_upW _ _ _ ih

theorem setV_fine {c c' t : Vl} {s : ByteArray} (h5 : c.kind = 5) (hok : okB false 4 c = true) (ht : okB false 3 t = true) (hn : nameB s.data.toList = true) (h : setV c s t = some c') : c'.kind = 5 ∧ okB false 4 c' = true := by
  rw [okB_succ] at hok
  simp only [Bool.and_eq_true, List.all_eq_true] at hok
  obtain ⟨⟨⟨h1, h2⟩, h3⟩, h4⟩ := hok
  rw [h5] at h1
  have hP : ∀ a b, plainB 5 c.num c.text a b = (c.num == 0 && c.text.toList.isEmpty && decide (b = a) && decide (a ≤ 12)) := fun a b => rfl
  have h1' := h1
  rw [hP] at h1'
  simp only [Bool.and_eq_true, decide_eq_true_eq] at h1'
  unfold setV at h
  cases hf : c.names.findIdx? (fun x => x.toList == s.toList) with
  | some p =>
    rw [hf] at h
    simp only [Option.some.injEq] at h
    subst h
    refine ⟨h5, ?_⟩
    rw [okB_succ]
    simp only [Bool.and_eq_true, List.all_eq_true]
    refine ⟨⟨⟨by rw [List.length_set, h5]; exact h1, h2⟩, h3⟩, fun x hx => ?_⟩
    rcases List.mem_or_eq_of_mem_set hx with hx | rfl
    · exact h4 x hx
    · exact ht
  | none =>
    rw [hf] at h
    simp only at h
    split at h
    · simp at h
    · rename_i h12
      simp only [Option.some.injEq] at h
      subst h
      refine ⟨h5, ?_⟩
      rw [okB_succ]
      simp only [Bool.and_eq_true, List.all_eq_true]
      refine ⟨⟨⟨?_, h2⟩, ?_⟩, fun x hx => ?_⟩
      · show plainB c.kind c.num c.text (c.list ++ [t]).length (c.names ++ [s]).length = true
        rw [h5, hP]
        simp only [Bool.and_eq_true, decide_eq_true_eq, List.length_append, List.length_cons, List.length_nil]
        exact ⟨⟨h1'.1.1, by omega⟩, by omega⟩
      · show onceB [] (c.names ++ [s]) = true
        rw [once_snoc, h3, hn]
        simp only [Bool.true_and, List.nil_append, hasB, Bool.not_eq_true', List.any_eq_false]
        intro x hx
        have := List.findIdx?_eq_none_iff.1 hf x hx
        simpa using this
      · rcases List.mem_append.1 hx with hx | hx
        · exact h4 x hx
        · obtain rfl : x = t := by simpa using hx
          exact ht

theorem set_fine {k : Nat} (hk : 3 ≤ k) {l : List Nd} {id : Int} {s : ByteArray} {t : Vl} {p : List Nd × Bool} (hst : storeB l = true) (hl : ∀ (i : Nat) (h : i < l.length), I64 l[i].id ∧ l[i].type.size ≤ 140737488351232) (h : SetI l id s t p) : p.1.length ≤ 12 ∧ ∀ x ∈ p.1, NdFine k x := by
  have h0 : ∀ x ∈ l, NdFine k x := fun x hx => by
    obtain ⟨i, hi, rfl⟩ := List.getElem_of_mem hx
    obtain ⟨h5, hok⟩ := store_cells hst i hi
    exact ⟨h5, okB_leW (by omega) hok, ok_tree_names h5 hok, hl i hi⟩
  rcases h with ⟨i, hi, _, rfl⟩ | ⟨_, rfl⟩
  · unfold setAt
    split
    · rename_i hc
      simp only [Bool.and_eq_true] at hc
      cases hv : setV l[i].cells s t with
      | none => exact ⟨store_len hst, h0⟩
      | some c =>
        obtain ⟨h5, hok⟩ := store_cells hst i hi
        obtain ⟨c5, cok⟩ := setV_fine h5 hok hc.2 hc.1 hv
        refine ⟨by simpa using store_len hst, fun x hx => ?_⟩
        rcases List.mem_or_eq_of_mem_set hx with hx | rfl
        · exact h0 x hx
        · exact ⟨c5, okB_leW (by omega) cok, ok_tree_names c5 cok, hl i hi⟩
    · exact ⟨store_len hst, h0⟩
  · exact ⟨store_len hst, h0⟩

def ImplSS (k : Nat) (l : List Nd) (id : Int) (s : ByteArray) (t : Vl) (w : World) (e : Ending) (w' : World) : Prop :=
  ∃ p v' lo, SetP l id s t p ∧ e = .returned (.tuple #[v', .bool p.2]) ∧ w.heap.size ≤ lo ∧ NdOwn w' (k + 1) (lo + 1) w'.heap.size p.1 v' ∧ (∀ b, At v' b → b = lo ∧ lo < w'.heap.size) ∧ Below w.heap.size w w'

set_option maxHeartbeats 1000000 in
theorem implStoreSet_any (k : Nat) (hk3 : 3 ≤ k) (l : List Nd) (t : Vl) (v vl vn : Value) (id : Int) (s : ByteArray) (w : World) (hs : s.size ≤ 140737488351232) (hrow : NdRow w 0 (k + 1) l v) (hv : VlR w 0 k t [.int .i64 t.kind, .int .i64 t.num, .string t.text, vl, vn]) :
    Calls Try.prog 19 #[v, .int .i64 id, .string s, .agg #[.int .i64 t.kind, .int .i64 t.num, .string t.text, vl, vn]] w (ImplSS k l id s t w) := by
  have HL : Hid (∀ (i : Nat) (h : i < l.length), I64 l[i].id ∧ l[i].type.size ≤ 140737488351232) := fun i hi => by
    obtain ⟨_, _, _, _, hr⟩ := Row.len hrow
    obtain ⟨_, _, _, _, hcs⟩ := hr (List.ne_nil_of_length_pos (by omega))
    obtain ⟨_, _, _, _, _, _, h1, h2, _⟩ := hcs i hi
    exact ⟨h1, h2⟩
  obtain ⟨a, cap, rfl, hw, _⟩ := Row.len hrow
  obtain ⟨va, vc, va', vc', hvv⟩ := hv.cells
  simp only [List.cons.injEq, true_and, and_true] at hvv
  obtain ⟨rfl, rfl⟩ := hvv
  have HR : Hid (∀ W, Keeps 0 w W → NdRow W 0 (k + 1) l (.slice a l.length cap)) := fun W h => hrow.keeps h
  have HV : Hid (∀ W, Keeps 0 w W → VlR W 0 k t [.int .i64 t.kind, .int .i64 t.num, .string t.text, .slice va t.list.length vc, .slice va' t.names.length vc']) := fun W h => VlR.keeps h _ _ _ hv
  clear hrow hv hw
  go_enter Try.func19, Try.ntmps19
  go_wp2_with fail
  obtain ⟨W0, hW0⟩ : ∃ W, W = w.alloc (Obj.cells #[.int .i64 t.kind, .int .i64 t.num, .string t.text, .slice va t.list.length vc, .slice va' t.names.length vc'] 29) := ⟨_, rfl⟩
  rw [← hW0]
  have hk0 : Keeps 0 w W0 := by rw [hW0]; exact (Keeps.refl _ _).alloc _
  have HO0 : Hid (Owns W0 w.heap.size #[.int .i64 t.kind, .int .i64 t.num, .string t.text, .slice va t.list.length vc, .slice va' t.names.length vc'] 29) := by rw [hW0]; exact Owns.made _ _ _
  have HB0 : Hid (Below w.heap.size w W0) := by rw [hW0]; exact (Below.refl _ _).alloc (Nat.le_refl _) _
  clear hW0
  refine (storeOf_any k l _ W0 (HR.out _ hk0)).mono ?_
  rintro e w1 ⟨ta, tm, tc, rfl, hT, hb1⟩
  have HB1 : Hid (Below w.heap.size w w1) := HB0.out.trans (hb1.mono HB0.out.size)
  have HO1 : Hid (Owns w1 w.heap.size #[.int .i64 t.kind, .int .i64 t.num, .string t.text, .slice va t.list.length vc, .slice va' t.names.length vc'] 29) := HO0.out.below hb1 HO0.out.lt
  clear hb1 hk0 HB0 HO0
  cases hst : storeB l
  · have HP : Hid (SetP l id s t ([], false)) := Or.inr ⟨hst, rfl⟩
    clear hst hT
    go_wp2_with fail
    refine bodyPost_ret (v := .tuple #[.slice none 0 0, .bool false]) (by simp [results, Try.results19, go_sem]) rfl ?_
    exact ⟨([], false), _, w.heap.size, HP.out, rfl, Nat.le_refl _, Or.inl ⟨rfl, rfl⟩, fun b hb => absurd hb (by simp [At]), HB1.out.alloc HB1.out.size _⟩
  · have HT : Hid (ThRow w1 k l (.slice ta tm tc)) := hT hst
    have HST : Hid (storeB l = true) := hst
    have x0 : w1.cell? ⟨w.heap.size, 0, none⟩ = some (.int .i64 t.kind) := by rw [HO1.out.cell]; rfl
    have x1 : w1.cell? ⟨w.heap.size, 1, none⟩ = some (.int .i64 t.num) := by rw [HO1.out.cell]; rfl
    have x2 : w1.cell? ⟨w.heap.size, 2, none⟩ = some (.string t.text) := by rw [HO1.out.cell]; rfl
    have x3 : w1.cell? ⟨w.heap.size, 3, none⟩ = some (.slice va t.list.length vc) := by rw [HO1.out.cell]; rfl
    have x4 : w1.cell? ⟨w.heap.size, 4, none⟩ = some (.slice va' t.names.length vc') := by rw [HO1.out.cell]; rfl
    have hxl := HO1.out.lt
    clear hT hst
    go_wp2_with fail
    obtain ⟨w1', hw1'⟩ : ∃ W, W = w1.alloc (Obj.cells #[.slice ta tm tc] 87) := ⟨_, rfl⟩
    rw [← hw1']
    have hb2 : Below w1.heap.size w1 w1' := by rw [hw1']; exact (Below.refl _ _).alloc (Nat.le_refl _) _
    have HOS : Hid (Owns w1' w1.heap.size #[.slice ta tm tc] 87) := by rw [hw1']; exact Owns.made _ _ _
    have HB2 : Hid (Below w.heap.size w w1') := HB1.out.trans (hb2.mono HB1.out.size)
    have HK2 : Hid (Keeps 0 w1 w1') := Keeps.of_below hb2 (Nat.le_refl _) 0
    have hz2 : w1'.heap.size = w1.heap.size + 1 := by rw [hw1']; simp
    have HZ2 : Hid (w1'.heap.size = w1.heap.size + 1) := hz2
    clear hw1' hb2 x0 x1 x2 x3 x4 hz2
    refine (withCell_any k l ta tm tc id s t _ _ w1 w1' HK2.out hs HST.out HT.out (HV.out _ (Keeps.of_below HB2.out (Nat.le_refl _) 0))).mono ?_
    rintro e w2 ⟨p, a3, n3, c3, hset, rfl, hth, hb3⟩
    have HP : Hid (SetP l id s t p) := Or.inl ⟨HST.out, hset⟩
    have HFI : Hid (p.1.length ≤ 12 ∧ ∀ x ∈ p.1, NdFine k x) := set_fine hk3 HST.out HL.out hset
    have HB3 : Hid (Below w.heap.size w w2) := HB2.out.trans (hb3.mono HB2.out.size)
    have HOS3 : Hid (Owns w2 w1.heap.size #[.slice ta tm tc] 87) := HOS.out.below hb3 HOS.out.lt
    have HTH : Hid (ThRow (w2.setCell ⟨w1.heap.size, 0, none⟩ (.slice a3 n3 c3)) k p.1 (.slice a3 n3 c3)) := hth _
      ⟨by have := HK2.out.size; have := hb3.size; simp [World.setCell]; omega, fun b _ h2 => (Below.heap_setCell _ _ _ _ (by show b ≠ w1.heap.size; omega)).trans ((hb3.block b (by have := HK2.out.size; omega)).trans (HK2.out.block b (Nat.zero_le _) h2))⟩
      ⟨by simp [World.setCell], fun b h1 _ => Below.heap_setCell _ _ _ _ (by show b ≠ w1.heap.size; have := HZ2.out; omega)⟩
    have s0 : w2.cell? ⟨w1.heap.size, 0, none⟩ = some (.slice ta tm tc) := by rw [HOS3.out.cell]; rfl
    have sf : ∀ o, w2.frozen? ⟨w1.heap.size, o, none⟩ = false := fun o => HOS3.out.frozen o
    have HB4 : Hid (Below w.heap.size w (w2.setCell ⟨w1.heap.size, 0, none⟩ (.slice a3 n3 c3))) := HB3.out.setCell (p := ⟨w1.heap.size, 0, none⟩) (by show w.heap.size ≤ w1.heap.size; omega) _
    clear hset hth hb3
    go_wp2_with fail
    refine (nodes_any k p.1 _ _ HFI.out.1 HFI.out.2 HTH.out).mono ?_
    rintro e w5 ⟨v5, rfl, hown5, hat5, hb5⟩
    obtain ⟨a5, hv5, _⟩ := OwnRow.len hown5
    subst hv5
    have HF : Hid (ImplSS k l id s t w (.returned (.tuple #[.slice a5 p.1.length p.1.length, .bool p.2])) w5) := ⟨p, _, _, HP.out, rfl, by have := HB4.out.size; omega, hown5, hat5, HB4.out.trans (hb5.mono HB4.out.size)⟩
    clear hown5 hat5 hb5
    go_wp2_with fail
    refine bodyPost_ret (v := .tuple #[.slice a5 p.1.length p.1.length, .bool p.2]) (by simp [results, Try.results19, go_sem]) rfl ?_
    exact HF.out

end Go.Proofs.Ytehdepnemdbopaa
