
/-
  DERIVED. THE WALKS OF slices.Clone (of branches, of a table), slices.IndexFunc, (impl.table).with.
-/
import Derived.Test.YtehdepnemdbopaaStFa
import Derived.Test.YtehdepnemdbopaaStOf
import Derived.Laws.AppendOwn
import Derived.Lib.SliceRun
namespace Go.Proofs.Ytehdepnemdbopaa
open Go.RowKit
set_option linter.unusedVariables false
set_option linter.unusedSimpArgs false

/-- The cells of the first m things of a row, one behind the other. -/
theorem Row.news {w : World} {n : Nat} {α : Type} {R : α → List Value → Prop} {l : List α} {b off : Nat} (h : ∀ (i : Nat) (h : i < l.length), ∃ cs, cs.length = n ∧ CellsAt w b (off + i * n) cs ∧ R l[i] cs) (h1 : ∀ x cs, R x cs → ∀ u ∈ cs, u.oneCell' = true) :
    ∀ m, m ≤ l.length → ∃ xs : List Value, xs.length = m * n ∧ (∀ j u, xs[j]? = some u → w.cell? ⟨b, off + j, none⟩ = some u) ∧ (∀ u ∈ xs, u.oneCell' = true) ∧ ∀ (i : Nat) (h : i < l.length), i < m → ∃ cs, cs.length = n ∧ (∀ q, q < n → xs[i * n + q]? = cs[q]?) ∧ R l[i] cs
  | 0, _ => ⟨[], by simp, by simp, by simp, fun i _ h => absurd h (Nat.not_lt_zero _)⟩
  | m + 1, hm => by
    obtain ⟨xs, a1, a2, a3, a4⟩ := Row.news h h1 m (by omega)
    obtain ⟨cs, b1, b2, b3⟩ := h m (by omega)
    refine ⟨xs ++ cs, by rw [List.length_append, a1, b1, Nat.succ_mul], fun j u hj => ?_, fun u hu => ?_, fun i hi him => ?_⟩
    · by_cases hlt : j < m * n
      · rw [List.getElem?_append_left (by omega)] at hj; exact a2 j u hj
      · rw [List.getElem?_append_right (by omega), a1] at hj
        have hq : j - m * n < cs.length := (List.getElem?_eq_some_iff.1 hj).1
        have := b2 (j - m * n) hq
        rw [hj, show off + m * n + (j - m * n) = off + j by omega] at this
        exact this
    · rcases List.mem_append.1 hu with h | h
      · exact a3 u h
      · exact h1 _ _ b3 u h
    · rcases Nat.lt_succ_iff_lt_or_eq.1 him with hlt | rfl
      · obtain ⟨cs', c1, c2, c3⟩ := a4 i hi hlt
        refine ⟨cs', c1, fun q hq => ?_, c3⟩
        have : i * n + n ≤ m * n := by rw [← Nat.succ_mul]; exact Nat.mul_le_mul_right _ hlt
        rw [List.getElem?_append_left (by omega)]; exact c2 q hq
      · exact ⟨cs, b1, fun q hq => by rw [List.getElem?_append_right (by omega), a1, Nat.add_sub_cancel_left], b3⟩

theorem Row.flat {w : World} {base n wide : Nat} {α : Type} {R : α → List Value → Prop} {l : List α} {v : Value} (h : Row w base n wide R l v) (h1 : ∀ x cs, R x cs → ∀ u ∈ cs, u.oneCell' = true) :
    (v = .slice none 0 0 ∧ l = []) ∨ ∃ (a : Addr) (cap : Nat) (xs : List Value), v = .slice (some a) l.length cap ∧ l.length * wide ≤ 140737488351232 ∧ xs.length = l.length * n ∧ (∀ j u, xs[j]? = some u → w.cell? (a.add j) = some u) ∧ (∀ u ∈ xs, u.oneCell' = true) ∧ ∀ (i : Nat) (h : i < l.length), ∃ cs, cs.length = n ∧ (∀ q, q < n → xs[i * n + q]? = cs[q]?) ∧ R l[i] cs := by
  rcases h with h | ⟨a, cap, rfl, h1', h2, h3, h4⟩
  · exact Or.inl h
  · refine Or.inr ⟨a, cap, ?_⟩
    by_cases hl : l = []
    · subst hl
      exact ⟨[], rfl, h3, by simp, by simp, by simp, fun i h => absurd h (Nat.not_lt_zero _)⟩
    · obtain ⟨b, off, hab, _⟩ : ∃ b off, a = ⟨b, off, none⟩ ∧ True := by
        obtain ⟨_, hs, _⟩ := h4 0 (List.length_pos_iff.2 hl)
        obtain ⟨b, off, s⟩ := a
        exact ⟨b, off, by simp at hs; rw [hs], trivial⟩
      subst hab
      obtain ⟨xs, a1, a2, a3, a4⟩ := Row.news (fun i hi => (h4 i hi).2.2) h1 l.length (Nat.le_refl _)
      exact ⟨xs, rfl, h3, a1, fun j u hj => by rw [Addr.add_lit]; exact a2 j u hj, a3, fun i hi => a4 i hi hi⟩

/-- What a clone is. -/
def CloneC {α : Type} (e : TypeId) (n : Nat) (R : α → List Value → Prop) (l : List α) (w : World) (en : Ending) (w' : World) : Prop :=
  ∃ v' xs, en = .returned v' ∧ w'.ownsRow w.heap.size e n v' l.length xs ∧ (∀ (i : Nat) (h : i < l.length), ∃ cs, cs.length = n ∧ (∀ q, q < n → xs[i * n + q]? = cs[q]?) ∧ R l[i] cs) ∧ Below w.heap.size w w'

theorem br_one {w : World} {base k : Nat} (x : ByteArray × Vl) (cs : List Value) (h : BrC w base k x cs) : ∀ u ∈ cs, u.oneCell' = true := by
  obtain ⟨f, rfl, hf⟩ := h
  obtain ⟨T, y, rfl⟩ := FmR.iface hf
  intro u hu
  simp at hu
  rcases hu with rfl | rfl <;> rfl
theorem th_one {w : World} {k : Nat} (x : Nd) (cs : List Value) (h : ThC w k x cs) : ∀ u ∈ cs, u.oneCell' = true := by
  obtain ⟨vt, rfl, hf⟩ := h
  obtain ⟨a, m, c, rfl⟩ := Row.slice hf
  intro u hu
  simp at hu
  rcases hu with rfl | rfl | rfl <;> rfl

set_option maxHeartbeats 1000000 in
set_option maxRecDepth 100000 in
theorem cloneB_any (R : ByteArray × Vl → List Value → Prop) (hR1 : ∀ x cs, R x cs → ∀ u ∈ cs, u.oneCell' = true) (l : List (ByteArray × Vl)) (v : Value) (w : World) (h : Row w 0 2 32 R l v) :
    Calls Try.prog 70 #[v] w (CloneC 112 2 R l w) := by
  rcases Row.flat h hR1 with ⟨rfl, rfl⟩ | ⟨a, cap, xs, rfl, h0, h1, h2, h3, h4⟩
  · clear h
    have q0 : ∀ (w : World) (a : Option Addr) (n c n' c' : Nat), (binOp .eql 104 (.slice a n c) (.slice none n' c')).run Try.prog w = .ok (.bool a.isNone) w := fun w a n c n' c' => Lib.run_eql_slice_nil w _ _ a n c n' c' Try.underlying104
    go_enter Try.func70, Try.ntmps70
    go_wp2_with fail
    go_ret
    exact ⟨_, [], rfl, World.ownsRow_nil _ _ _ _, fun i h => absurd h (Nat.not_lt_zero _), Below.refl _ _⟩
  · obtain ⟨i0, hi0, hz0, hz1, hz2⟩ := info_branch
    have H2 : Hid (∀ j u, xs[j]? = some u → w.cell? (a.add j) = some u) := h2
    have H4 : Hid _ := h4
    clear h h2 h4
    have q0 : ∀ (w : World) (a : Option Addr) (n c n' c' : Nat), (binOp .eql 104 (.slice a n c) (.slice none n' c')).run Try.prog w = .ok (.bool a.isNone) w := fun w a n c n' c' => Lib.run_eql_slice_nil w _ _ a n c n' c' Try.underlying104
    go_enter Try.func70, Try.ntmps70
    go_wp2_with (at_builtin; refine wpList_append_own _ rfl _ _ 104 rfl w.heap.size 112 i0 _ 2 32 Try.underlying104 hi0 hz0 hz1 hz2 rfl (by decide) _ _ _ rfl (World.ownsRow_made w #[] 0 (Nat.le_refl _) (Nat.zero_le _) rfl) a l.length cap xs rfl h1 (fun j u hj => Lib.cell?_alloc_some _ (H2.out j u hj)) h3 (by unfold maxLen; omega) (by omega) (by simp) ?_; intro v' w1 hown hgrow hnil)
    go_ret
    refine ⟨v', xs, rfl, by simpa using hown, H4.out, ((Below.refl _ w).alloc (Nat.le_refl _) _).grown hgrow (by simp) (by intro b hb; injection hb with hb; exact Nat.le_of_eq hb)⟩

set_option maxHeartbeats 1000000 in
set_option maxRecDepth 100000 in
theorem cloneT_any (R : Nd → List Value → Prop) (hR1 : ∀ x cs, R x cs → ∀ u ∈ cs, u.oneCell' = true) (l : List Nd) (v : Value) (w : World) (h : Row w 0 3 48 R l v) :
    Calls Try.prog 83 #[v] w (CloneC 127 3 R l w) := by
  rcases Row.flat h hR1 with ⟨rfl, rfl⟩ | ⟨a, cap, xs, rfl, h0, h1, h2, h3, h4⟩
  · clear h
    have q0 : ∀ (w : World) (a : Option Addr) (n c n' c' : Nat), (binOp .eql 85 (.slice a n c) (.slice none n' c')).run Try.prog w = .ok (.bool a.isNone) w := fun w a n c n' c' => Lib.run_eql_slice_nil w _ _ a n c n' c' Try.underlying85
    go_enter Try.func83, Try.ntmps83
    go_wp2_with fail
    go_ret
    exact ⟨_, [], rfl, World.ownsRow_nil _ _ _ _, fun i h => absurd h (Nat.not_lt_zero _), Below.refl _ _⟩
  · obtain ⟨i0, hi0, hz0, hz1, hz2⟩ := info_row
    have H2 : Hid (∀ j u, xs[j]? = some u → w.cell? (a.add j) = some u) := h2
    have H4 : Hid _ := h4
    clear h h2 h4
    have q0 : ∀ (w : World) (a : Option Addr) (n c n' c' : Nat), (binOp .eql 85 (.slice a n c) (.slice none n' c')).run Try.prog w = .ok (.bool a.isNone) w := fun w a n c n' c' => Lib.run_eql_slice_nil w _ _ a n c n' c' Try.underlying85
    go_enter Try.func83, Try.ntmps83
    go_wp2_with (at_builtin; refine wpList_append_own _ rfl _ _ 85 rfl w.heap.size 127 i0 _ 3 48 Try.underlying85 hi0 hz0 hz1 hz2 rfl (by decide) _ _ _ rfl (World.ownsRow_made w #[] 0 (Nat.le_refl _) (Nat.zero_le _) rfl) a l.length cap xs rfl h1 (fun j u hj => Lib.cell?_alloc_some _ (H2.out j u hj)) h3 (by unfold maxLen; omega) (by omega) (by simp) ?_; intro v' w1 hown hgrow hnil)
    go_ret
    refine ⟨v', xs, rfl, by simpa using hown, H4.out, ((Below.refl _ w).alloc (Nat.le_refl _) _).grown hgrow (by simp) (by intro b hb; injection hb with hb; exact Nat.le_of_eq hb)⟩

/-- One of a table's things is another. -/
theorem ThRow.put {w1 W : World} {B k g cap i : Nat} {l : List Nd} {xs : List Value} {ty : ByteArray} {c : Vl} {vt : Value} (hown : w1.ownsRow B 127 3 (.slice (some ⟨g, 0, none⟩) l.length cap) l.length xs) (hw : l.length * 48 ≤ 140737488351232) (hi : i < l.length)
    (kids : ∀ (m : Nat) (h : m < l.length), ∃ cs, cs.length = 3 ∧ (∀ q, q < 3 → xs[m * 3 + q]? = cs[q]?) ∧ ThC W k l[m] cs) (hc : Row W 0 2 32 (BrC W 0 k) (c.names.zip c.list) vt)
    (hW : W.heap[g]? = ((w1.setCell ⟨g, i * 3 + 1, none⟩ (.string ty)).setCell ⟨g, i * 3 + 2, none⟩ vt).heap[g]?) : ThRow W k (l.set i { l[i] with type := ty, cells := c }) (.slice (some ⟨g, 0, none⟩) l.length cap) := by
  rcases hown.2 with ⟨h1, _⟩ | ⟨g', cap', cur, h1, h2, h3, h4, h5, h6, h7⟩
  · simp at h1
  simp only [Value.slice.injEq, Option.some.injEq, Addr.mk.injEq, and_true, true_and] at h1
  obtain ⟨rfl, rfl⟩ := h1
  have hO : Owns w1 g cur 127 := h3
  have hOW : Owns W g ((cur.setIfInBounds (i * 3 + 1) (.string ty)).setIfInBounds (i * 3 + 2) vt) 127 := Owns.sameO ((hO.set _ _).set _ _) hW
  have hcl : l.length * 3 ≤ cap * 3 := Nat.mul_le_mul_right _ h4
  have hx : ∀ m, m < l.length * 3 → cur[m]? = xs[m]? := fun m hm => by rw [← h7, List.getElem?_take, if_pos hm, Array.getElem?_toList]
  refine Or.inr ⟨⟨g, 0, none⟩, cap, by rw [List.length_set], by rw [List.length_set]; exact h4, h5, by rw [List.length_set]; exact hw, fun m hm => ⟨Nat.zero_le _, rfl, ?_⟩⟩
  rw [List.length_set] at hm
  obtain ⟨cs, b1, b2, vm, rfl, b4⟩ := kids m hm
  by_cases hmi : m = i
  · subst hmi
    simp only [List.getElem_set_self]
    refine ⟨[.int .i64 l[m].id, .string ty, vt], rfl, fun q hq => ?_, vt, rfl, hc⟩
    show W.cell? ⟨g, 0 + m * 3 + q, none⟩ = _
    simp only [List.length_cons, List.length_nil] at hq
    rw [hOW.cell, Nat.zero_add]
    rcases (show q = 0 ∨ q = 1 ∨ q = 2 by omega) with rfl | rfl | rfl
    · rw [Array.getElem?_setIfInBounds_ne (by omega), Array.getElem?_setIfInBounds_ne (by omega), hx _ (by omega), b2 0 (by omega)]; rfl
    · rw [Array.getElem?_setIfInBounds_ne (by omega), Array.getElem?_setIfInBounds_self_of_lt (by omega)]; rfl
    · rw [Array.getElem?_setIfInBounds_self_of_lt (by rw [Array.size_setIfInBounds]; omega)]; rfl
  · simp only [List.getElem_set_ne (fun h => hmi h.symm)]
    refine ⟨_, rfl, fun q hq => ?_, vm, rfl, b4⟩
    show W.cell? ⟨g, 0 + m * 3 + q, none⟩ = _
    simp only [List.length_cons, List.length_nil] at hq
    have hne : m * 3 + q ≠ i * 3 + 1 ∧ m * 3 + q ≠ i * 3 + 2 := by omega
    rw [hOW.cell, Nat.zero_add, Array.getElem?_setIfInBounds_ne (Ne.symm hne.2), Array.getElem?_setIfInBounds_ne (Ne.symm hne.1), hx _ (by omega), b2 q (by omega)]

set_option maxHeartbeats 1000000 in
theorem with_any (k : Nat) (l : List Nd) (tv : Value) (id : Int) (ty : ByteArray) (va : Option Addr) (vm vc : Nat) (w0 w : World) (hk0 : Keeps 0 w0 w) (hl : l.length ≤ 12) (hasc : Asc l) (hrow : ThRow w0 k l tv) (i : Nat) (hi : i < l.length) (hid : l[i].id = id) :
    Calls Try.prog 71 #[tv, .int .i64 id, .agg #[.string ty, .slice va vm vc]] w fun e w' => ∃ a n m, e = .returned (.slice a n m) ∧ Below w.heap.size w w' ∧ ∀ (W : World) (c : Vl), Keeps 0 w0 W → Keeps w.heap.size w' W → Row W 0 2 32 (BrC W 0 k) (c.names.zip c.list) (.slice va vm vc) → ThRow W k (l.set i { l[i] with type := ty, cells := c }) (.slice a n m) := by
  have HS : Hid (∀ W, Keeps 0 w0 W → ThRow W k l tv) := fun W h => hrow.keeps h
  have HS0 : Hid (∀ W, Keeps 0 w0 W → Row W 0 3 48 (ThC w0 k) l tv) := fun W h => Row.keeps h (fun _ _ h => h) hrow
  have HID : Hid (l[i].id = id) := hid
  clear hrow hid
  go_enter Try.func71, Try.ntmps71
  go_wp2_with fail
  obtain ⟨W0, hW0⟩ : ∃ W, W = w.alloc (Obj.cells #[.string ty, .slice va vm vc] 125) := ⟨_, rfl⟩
  rw [← hW0]
  have hkW : Keeps 0 w0 W0 := by rw [hW0]; exact hk0.alloc _
  have HO0 : Hid (Owns W0 w.heap.size #[.string ty, .slice va vm vc] 125) := by rw [hW0]; exact Owns.made _ _ _
  have HB0 : Hid (Below w.heap.size w W0) := by rw [hW0]; exact (Below.refl _ _).alloc (Nat.le_refl _) _
  refine (cloneT_any (ThC w0 k) th_one l tv W0 (HS0.out _ hkW)).mono ?_
  rintro e w1 ⟨v', xs, rfl, hown, hkids, hb1⟩
  obtain ⟨oa, oc, rfl⟩ := own_slice hown
  have HB1 : Hid (Below w.heap.size w w1) := HB0.out.trans (hb1.mono HB0.out.size)
  have HO1 : Hid (Owns w1 w.heap.size #[.string ty, .slice va vm vc] 125) := HO0.out.below hb1 HO0.out.lt
  have HOWN : Hid (w1.ownsRow W0.heap.size 127 3 (.slice oa l.length oc) l.length xs) := hown
  have HKIDS : Hid (∀ W, Keeps 0 w0 W → ∀ (m : Nat) (h : m < l.length), ∃ cs, cs.length = 3 ∧ (∀ q, q < 3 → xs[m * 3 + q]? = cs[q]?) ∧ ThC W k l[m] cs) := fun W hW m hm => by
    obtain ⟨cs, c1, c2, c3⟩ := hkids m hm
    exact ⟨cs, c1, c2, ThC.keeps hW k _ _ c3⟩
  have HKB : Hid (Keeps 0 W0 w1) := Keeps.of_below hb1 (Nat.le_refl _) 0
  have hz0 : w.heap.size < W0.heap.size := HO0.out.lt
  clear hW0 hown hkids hb1
  go_wp2_with fail
  refine (place_any k l tv id w1 hl hasc (HS.out _ (hkW.trans HKB.out))).mono ?_
  rintro e w2 ⟨i', f, rfl, h1, h2, hb2⟩
  cases f
  · exact absurd HID.out (h2 rfl i hi)
  obtain ⟨hi2, hid2⟩ := h1 rfl
  obtain rfl : i' = i := by
    rcases Nat.lt_trichotomy i' i with h | h | h
    · have := hasc i' i hi h; have := HID.out; omega
    · exact h
    · have := hasc i i' hi2 h; have := HID.out; omega
  rcases HOWN.out.2 with ⟨he, h0⟩ | ⟨g, cap, cur, he, g2, g3, g4, g5, g6, g7⟩
  · omega
  simp only [Value.slice.injEq, true_and] at he
  obtain ⟨rfl, rfl⟩ := he
  have hOg : Owns w1 g cur 127 := g3
  have HOG : Hid (Owns w2 g cur 127) := hOg.below hb2 hOg.lt
  have HOWN2 : Hid (w2.ownsRow W0.heap.size 127 3 (.slice (some ⟨g, 0, none⟩) l.length oc) l.length xs) := ⟨HOWN.out.1, Or.inr ⟨g, oc, cur, rfl, g2, HOG.out, g4, g5, g6, g7⟩⟩
  have HB2 : Hid (Below w.heap.size w w2) := HB1.out.trans (hb2.mono HB1.out.size)
  have HO2 : Hid (Owns w2 w.heap.size #[.string ty, .slice va vm vc] 125) := HO1.out.below hb2 HO1.out.lt
  have t0 : w2.cell? ⟨w.heap.size, 0, none⟩ = some (.string ty) := by rw [HO2.out.cell]; rfl
  have t1 : w2.cell? ⟨w.heap.size, 1, none⟩ = some (.slice va vm vc) := by rw [HO2.out.cell]; rfl
  have hii : (i' : Int) < (l.length : Int) := by omega
  have hi12 : (i' : Int) ≤ 12 := by omega
  have hcap : l.length * 3 ≤ oc * 3 := Nat.mul_le_mul_right _ g4
  have s1 : w2.cell? ⟨g, i' * 3 + 1, none⟩ = some (cur[i' * 3 + 1]'(by omega)) := by rw [HOG.out.cell]; exact Array.getElem?_eq_getElem _
  have s2 : w2.cell? ⟨g, i' * 3 + 2, none⟩ = some (cur[i' * 3 + 2]'(by omega)) := by rw [HOG.out.cell]; exact Array.getElem?_eq_getElem _
  have sf := fun o => HOG.out.frozen o
  have hgl := HOG.out.lt
  have hgw : W0.heap.size ≤ g := g2
  have HX : Hid (W0.heap.size ≤ g) := g2
  generalize cur[i' * 3 + 1]'(by omega) = u1 at s1
  generalize cur[i' * 3 + 2]'(by omega) = u2 at s2
  have HPUT : Hid (∀ w', w' = (w2.setCell ⟨g, i' * 3 + 1, none⟩ (.string ty)).setCell ⟨g, i' * 3 + 1 + 1, none⟩ (.slice va vm vc) → Below w.heap.size w w' ∧ ∀ (W : World) (c : Vl), Keeps 0 w0 W → Keeps w.heap.size w' W → Row W 0 2 32 (BrC W 0 k) (c.names.zip c.list) (.slice va vm vc) → ThRow W k (l.set i' { l[i'] with type := ty, cells := c }) (.slice (some ⟨g, 0, none⟩) l.length oc)) := fun w' hw' => by
    have hz : w'.heap.size = w2.heap.size := by rw [hw']; simp [World.setCell]
    refine ⟨by rw [hw']; exact (HB2.out.setCell (p := ⟨g, i' * 3 + 1, none⟩) (by show w.heap.size ≤ g; omega) _).setCell (p := ⟨g, i' * 3 + 1 + 1, none⟩) (by show w.heap.size ≤ g; omega) _, fun W c hk hk' hR => ?_⟩
    exact ThRow.put HOWN2.out (by omega) hi (HKIDS.out W hk) hR ((hk'.block g (by omega) (by omega)).trans (by rw [hw']))
  clear h1 h2 hb2 hOg g2 g3 g4 g5 g6 g7 HOG HOWN HO1 HO2 HB1 hid2 hcap hasc
  go_wp2_with fail
  go_ret
  exact ⟨_, _, _, rfl, (HPUT.out _ rfl).1, (HPUT.out _ rfl).2⟩

end Go.Proofs.Ytehdepnemdbopaa
